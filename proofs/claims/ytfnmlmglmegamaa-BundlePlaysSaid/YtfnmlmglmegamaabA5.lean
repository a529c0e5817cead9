/- The functions of layer 12, FK. Conditions: none. -/
import Derived.Test.YtfnmlmglmegamaabA4
namespace Go.Proofs.Ytfnmlmglmegamaa
open Go Go.RowKit
set_option linter.unusedVariables false
set_option linter.unusedSimpArgs false
set_option maxRecDepth 20000
abbrev Mm (a0 : Int × (Int × (Int × (Int × Int × Int × Int) × (Int × Int × Int × Int)) × (List (Int × Int × Int))) × Bool) (a1 : Value) : List Value := [.int .i64 ((Ag a0.2.1).1), .int .i64 ((Ag a0.2.1).2.1.1), .int .i64 ((Ag a0.2.1).2.1.2.1.1), .int .i64 ((Ag a0.2.1).2.1.2.1.2.1), .int .i64 ((Ag a0.2.1).2.1.2.1.2.2.1), .int .i64 ((Ag a0.2.1).2.1.2.1.2.2.2), .int .i64 ((Ag a0.2.1).2.1.2.2.1), .int .i64 ((Ag a0.2.1).2.1.2.2.2.1), .int .i64 ((Ag a0.2.1).2.1.2.2.2.2.1), .int .i64 ((Ag a0.2.1).2.1.2.2.2.2.2), a1]
abbrev Hh (a0 : Int × (Int × (Int × (Int × Int × Int × Int) × (Int × Int × Int × Int)) × (List (Int × Int × Int))) × Bool) (a1 : Value) : List Value := [.int .i64 ((Ab a0.2.1).1), .int .i64 ((Ab a0.2.1).2.1.1), .int .i64 ((Ab a0.2.1).2.1.2.1.1), .int .i64 ((Ab a0.2.1).2.1.2.1.2.1), .int .i64 ((Ab a0.2.1).2.1.2.1.2.2.1), .int .i64 ((Ab a0.2.1).2.1.2.1.2.2.2), .int .i64 ((Ab a0.2.1).2.1.2.2.1), .int .i64 ((Ab a0.2.1).2.1.2.2.2.1), .int .i64 ((Ab a0.2.1).2.1.2.2.2.2.1), .int .i64 ((Ab a0.2.1).2.1.2.2.2.2.2), a1]
noncomputable def E2 (p0 : List (Int × (Int × (Int × Int × Int × Int) × (Int × Int × Int × Int)) × (List (Int × Int × Int)))) (p1 : Int × (Int × (Int × (Int × Int × Int × Int) × (Int × Int × Int × Int)) × (List (Int × Int × Int))) × Bool) (p2 : Int) (p3 : Int) : Option ((List (Int × (Int × (Int × Int × Int × Int) × (Int × Int × Int × Int)) × (List (Int × Int × Int)))) × Int) := (Dm p0).bind fun x1 => (FJ p1.2.1 p2).bind fun x2 => (if (!x2) = true then some (x1, 2) else (if p1.1 = 1 then (RA x1.length (((p0.length : Int)).toNat)).bind fun x3 => (Gb x1 p1 p3).bind fun x4 => some (x4.1, x4.2) else (if p1.1 = 2 then (CY x1 p1.2.1 ((Ag p1.2.1).1, ((Ag p1.2.1).2.1.1, ((Ag p1.2.1).2.1.2.1.1, (Ag p1.2.1).2.1.2.1.2.1, (Ag p1.2.1).2.1.2.1.2.2.1, (Ag p1.2.1).2.1.2.1.2.2.2), ((Ag p1.2.1).2.1.2.2.1, (Ag p1.2.1).2.1.2.2.2.1, (Ag p1.2.1).2.1.2.2.2.2.1, (Ag p1.2.1).2.1.2.2.2.2.2)), (Ag p1.2.1).2.2)).bind fun x5 => some (x5, 0) else (if p1.1 = 3 then (Ax x1 ((Ab p1.2.1).1, ((Ab p1.2.1).2.1.1, ((Ab p1.2.1).2.1.2.1.1, (Ab p1.2.1).2.1.2.1.2.1, (Ab p1.2.1).2.1.2.1.2.2.1, (Ab p1.2.1).2.1.2.1.2.2.2), ((Ab p1.2.1).2.1.2.2.1, (Ab p1.2.1).2.1.2.2.2.1, (Ab p1.2.1).2.1.2.2.2.2.1, (Ab p1.2.1).2.1.2.2.2.2.2)), (Ab p1.2.1).2.2)).bind fun x6 => (if (!x6) = true then some (x1, 7) else (CR x1 p1.2.1 ((Ab p1.2.1).1, ((Ab p1.2.1).2.1.1, ((Ab p1.2.1).2.1.2.1.1, (Ab p1.2.1).2.1.2.1.2.1, (Ab p1.2.1).2.1.2.1.2.2.1, (Ab p1.2.1).2.1.2.1.2.2.2), ((Ab p1.2.1).2.1.2.2.1, (Ab p1.2.1).2.1.2.2.2.1, (Ab p1.2.1).2.1.2.2.2.2.1, (Ab p1.2.1).2.1.2.2.2.2.2)), (Ab p1.2.1).2.2)).bind fun x7 => some (x7, 0)) else (if p1.1 = 4 then (A9 x1 ((Ag p1.2.1).1, ((Ag p1.2.1).2.1.1, ((Ag p1.2.1).2.1.2.1.1, (Ag p1.2.1).2.1.2.1.2.1, (Ag p1.2.1).2.1.2.1.2.2.1, (Ag p1.2.1).2.1.2.1.2.2.2), ((Ag p1.2.1).2.1.2.2.1, (Ag p1.2.1).2.1.2.2.2.1, (Ag p1.2.1).2.1.2.2.2.2.1, (Ag p1.2.1).2.1.2.2.2.2.2)), (Ag p1.2.1).2.2)).bind fun x8 => some (x8, 0) else (if p1.1 = 5 then (Ax x1 ((Ab p1.2.1).1, ((Ab p1.2.1).2.1.1, ((Ab p1.2.1).2.1.2.1.1, (Ab p1.2.1).2.1.2.1.2.1, (Ab p1.2.1).2.1.2.1.2.2.1, (Ab p1.2.1).2.1.2.1.2.2.2), ((Ab p1.2.1).2.1.2.2.1, (Ab p1.2.1).2.1.2.2.2.1, (Ab p1.2.1).2.1.2.2.2.2.1, (Ab p1.2.1).2.1.2.2.2.2.2)), (Ab p1.2.1).2.2)).bind fun x9 => (if (!x9) = true then some (x1, 7) else (A1 x1 ((Ab p1.2.1).1, ((Ab p1.2.1).2.1.1, ((Ab p1.2.1).2.1.2.1.1, (Ab p1.2.1).2.1.2.1.2.1, (Ab p1.2.1).2.1.2.1.2.2.1, (Ab p1.2.1).2.1.2.1.2.2.2), ((Ab p1.2.1).2.1.2.2.1, (Ab p1.2.1).2.1.2.2.2.1, (Ab p1.2.1).2.1.2.2.2.2.1, (Ab p1.2.1).2.1.2.2.2.2.2)), (Ab p1.2.1).2.2)).bind fun x10 => some (x10, 0)) else some (x1, 2)))))))
theorem JK (Y : Nat → Prop) (w0 : World) (v1 : Value) (v2 : Value) (p0 : List (Int × (Int × (Int × Int × Int × Int) × (Int × Int × Int × Int)) × (List (Int × Int × Int)))) (p1 : Int × (Int × (Int × (Int × Int × Int × Int) × (Int × Int × Int × Int)) × (List (Int × Int × Int))) × Bool) (p2 : Int) (p3 : Int) (r : (List (Int × (Int × (Int × Int × Int × Int) × (Int × Int × Int × Int)) × (List (Int × Int × Int)))) × Int) (H : E2 p0 p1 p2 p3 = some r) (s_v1 : Sl w0 Y AK v1 p0) (s_v2 : Sl w0 Y Bk v2 p1.2.1.2.2) :
    Calls Try.prog 37 #[v1, .agg #[.int .i64 p1.1, .int .i64 p1.2.1.1, .int .i64 p1.2.1.2.1.1, .int .i64 p1.2.1.2.1.2.1.1, .int .i64 p1.2.1.2.1.2.1.2.1, .int .i64 p1.2.1.2.1.2.1.2.2.1, .int .i64 p1.2.1.2.1.2.1.2.2.2, .int .i64 p1.2.1.2.1.2.2.1, .int .i64 p1.2.1.2.1.2.2.2.1, .int .i64 p1.2.1.2.1.2.2.2.2.1, .int .i64 p1.2.1.2.1.2.2.2.2.2, v2, .bool p1.2.2], .int .i64 p2, .int .i64 p3] w0 fun e w' => ∃ x : Value, e = .returned (.tuple #[x, .int .i64 r.2]) ∧ Stw ⟨Y, [], w0⟩ [] [Bo (x) AK r.1] w' := by
 refine enter Try.func37 Aa Try.ntmps37 Aa fun a W => ?_
 have F := Stw.start Y w0
 obtain ⟨v3, h1, s_v1⟩ := s_v1.ex A4
 have h_v1 := F.nx s_v1
 have h_v2 := F.nx s_v2
 unfold E2 at H
 refine vc tk 2 W F fun a w W F => ?_
 refine BR (cs := [.int .i64 p1.1, .int .i64 p1.2.1.1, .int .i64 p1.2.1.2.1.1, .int .i64 p1.2.1.2.1.2.1.1, .int .i64 p1.2.1.2.1.2.1.2.1, .int .i64 p1.2.1.2.1.2.1.2.2.1, .int .i64 p1.2.1.2.1.2.1.2.2.2, .int .i64 p1.2.1.2.1.2.2.1, .int .i64 p1.2.1.2.1.2.2.2.1, .int .i64 p1.2.1.2.1.2.2.2.2.1, .int .i64 p1.2.1.2.1.2.2.2.2.2, v2, .bool p1.2.2]) W F Aa Aa Aa fun b1 a w W F => ?_
 refine BJ tk 7 W F fun a w W F => ?_
 obtain ⟨x1, h2, H⟩ := Af H
 refine AA (Ml := []) (Zl := []) (β := {x : Value // IK x (((p0.length : Int)).toNat)}) (rv := fun x => x.1) (MM := fun x => []) (ZZ := fun x => [row x.1 37 AK x1]) W F Sh Aa Aa (fun hL => Fy _ w (v1) p0 _ h2 (Sl.hide A4 h1 (F.old s_v1))) fun x a w W F => ?_
 obtain ⟨v4, rfl⟩ : ∃ y, y = x := ⟨x, rfl⟩
 have F : Stw ⟨Y, [], w0⟩ [(b1, [.int .i64 p1.1, .int .i64 p1.2.1.1, .int .i64 p1.2.1.2.1.1, .int .i64 p1.2.1.2.1.2.1.1, .int .i64 p1.2.1.2.1.2.1.2.1, .int .i64 p1.2.1.2.1.2.1.2.2.1, .int .i64 p1.2.1.2.1.2.1.2.2.2, .int .i64 p1.2.1.2.1.2.2.1, .int .i64 p1.2.1.2.1.2.2.2.1, .int .i64 p1.2.1.2.1.2.2.2.2.1, .int .i64 p1.2.1.2.1.2.2.2.2.2, v2, .bool p1.2.2])] [row v4.1 37 AK x1] w := F
 refine Eo tk 9 [0] W F (ai fun a w W F => ?_)
 obtain ⟨x2, h3, H⟩ := Af H
 refine ls W F Aa (AM (v := Value.bool x2) W Tu Aa (fun w F => Kf any w (v2) p1.2.1 p2 _ h3 (Dc (An h_v2) F))) fun a w W F => ?_
 refine BJ tk 3 W F fun a w W F => ?_
 refine BE W Aa H (fun W H => ?_) fun W H => ?_
 ·
  refine vc tk 7 W F fun a w W F => ?_
  refine Al (Aq ?_)
  have H := Av H
  subst H
  refine CI (.inl Aa) W F Aa (Ai W Aa) (Ai W Aa) ?_
  have F := F.freeze
  have F := F.sub (M' := []) (Z' := [Bo v4.1 AK x1]) (List.nil_sublist _) (List.Sublist.refl _)
  exact ⟨(v4.1), Aa, F⟩
 refine KR tk 16 [0] W F (ai fun a w W F => ?_)
 refine CL W Aa (fun hb => ?_) fun hb => ?_
 ·
  have H := B4 (Cn hb) H
  rw [hb] at W
  clear hb
  refine Fq tk 5 [0] W F (ai fun a w W F => ?_)
  obtain ⟨x3, h4, H⟩ := Af H
  obtain ⟨x4, h5, H⟩ := Af H
  refine AA (Ml := []) (Zl := [row v4.1 37 AK x1]) (β := Value) (rv := fun x => .tuple #[x, .int .i64 x4.2]) (MM := fun x => []) (ZZ := fun x => [Bo x AK x4.1]) W F TA Aa Aa (fun hL => KT _ _ w (v4.1) (v2) x1 p1 p3 _ h5 (Of h4 v4.2) (F.old s_v2) hL) fun x a w W F => ?_
  obtain ⟨v5, rfl⟩ : ∃ y, y = x := ⟨x, rfl⟩
  have F : Stw ⟨Y, [], w0⟩ [(b1, [.int .i64 p1.1, .int .i64 p1.2.1.1, .int .i64 p1.2.1.2.1.1, .int .i64 p1.2.1.2.1.2.1.1, .int .i64 p1.2.1.2.1.2.1.2.1, .int .i64 p1.2.1.2.1.2.1.2.2.1, .int .i64 p1.2.1.2.1.2.1.2.2.2, .int .i64 p1.2.1.2.1.2.2.1, .int .i64 p1.2.1.2.1.2.2.2.1, .int .i64 p1.2.1.2.1.2.2.2.2.1, .int .i64 p1.2.1.2.1.2.2.2.2.2, v2, .bool p1.2.2])] [Bo v5 AK x4.1] w := F
  refine ls W F Aa (AN (v := v5) W Aa Aa).q fun a w W F => ?_
  refine ls W F Aa (AN (v := Value.int .i64 x4.2) W Aa Aa).q fun a w W F => ?_
  refine BJ tk 4 W F fun a w W F => ?_
  refine Al (Az (Aq ?_))
  have H := Av H
  subst H
  refine CI (.inl Aa) W F Aa (Ai W Aa) (Ai W Aa) ?_
  have F := F.sub (M' := []) (Z' := [Bo v5 AK x4.1]) (List.nil_sublist _) (List.Sublist.refl _)
  exact ⟨(v5), Aa, F⟩
 have H := B5 (Cp hb) H
 rw [hb] at W
 clear hb
 refine vc tk 6 W F fun a w W F => ?_
 refine CL W Aa (fun hb => ?_) fun hb => ?_
 ·
  have H := B4 (Cn hb) H
  rw [hb] at W
  clear hb
  refine GB ?_
  refine DN [(true, 0), (true, 1), (true, 2), (true, 3), (true, 4), (false, 5), (false, 6), (false, 7), (false, 8)] (CN ⟨Y, [], w0⟩ [(some 6, b1, [.int .i64 p1.1, .int .i64 p1.2.1.1, .int .i64 p1.2.1.2.1.1, .int .i64 p1.2.1.2.1.2.1.1, .int .i64 p1.2.1.2.1.2.1.2.1, .int .i64 p1.2.1.2.1.2.1.2.2.1, .int .i64 p1.2.1.2.1.2.1.2.2.2, .int .i64 p1.2.1.2.1.2.2.1, .int .i64 p1.2.1.2.1.2.2.2.1, .int .i64 p1.2.1.2.1.2.2.2.2.1, .int .i64 p1.2.1.2.1.2.2.2.2.2, v2, .bool p1.2.2]), (some 5, b1, [.int .i64 p1.1, .int .i64 p1.2.1.1, .int .i64 p1.2.1.2.1.1, .int .i64 p1.2.1.2.1.2.1.1, .int .i64 p1.2.1.2.1.2.1.2.1, .int .i64 p1.2.1.2.1.2.1.2.2.1, .int .i64 p1.2.1.2.1.2.1.2.2.2, .int .i64 p1.2.1.2.1.2.2.1, .int .i64 p1.2.1.2.1.2.2.2.1, .int .i64 p1.2.1.2.1.2.2.2.2.1, .int .i64 p1.2.1.2.1.2.2.2.2.2, v2, .bool p1.2.2])] []) (fun ch a d v w h => by cases d <;> exact h) MO (by kernel_rfl) F (fun w F => ⟨_, _, F, (all_cons (fun _ => (.head _)) (all_cons (fun _ => (.head _)) Ap)), Ap⟩) fun w F => ?_
  refine BQ (R := []) W Aa Aa (yC fun M Z hN hZ => Am W Aa) Aa Aa fun a W => ?_
  refine BQ (R := []) W Aa Aa (yC fun M Z hN hZ => Aj Jp Aa Aa Aa EM W Aa 1 Aa) Aa Aa fun a W => ?_
  refine BQ (R := [6]) W Aa Aa (yC fun M Z hN hZ => De (cs := [.int .i64 p1.1, .int .i64 p1.2.1.1, .int .i64 p1.2.1.2.1.1, .int .i64 p1.2.1.2.1.2.1.1, .int .i64 p1.2.1.2.1.2.1.2.1, .int .i64 p1.2.1.2.1.2.1.2.2.1, .int .i64 p1.2.1.2.1.2.1.2.2.2, .int .i64 p1.2.1.2.1.2.2.1, .int .i64 p1.2.1.2.1.2.2.2.1, .int .i64 p1.2.1.2.1.2.2.2.2.1, .int .i64 p1.2.1.2.1.2.2.2.2.2, v2, .bool p1.2.2]) (v := Value.agg #[.int .i64 p1.2.1.1, .int .i64 p1.2.1.2.1.1, .int .i64 p1.2.1.2.1.2.1.1, .int .i64 p1.2.1.2.1.2.1.2.1, .int .i64 p1.2.1.2.1.2.1.2.2.1, .int .i64 p1.2.1.2.1.2.1.2.2.2, .int .i64 p1.2.1.2.1.2.2.1, .int .i64 p1.2.1.2.1.2.2.2.1, .int .i64 p1.2.1.2.1.2.2.2.2.1, .int .i64 p1.2.1.2.1.2.2.2.2.2, v2]) W Aa (hN ((some 6), b1, [.int .i64 p1.1, .int .i64 p1.2.1.1, .int .i64 p1.2.1.2.1.1, .int .i64 p1.2.1.2.1.2.1.1, .int .i64 p1.2.1.2.1.2.1.2.1, .int .i64 p1.2.1.2.1.2.1.2.2.1, .int .i64 p1.2.1.2.1.2.1.2.2.2, .int .i64 p1.2.1.2.1.2.2.1, .int .i64 p1.2.1.2.1.2.2.2.1, .int .i64 p1.2.1.2.1.2.2.2.2.1, .int .i64 p1.2.1.2.1.2.2.2.2.2, v2, .bool p1.2.2]) (.head _) Aa) EM Aa) (by kernel_rfl) Aa fun a W => ?_
  refine BQ (R := []) W Aa Aa (yC fun M Z hN hZ => Aj Jp Aa Aa Aa EM W Aa 1 Aa) Aa Aa fun a W => ?_
  refine BQ (R := [5]) W Aa Aa (yC fun M Z hN hZ => De (cs := [.int .i64 p1.1, .int .i64 p1.2.1.1, .int .i64 p1.2.1.2.1.1, .int .i64 p1.2.1.2.1.2.1.1, .int .i64 p1.2.1.2.1.2.1.2.1, .int .i64 p1.2.1.2.1.2.1.2.2.1, .int .i64 p1.2.1.2.1.2.1.2.2.2, .int .i64 p1.2.1.2.1.2.2.1, .int .i64 p1.2.1.2.1.2.2.2.1, .int .i64 p1.2.1.2.1.2.2.2.2.1, .int .i64 p1.2.1.2.1.2.2.2.2.2, v2, .bool p1.2.2]) (v := Value.agg #[.int .i64 p1.2.1.1, .int .i64 p1.2.1.2.1.1, .int .i64 p1.2.1.2.1.2.1.1, .int .i64 p1.2.1.2.1.2.1.2.1, .int .i64 p1.2.1.2.1.2.1.2.2.1, .int .i64 p1.2.1.2.1.2.1.2.2.2, .int .i64 p1.2.1.2.1.2.2.1, .int .i64 p1.2.1.2.1.2.2.2.1, .int .i64 p1.2.1.2.1.2.2.2.2.1, .int .i64 p1.2.1.2.1.2.2.2.2.2, v2]) W Aa (hN ((some 5), b1, [.int .i64 p1.1, .int .i64 p1.2.1.1, .int .i64 p1.2.1.2.1.1, .int .i64 p1.2.1.2.1.2.1.1, .int .i64 p1.2.1.2.1.2.1.2.1, .int .i64 p1.2.1.2.1.2.1.2.2.1, .int .i64 p1.2.1.2.1.2.1.2.2.2, .int .i64 p1.2.1.2.1.2.2.1, .int .i64 p1.2.1.2.1.2.2.2.1, .int .i64 p1.2.1.2.1.2.2.2.2.1, .int .i64 p1.2.1.2.1.2.2.2.2.2, v2, .bool p1.2.2]) (.tail _ (.head _)) Aa) EM Aa) (by kernel_rfl) Aa fun a W => ?_
  refine CT Aa ?_
  refine AA (Ml := []) (Zl := []) (β := Nat × Value) (rv := fun x => .func (.func 71) #[] #[.pointer (some ⟨x.1, 0, none⟩)]) (MM := fun x => [(x.1, [.int .i64 ((Ag p1.2.1).1), .int .i64 ((Ag p1.2.1).2.1.1), .int .i64 ((Ag p1.2.1).2.1.2.1.1), .int .i64 ((Ag p1.2.1).2.1.2.1.2.1), .int .i64 ((Ag p1.2.1).2.1.2.1.2.2.1), .int .i64 ((Ag p1.2.1).2.1.2.1.2.2.2), .int .i64 ((Ag p1.2.1).2.1.2.2.1), .int .i64 ((Ag p1.2.1).2.1.2.2.2.1), .int .i64 ((Ag p1.2.1).2.1.2.2.2.2.1), .int .i64 ((Ag p1.2.1).2.1.2.2.2.2.2), x.2])]) (ZZ := fun x => [Bo x.2 Bk ((Ag p1.2.1).2.2)]) W F SQ Aa Aa (fun hL => GL _ w (v2) p1.2.1 _ Aa (F.old s_v2)) fun x a w W F => ?_
  obtain ⟨b2, v6⟩ := x
  have F : Stw ⟨Y, [], w0⟩ [(b2, (Mm p1 v6)), (b1, [.int .i64 p1.1, .int .i64 p1.2.1.1, .int .i64 p1.2.1.2.1.1, .int .i64 p1.2.1.2.1.2.1.1, .int .i64 p1.2.1.2.1.2.1.2.1, .int .i64 p1.2.1.2.1.2.1.2.2.1, .int .i64 p1.2.1.2.1.2.1.2.2.2, .int .i64 p1.2.1.2.1.2.2.1, .int .i64 p1.2.1.2.1.2.2.2.1, .int .i64 p1.2.1.2.1.2.2.2.2.1, .int .i64 p1.2.1.2.1.2.2.2.2.2, v2, .bool p1.2.2])] [Bo v6 Bk ((Ag p1.2.1).2.2), row v4.1 37 AK x1] w := F
  refine A0 (N2 := []) (NZ2 := []) (N3 := [(some 6, b1, [.int .i64 p1.1, .int .i64 p1.2.1.1, .int .i64 p1.2.1.2.1.1, .int .i64 p1.2.1.2.1.2.1.1, .int .i64 p1.2.1.2.1.2.1.2.1, .int .i64 p1.2.1.2.1.2.1.2.2.1, .int .i64 p1.2.1.2.1.2.1.2.2.2, .int .i64 p1.2.1.2.1.2.2.1, .int .i64 p1.2.1.2.1.2.2.2.1, .int .i64 p1.2.1.2.1.2.2.2.2.1, .int .i64 p1.2.1.2.1.2.2.2.2.2, v2, .bool p1.2.2]), (some 5, b1, [.int .i64 p1.1, .int .i64 p1.2.1.1, .int .i64 p1.2.1.2.1.1, .int .i64 p1.2.1.2.1.2.1.1, .int .i64 p1.2.1.2.1.2.1.2.1, .int .i64 p1.2.1.2.1.2.1.2.2.1, .int .i64 p1.2.1.2.1.2.1.2.2.2, .int .i64 p1.2.1.2.1.2.2.1, .int .i64 p1.2.1.2.1.2.2.2.1, .int .i64 p1.2.1.2.1.2.2.2.2.1, .int .i64 p1.2.1.2.1.2.2.2.2.2, v2, .bool p1.2.2])]) (NZ3 := []) F Aa Aa (all_cons (fun _ => (.tail _ (.head _))) (all_cons (fun h => AE (by kernel_rfl) h) Ap)) Ap ?_
  refine CT Aa ?_
  obtain ⟨x5, h6, H⟩ := Af H
  have F := F.frontZ (i := 1) Aa Aa
  refine AA (Ml := []) (Zl := [row v4.1 37 AK x1]) (β := Value) (rv := fun x => x) (MM := fun x => []) (ZZ := fun x => [row x 37 AK x5]) W F Se Aa Aa (fun hL => HW _ _ w (v4.1) (v2) b2 (v6) x1 p1.2.1 ((Ag p1.2.1).1, ((Ag p1.2.1).2.1.1, ((Ag p1.2.1).2.1.2.1.1, (Ag p1.2.1).2.1.2.1.2.1, (Ag p1.2.1).2.1.2.1.2.2.1, (Ag p1.2.1).2.1.2.1.2.2.2), ((Ag p1.2.1).2.1.2.2.1, (Ag p1.2.1).2.1.2.2.2.1, (Ag p1.2.1).2.1.2.2.2.2.1, (Ag p1.2.1).2.1.2.2.2.2.2)), (Ag p1.2.1).2.2) _ h6 (F.old s_v2) (Sl.nxF (F.item (i := 1) Aa) (fun g hg => H0 hg)) (Lh (Ml := []) (Zl := [row v4.1 37 AK x1]) F 0 Aa) hL) fun x a w W F => ?_
  obtain ⟨v7, rfl⟩ : ∃ y, y = x := ⟨x, rfl⟩
  have F : Stw ⟨Y, [], w0⟩ [(b2, (Mm p1 v6)), (b1, [.int .i64 p1.1, .int .i64 p1.2.1.1, .int .i64 p1.2.1.2.1.1, .int .i64 p1.2.1.2.1.2.1.1, .int .i64 p1.2.1.2.1.2.1.2.1, .int .i64 p1.2.1.2.1.2.1.2.2.1, .int .i64 p1.2.1.2.1.2.1.2.2.2, .int .i64 p1.2.1.2.1.2.2.1, .int .i64 p1.2.1.2.1.2.2.2.1, .int .i64 p1.2.1.2.1.2.2.2.2.1, .int .i64 p1.2.1.2.1.2.2.2.2.2, v2, .bool p1.2.2])] [row v7 37 AK x5, Bo v6 Bk ((Ag p1.2.1).2.2)] w := F
  refine A0 (N2 := []) (NZ2 := []) (N3 := [(some 6, b1, [.int .i64 p1.1, .int .i64 p1.2.1.1, .int .i64 p1.2.1.2.1.1, .int .i64 p1.2.1.2.1.2.1.1, .int .i64 p1.2.1.2.1.2.1.2.1, .int .i64 p1.2.1.2.1.2.1.2.2.1, .int .i64 p1.2.1.2.1.2.1.2.2.2, .int .i64 p1.2.1.2.1.2.2.1, .int .i64 p1.2.1.2.1.2.2.2.1, .int .i64 p1.2.1.2.1.2.2.2.2.1, .int .i64 p1.2.1.2.1.2.2.2.2.2, v2, .bool p1.2.2]), (some 5, b1, [.int .i64 p1.1, .int .i64 p1.2.1.1, .int .i64 p1.2.1.2.1.1, .int .i64 p1.2.1.2.1.2.1.1, .int .i64 p1.2.1.2.1.2.1.2.1, .int .i64 p1.2.1.2.1.2.1.2.2.1, .int .i64 p1.2.1.2.1.2.1.2.2.2, .int .i64 p1.2.1.2.1.2.2.1, .int .i64 p1.2.1.2.1.2.2.2.1, .int .i64 p1.2.1.2.1.2.2.2.2.1, .int .i64 p1.2.1.2.1.2.2.2.2.2, v2, .bool p1.2.2])]) (NZ3 := []) F Aa Aa (all_cons (fun h => AE (by kernel_rfl) h) (all_cons (fun h => AE (by kernel_rfl) h) Ap)) Ap ?_
  refine CT Aa ?_
  refine ls W F Aa (BI W Aa).q fun a w W F => ?_
  refine A0 (N2 := []) (NZ2 := []) (N3 := [(some 6, b1, [.int .i64 p1.1, .int .i64 p1.2.1.1, .int .i64 p1.2.1.2.1.1, .int .i64 p1.2.1.2.1.2.1.1, .int .i64 p1.2.1.2.1.2.1.2.1, .int .i64 p1.2.1.2.1.2.1.2.2.1, .int .i64 p1.2.1.2.1.2.1.2.2.2, .int .i64 p1.2.1.2.1.2.2.1, .int .i64 p1.2.1.2.1.2.2.2.1, .int .i64 p1.2.1.2.1.2.2.2.2.1, .int .i64 p1.2.1.2.1.2.2.2.2.2, v2, .bool p1.2.2]), (some 5, b1, [.int .i64 p1.1, .int .i64 p1.2.1.1, .int .i64 p1.2.1.2.1.1, .int .i64 p1.2.1.2.1.2.1.1, .int .i64 p1.2.1.2.1.2.1.2.1, .int .i64 p1.2.1.2.1.2.1.2.2.1, .int .i64 p1.2.1.2.1.2.1.2.2.2, .int .i64 p1.2.1.2.1.2.2.1, .int .i64 p1.2.1.2.1.2.2.2.1, .int .i64 p1.2.1.2.1.2.2.2.2.1, .int .i64 p1.2.1.2.1.2.2.2.2.2, v2, .bool p1.2.2])]) (NZ3 := []) F Aa Aa (all_cons (fun h => AE (by kernel_rfl) h) (all_cons (fun h => AE (by kernel_rfl) h) Ap)) Ap ?_
  refine CT Aa ?_
  refine ls W F Aa (BI W Aa).q fun a w W F => ?_
  refine A0 (N2 := []) (NZ2 := []) (N3 := [(some 6, b1, [.int .i64 p1.1, .int .i64 p1.2.1.1, .int .i64 p1.2.1.2.1.1, .int .i64 p1.2.1.2.1.2.1.1, .int .i64 p1.2.1.2.1.2.1.2.1, .int .i64 p1.2.1.2.1.2.1.2.2.1, .int .i64 p1.2.1.2.1.2.1.2.2.2, .int .i64 p1.2.1.2.1.2.2.1, .int .i64 p1.2.1.2.1.2.2.2.1, .int .i64 p1.2.1.2.1.2.2.2.2.1, .int .i64 p1.2.1.2.1.2.2.2.2.2, v2, .bool p1.2.2]), (some 5, b1, [.int .i64 p1.1, .int .i64 p1.2.1.1, .int .i64 p1.2.1.2.1.1, .int .i64 p1.2.1.2.1.2.1.1, .int .i64 p1.2.1.2.1.2.1.2.1, .int .i64 p1.2.1.2.1.2.1.2.2.1, .int .i64 p1.2.1.2.1.2.1.2.2.2, .int .i64 p1.2.1.2.1.2.2.1, .int .i64 p1.2.1.2.1.2.2.2.1, .int .i64 p1.2.1.2.1.2.2.2.2.1, .int .i64 p1.2.1.2.1.2.2.2.2.2, v2, .bool p1.2.2])]) (NZ3 := []) F Aa Aa (all_cons (fun h => AE (by kernel_rfl) h) (all_cons (fun h => AE (by kernel_rfl) h) Ap)) Ap ?_
  refine ET (Ad (Al (Az (Aq ?_))))
  have H := Av H
  subst H
  refine CI (.inl Aa) W F Aa (Ai W Aa) (Ai W Aa) ?_
  have F := F.freeze
  have F := F.sub (M' := []) (Z' := [Bo v7 AK x5]) (List.nil_sublist _) (List.Sublist.cons_cons _ (List.nil_sublist _))
  exact ⟨(v7), Aa, F⟩
 have H := B5 (Cp hb) H
 rw [hb] at W
 clear hb
 refine vc tk 6 W F fun a w W F => ?_
 refine CL W Aa (fun hb => ?_) fun hb => ?_
 ·
  have H := B4 (Cn hb) H
  rw [hb] at W
  clear hb
  refine Fq tk 6 [0] W F (ai fun a w W F => ?_)
  refine AA (Ml := []) (Zl := []) (β := Nat × Value) (rv := fun x => .func (.func 73) #[] #[.pointer (some ⟨x.1, 0, none⟩)]) (MM := fun x => [(x.1, [.int .i64 ((Ab p1.2.1).1), .int .i64 ((Ab p1.2.1).2.1.1), .int .i64 ((Ab p1.2.1).2.1.2.1.1), .int .i64 ((Ab p1.2.1).2.1.2.1.2.1), .int .i64 ((Ab p1.2.1).2.1.2.1.2.2.1), .int .i64 ((Ab p1.2.1).2.1.2.1.2.2.2), .int .i64 ((Ab p1.2.1).2.1.2.2.1), .int .i64 ((Ab p1.2.1).2.1.2.2.2.1), .int .i64 ((Ab p1.2.1).2.1.2.2.2.2.1), .int .i64 ((Ab p1.2.1).2.1.2.2.2.2.2), x.2])]) (ZZ := fun x => [Bo x.2 Bk ((Ab p1.2.1).2.2)]) W F Q0 Aa Aa (fun hL => Dw _ w (v2) p1.2.1 _ Aa (F.old s_v2)) fun x a w W F => ?_
  obtain ⟨b3, v8⟩ := x
  have F : Stw ⟨Y, [], w0⟩ [(b3, (Hh p1 v8)), (b1, [.int .i64 p1.1, .int .i64 p1.2.1.1, .int .i64 p1.2.1.2.1.1, .int .i64 p1.2.1.2.1.2.1.1, .int .i64 p1.2.1.2.1.2.1.2.1, .int .i64 p1.2.1.2.1.2.1.2.2.1, .int .i64 p1.2.1.2.1.2.1.2.2.2, .int .i64 p1.2.1.2.1.2.2.1, .int .i64 p1.2.1.2.1.2.2.2.1, .int .i64 p1.2.1.2.1.2.2.2.2.1, .int .i64 p1.2.1.2.1.2.2.2.2.2, v2, .bool p1.2.2])] [Bo v8 Bk ((Ab p1.2.1).2.2), row v4.1 37 AK x1] w := F
  obtain ⟨x6, h7, H⟩ := Af H
  refine ls W F Aa (AM (v := Value.bool x6) W RQ Aa (fun w F => BZ any w (v4.1) b3 (v8) x1 ((Ab p1.2.1).1, ((Ab p1.2.1).2.1.1, ((Ab p1.2.1).2.1.2.1.1, (Ab p1.2.1).2.1.2.1.2.1, (Ab p1.2.1).2.1.2.1.2.2.1, (Ab p1.2.1).2.1.2.1.2.2.2), ((Ab p1.2.1).2.1.2.2.1, (Ab p1.2.1).2.1.2.2.2.1, (Ab p1.2.1).2.1.2.2.2.2.1, (Ab p1.2.1).2.1.2.2.2.2.2)), (Ab p1.2.1).2.2) _ h7 (Dc (AU 1 Aa) F) (Dc (D4 0 Aa) F) (NJ F 0 Aa))) fun a w W F => ?_
  refine BJ tk 3 W F fun a w W F => ?_
  refine BE W Aa H (fun W H => ?_) fun W H => ?_
  ·
   refine vc tk 7 W F fun a w W F => ?_
   refine Al (Aq (Az (Aq ?_)))
   have H := Av H
   subst H
   refine CI (.inl Aa) W F Aa (Ai W Aa) (Ai W Aa) ?_
   have F := F.frontZ (i := 1) Aa Aa
   have F := F.freeze
   have F := F.sub (M' := []) (Z' := [Bo v4.1 AK x1]) (List.nil_sublist _) (List.Sublist.cons_cons _ (List.nil_sublist _))
   exact ⟨(v4.1), Aa, F⟩
  refine D6 tk 3 W F fun a w W F => ?_
  refine DN [(true, 0), (true, 1), (true, 2), (true, 3), (true, 4), (false, 5), (false, 6), (false, 7), (false, 8)] (CN ⟨Y, [], w0⟩ [(some 6, b1, [.int .i64 p1.1, .int .i64 p1.2.1.1, .int .i64 p1.2.1.2.1.1, .int .i64 p1.2.1.2.1.2.1.1, .int .i64 p1.2.1.2.1.2.1.2.1, .int .i64 p1.2.1.2.1.2.1.2.2.1, .int .i64 p1.2.1.2.1.2.1.2.2.2, .int .i64 p1.2.1.2.1.2.2.1, .int .i64 p1.2.1.2.1.2.2.2.1, .int .i64 p1.2.1.2.1.2.2.2.2.1, .int .i64 p1.2.1.2.1.2.2.2.2.2, v2, .bool p1.2.2]), (some 5, b1, [.int .i64 p1.1, .int .i64 p1.2.1.1, .int .i64 p1.2.1.2.1.1, .int .i64 p1.2.1.2.1.2.1.1, .int .i64 p1.2.1.2.1.2.1.2.1, .int .i64 p1.2.1.2.1.2.1.2.2.1, .int .i64 p1.2.1.2.1.2.1.2.2.2, .int .i64 p1.2.1.2.1.2.2.1, .int .i64 p1.2.1.2.1.2.2.2.1, .int .i64 p1.2.1.2.1.2.2.2.2.1, .int .i64 p1.2.1.2.1.2.2.2.2.2, v2, .bool p1.2.2])] []) (fun ch a d v w h => by cases d <;> exact h) MO (by kernel_rfl) F (fun w F => ⟨_, _, F, (all_cons (fun _ => (.tail _ (.head _))) (all_cons (fun _ => (.tail _ (.head _))) Ap)), Ap⟩) fun w F => ?_
  refine BQ (R := []) W Aa Aa (yC fun M Z hN hZ => Am W Aa) Aa Aa fun a W => ?_
  refine BQ (R := []) W Aa Aa (yC fun M Z hN hZ => Aj Jp Aa Aa Aa EM W Aa 1 Aa) Aa Aa fun a W => ?_
  refine BQ (R := [6]) W Aa Aa (yC fun M Z hN hZ => De (cs := [.int .i64 p1.1, .int .i64 p1.2.1.1, .int .i64 p1.2.1.2.1.1, .int .i64 p1.2.1.2.1.2.1.1, .int .i64 p1.2.1.2.1.2.1.2.1, .int .i64 p1.2.1.2.1.2.1.2.2.1, .int .i64 p1.2.1.2.1.2.1.2.2.2, .int .i64 p1.2.1.2.1.2.2.1, .int .i64 p1.2.1.2.1.2.2.2.1, .int .i64 p1.2.1.2.1.2.2.2.2.1, .int .i64 p1.2.1.2.1.2.2.2.2.2, v2, .bool p1.2.2]) (v := Value.agg #[.int .i64 p1.2.1.1, .int .i64 p1.2.1.2.1.1, .int .i64 p1.2.1.2.1.2.1.1, .int .i64 p1.2.1.2.1.2.1.2.1, .int .i64 p1.2.1.2.1.2.1.2.2.1, .int .i64 p1.2.1.2.1.2.1.2.2.2, .int .i64 p1.2.1.2.1.2.2.1, .int .i64 p1.2.1.2.1.2.2.2.1, .int .i64 p1.2.1.2.1.2.2.2.2.1, .int .i64 p1.2.1.2.1.2.2.2.2.2, v2]) W Aa (hN ((some 6), b1, [.int .i64 p1.1, .int .i64 p1.2.1.1, .int .i64 p1.2.1.2.1.1, .int .i64 p1.2.1.2.1.2.1.1, .int .i64 p1.2.1.2.1.2.1.2.1, .int .i64 p1.2.1.2.1.2.1.2.2.1, .int .i64 p1.2.1.2.1.2.1.2.2.2, .int .i64 p1.2.1.2.1.2.2.1, .int .i64 p1.2.1.2.1.2.2.2.1, .int .i64 p1.2.1.2.1.2.2.2.2.1, .int .i64 p1.2.1.2.1.2.2.2.2.2, v2, .bool p1.2.2]) (.head _) Aa) EM Aa) (by kernel_rfl) Aa fun a W => ?_
  refine BQ (R := []) W Aa Aa (yC fun M Z hN hZ => Aj Jp Aa Aa Aa EM W Aa 1 Aa) Aa Aa fun a W => ?_
  refine BQ (R := [5]) W Aa Aa (yC fun M Z hN hZ => De (cs := [.int .i64 p1.1, .int .i64 p1.2.1.1, .int .i64 p1.2.1.2.1.1, .int .i64 p1.2.1.2.1.2.1.1, .int .i64 p1.2.1.2.1.2.1.2.1, .int .i64 p1.2.1.2.1.2.1.2.2.1, .int .i64 p1.2.1.2.1.2.1.2.2.2, .int .i64 p1.2.1.2.1.2.2.1, .int .i64 p1.2.1.2.1.2.2.2.1, .int .i64 p1.2.1.2.1.2.2.2.2.1, .int .i64 p1.2.1.2.1.2.2.2.2.2, v2, .bool p1.2.2]) (v := Value.agg #[.int .i64 p1.2.1.1, .int .i64 p1.2.1.2.1.1, .int .i64 p1.2.1.2.1.2.1.1, .int .i64 p1.2.1.2.1.2.1.2.1, .int .i64 p1.2.1.2.1.2.1.2.2.1, .int .i64 p1.2.1.2.1.2.1.2.2.2, .int .i64 p1.2.1.2.1.2.2.1, .int .i64 p1.2.1.2.1.2.2.2.1, .int .i64 p1.2.1.2.1.2.2.2.2.1, .int .i64 p1.2.1.2.1.2.2.2.2.2, v2]) W Aa (hN ((some 5), b1, [.int .i64 p1.1, .int .i64 p1.2.1.1, .int .i64 p1.2.1.2.1.1, .int .i64 p1.2.1.2.1.2.1.1, .int .i64 p1.2.1.2.1.2.1.2.1, .int .i64 p1.2.1.2.1.2.1.2.2.1, .int .i64 p1.2.1.2.1.2.1.2.2.2, .int .i64 p1.2.1.2.1.2.2.1, .int .i64 p1.2.1.2.1.2.2.2.1, .int .i64 p1.2.1.2.1.2.2.2.2.1, .int .i64 p1.2.1.2.1.2.2.2.2.2, v2, .bool p1.2.2]) (.tail _ (.head _)) Aa) EM Aa) (by kernel_rfl) Aa fun a W => ?_
  refine CT Aa ?_
  refine AA (Ml := []) (Zl := []) (β := Nat × Value) (rv := fun x => .func (.func 73) #[] #[.pointer (some ⟨x.1, 0, none⟩)]) (MM := fun x => [(x.1, [.int .i64 ((Ab p1.2.1).1), .int .i64 ((Ab p1.2.1).2.1.1), .int .i64 ((Ab p1.2.1).2.1.2.1.1), .int .i64 ((Ab p1.2.1).2.1.2.1.2.1), .int .i64 ((Ab p1.2.1).2.1.2.1.2.2.1), .int .i64 ((Ab p1.2.1).2.1.2.1.2.2.2), .int .i64 ((Ab p1.2.1).2.1.2.2.1), .int .i64 ((Ab p1.2.1).2.1.2.2.2.1), .int .i64 ((Ab p1.2.1).2.1.2.2.2.2.1), .int .i64 ((Ab p1.2.1).2.1.2.2.2.2.2), x.2])]) (ZZ := fun x => [Bo x.2 Bk ((Ab p1.2.1).2.2)]) W F Q0 Aa Aa (fun hL => Dw _ w (v2) p1.2.1 _ Aa (F.old s_v2)) fun x a w W F => ?_
  obtain ⟨b4, v9⟩ := x
  have F : Stw ⟨Y, [], w0⟩ [(b4, (Hh p1 v9)), (b3, (Hh p1 v8)), (b1, [.int .i64 p1.1, .int .i64 p1.2.1.1, .int .i64 p1.2.1.2.1.1, .int .i64 p1.2.1.2.1.2.1.1, .int .i64 p1.2.1.2.1.2.1.2.1, .int .i64 p1.2.1.2.1.2.1.2.2.1, .int .i64 p1.2.1.2.1.2.1.2.2.2, .int .i64 p1.2.1.2.1.2.2.1, .int .i64 p1.2.1.2.1.2.2.2.1, .int .i64 p1.2.1.2.1.2.2.2.2.1, .int .i64 p1.2.1.2.1.2.2.2.2.2, v2, .bool p1.2.2])] [Bo v9 Bk ((Ab p1.2.1).2.2), Bo v8 Bk ((Ab p1.2.1).2.2), row v4.1 37 AK x1] w := F
  refine A0 (N2 := []) (NZ2 := []) (N3 := [(some 6, b1, [.int .i64 p1.1, .int .i64 p1.2.1.1, .int .i64 p1.2.1.2.1.1, .int .i64 p1.2.1.2.1.2.1.1, .int .i64 p1.2.1.2.1.2.1.2.1, .int .i64 p1.2.1.2.1.2.1.2.2.1, .int .i64 p1.2.1.2.1.2.1.2.2.2, .int .i64 p1.2.1.2.1.2.2.1, .int .i64 p1.2.1.2.1.2.2.2.1, .int .i64 p1.2.1.2.1.2.2.2.2.1, .int .i64 p1.2.1.2.1.2.2.2.2.2, v2, .bool p1.2.2]), (some 5, b1, [.int .i64 p1.1, .int .i64 p1.2.1.1, .int .i64 p1.2.1.2.1.1, .int .i64 p1.2.1.2.1.2.1.1, .int .i64 p1.2.1.2.1.2.1.2.1, .int .i64 p1.2.1.2.1.2.1.2.2.1, .int .i64 p1.2.1.2.1.2.1.2.2.2, .int .i64 p1.2.1.2.1.2.2.1, .int .i64 p1.2.1.2.1.2.2.2.1, .int .i64 p1.2.1.2.1.2.2.2.2.1, .int .i64 p1.2.1.2.1.2.2.2.2.2, v2, .bool p1.2.2])]) (NZ3 := []) F Aa Aa (all_cons (fun _ => (.tail _ (.tail _ (.head _)))) (all_cons (fun h => AE (by kernel_rfl) h) Ap)) Ap ?_
  refine CT Aa ?_
  obtain ⟨x7, h8, H⟩ := Af H
  have F := F.frontZ (i := 2) Aa Aa
  refine AA (Ml := []) (Zl := [row v4.1 37 AK x1]) (β := Value) (rv := fun x => x) (MM := fun x => []) (ZZ := fun x => [row x 37 AK x7]) W F Se Aa Aa (fun hL => Gz _ _ w (v4.1) (v2) b4 (v9) x1 p1.2.1 ((Ab p1.2.1).1, ((Ab p1.2.1).2.1.1, ((Ab p1.2.1).2.1.2.1.1, (Ab p1.2.1).2.1.2.1.2.1, (Ab p1.2.1).2.1.2.1.2.2.1, (Ab p1.2.1).2.1.2.1.2.2.2), ((Ab p1.2.1).2.1.2.2.1, (Ab p1.2.1).2.1.2.2.2.1, (Ab p1.2.1).2.1.2.2.2.2.1, (Ab p1.2.1).2.1.2.2.2.2.2)), (Ab p1.2.1).2.2) _ h8 (F.old s_v2) (Sl.nxF (F.item (i := 1) Aa) (fun g hg => H0 hg)) (Lh (Ml := []) (Zl := [row v4.1 37 AK x1]) F 0 Aa) hL) fun x a w W F => ?_
  obtain ⟨v10, rfl⟩ : ∃ y, y = x := ⟨x, rfl⟩
  have F : Stw ⟨Y, [], w0⟩ [(b4, (Hh p1 v9)), (b3, (Hh p1 v8)), (b1, [.int .i64 p1.1, .int .i64 p1.2.1.1, .int .i64 p1.2.1.2.1.1, .int .i64 p1.2.1.2.1.2.1.1, .int .i64 p1.2.1.2.1.2.1.2.1, .int .i64 p1.2.1.2.1.2.1.2.2.1, .int .i64 p1.2.1.2.1.2.1.2.2.2, .int .i64 p1.2.1.2.1.2.2.1, .int .i64 p1.2.1.2.1.2.2.2.1, .int .i64 p1.2.1.2.1.2.2.2.2.1, .int .i64 p1.2.1.2.1.2.2.2.2.2, v2, .bool p1.2.2])] [row v10 37 AK x7, Bo v9 Bk ((Ab p1.2.1).2.2), Bo v8 Bk ((Ab p1.2.1).2.2)] w := F
  refine A0 (N2 := []) (NZ2 := []) (N3 := [(some 6, b1, [.int .i64 p1.1, .int .i64 p1.2.1.1, .int .i64 p1.2.1.2.1.1, .int .i64 p1.2.1.2.1.2.1.1, .int .i64 p1.2.1.2.1.2.1.2.1, .int .i64 p1.2.1.2.1.2.1.2.2.1, .int .i64 p1.2.1.2.1.2.1.2.2.2, .int .i64 p1.2.1.2.1.2.2.1, .int .i64 p1.2.1.2.1.2.2.2.1, .int .i64 p1.2.1.2.1.2.2.2.2.1, .int .i64 p1.2.1.2.1.2.2.2.2.2, v2, .bool p1.2.2]), (some 5, b1, [.int .i64 p1.1, .int .i64 p1.2.1.1, .int .i64 p1.2.1.2.1.1, .int .i64 p1.2.1.2.1.2.1.1, .int .i64 p1.2.1.2.1.2.1.2.1, .int .i64 p1.2.1.2.1.2.1.2.2.1, .int .i64 p1.2.1.2.1.2.1.2.2.2, .int .i64 p1.2.1.2.1.2.2.1, .int .i64 p1.2.1.2.1.2.2.2.1, .int .i64 p1.2.1.2.1.2.2.2.2.1, .int .i64 p1.2.1.2.1.2.2.2.2.2, v2, .bool p1.2.2])]) (NZ3 := []) F Aa Aa (all_cons (fun h => AE (by kernel_rfl) h) (all_cons (fun h => AE (by kernel_rfl) h) Ap)) Ap ?_
  refine CT Aa ?_
  refine ls W F Aa (BI W Aa).q fun a w W F => ?_
  refine A0 (N2 := []) (NZ2 := []) (N3 := [(some 6, b1, [.int .i64 p1.1, .int .i64 p1.2.1.1, .int .i64 p1.2.1.2.1.1, .int .i64 p1.2.1.2.1.2.1.1, .int .i64 p1.2.1.2.1.2.1.2.1, .int .i64 p1.2.1.2.1.2.1.2.2.1, .int .i64 p1.2.1.2.1.2.1.2.2.2, .int .i64 p1.2.1.2.1.2.2.1, .int .i64 p1.2.1.2.1.2.2.2.1, .int .i64 p1.2.1.2.1.2.2.2.2.1, .int .i64 p1.2.1.2.1.2.2.2.2.2, v2, .bool p1.2.2]), (some 5, b1, [.int .i64 p1.1, .int .i64 p1.2.1.1, .int .i64 p1.2.1.2.1.1, .int .i64 p1.2.1.2.1.2.1.1, .int .i64 p1.2.1.2.1.2.1.2.1, .int .i64 p1.2.1.2.1.2.1.2.2.1, .int .i64 p1.2.1.2.1.2.1.2.2.2, .int .i64 p1.2.1.2.1.2.2.1, .int .i64 p1.2.1.2.1.2.2.2.1, .int .i64 p1.2.1.2.1.2.2.2.2.1, .int .i64 p1.2.1.2.1.2.2.2.2.2, v2, .bool p1.2.2])]) (NZ3 := []) F Aa Aa (all_cons (fun h => AE (by kernel_rfl) h) (all_cons (fun h => AE (by kernel_rfl) h) Ap)) Ap ?_
  refine CT Aa ?_
  refine ls W F Aa (BI W Aa).q fun a w W F => ?_
  refine A0 (N2 := []) (NZ2 := []) (N3 := [(some 6, b1, [.int .i64 p1.1, .int .i64 p1.2.1.1, .int .i64 p1.2.1.2.1.1, .int .i64 p1.2.1.2.1.2.1.1, .int .i64 p1.2.1.2.1.2.1.2.1, .int .i64 p1.2.1.2.1.2.1.2.2.1, .int .i64 p1.2.1.2.1.2.1.2.2.2, .int .i64 p1.2.1.2.1.2.2.1, .int .i64 p1.2.1.2.1.2.2.2.1, .int .i64 p1.2.1.2.1.2.2.2.2.1, .int .i64 p1.2.1.2.1.2.2.2.2.2, v2, .bool p1.2.2]), (some 5, b1, [.int .i64 p1.1, .int .i64 p1.2.1.1, .int .i64 p1.2.1.2.1.1, .int .i64 p1.2.1.2.1.2.1.1, .int .i64 p1.2.1.2.1.2.1.2.1, .int .i64 p1.2.1.2.1.2.1.2.2.1, .int .i64 p1.2.1.2.1.2.1.2.2.2, .int .i64 p1.2.1.2.1.2.2.1, .int .i64 p1.2.1.2.1.2.2.2.1, .int .i64 p1.2.1.2.1.2.2.2.2.1, .int .i64 p1.2.1.2.1.2.2.2.2.2, v2, .bool p1.2.2])]) (NZ3 := []) F Aa Aa (all_cons (fun h => AE (by kernel_rfl) h) (all_cons (fun h => AE (by kernel_rfl) h) Ap)) Ap ?_
  refine ET (Ad (Al (Az (Aq ?_))))
  have H := Av H
  subst H
  refine CI (.inl Aa) W F Aa (Ai W Aa) (Ai W Aa) ?_
  have F := F.freeze
  have F := F.sub (M' := []) (Z' := [Bo v10 AK x7]) (List.nil_sublist _) (List.Sublist.cons_cons _ (List.nil_sublist _))
  exact ⟨(v10), Aa, F⟩
 have H := B5 (Cp hb) H
 rw [hb] at W
 clear hb
 refine vc tk 6 W F fun a w W F => ?_
 refine CL W Aa (fun hb => ?_) fun hb => ?_
 ·
  have H := B4 (Cn hb) H
  rw [hb] at W
  clear hb
  refine Fq tk 5 [0] W F (ai fun a w W F => ?_)
  refine AA (Ml := []) (Zl := []) (β := Nat × Value) (rv := fun x => .func (.func 71) #[] #[.pointer (some ⟨x.1, 0, none⟩)]) (MM := fun x => [(x.1, [.int .i64 ((Ag p1.2.1).1), .int .i64 ((Ag p1.2.1).2.1.1), .int .i64 ((Ag p1.2.1).2.1.2.1.1), .int .i64 ((Ag p1.2.1).2.1.2.1.2.1), .int .i64 ((Ag p1.2.1).2.1.2.1.2.2.1), .int .i64 ((Ag p1.2.1).2.1.2.1.2.2.2), .int .i64 ((Ag p1.2.1).2.1.2.2.1), .int .i64 ((Ag p1.2.1).2.1.2.2.2.1), .int .i64 ((Ag p1.2.1).2.1.2.2.2.2.1), .int .i64 ((Ag p1.2.1).2.1.2.2.2.2.2), x.2])]) (ZZ := fun x => [Bo x.2 Bk ((Ag p1.2.1).2.2)]) W F SQ Aa Aa (fun hL => GL _ w (v2) p1.2.1 _ Aa (F.old s_v2)) fun x a w W F => ?_
  obtain ⟨b5, v11⟩ := x
  have F : Stw ⟨Y, [], w0⟩ [(b5, (Mm p1 v11)), (b1, [.int .i64 p1.1, .int .i64 p1.2.1.1, .int .i64 p1.2.1.2.1.1, .int .i64 p1.2.1.2.1.2.1.1, .int .i64 p1.2.1.2.1.2.1.2.1, .int .i64 p1.2.1.2.1.2.1.2.2.1, .int .i64 p1.2.1.2.1.2.1.2.2.2, .int .i64 p1.2.1.2.1.2.2.1, .int .i64 p1.2.1.2.1.2.2.2.1, .int .i64 p1.2.1.2.1.2.2.2.2.1, .int .i64 p1.2.1.2.1.2.2.2.2.2, v2, .bool p1.2.2])] [Bo v11 Bk ((Ag p1.2.1).2.2), row v4.1 37 AK x1] w := F
  obtain ⟨x8, h9, H⟩ := Af H
  have F := F.frontZ (i := 1) Aa Aa
  refine AA (Ml := []) (Zl := [row v4.1 37 AK x1]) (β := Value) (rv := fun x => x) (MM := fun x => []) (ZZ := fun x => [row x 37 AK x8]) W F SK Aa Aa (fun hL => DT _ _ w (v4.1) b5 (v11) x1 ((Ag p1.2.1).1, ((Ag p1.2.1).2.1.1, ((Ag p1.2.1).2.1.2.1.1, (Ag p1.2.1).2.1.2.1.2.1, (Ag p1.2.1).2.1.2.1.2.2.1, (Ag p1.2.1).2.1.2.1.2.2.2), ((Ag p1.2.1).2.1.2.2.1, (Ag p1.2.1).2.1.2.2.2.1, (Ag p1.2.1).2.1.2.2.2.2.1, (Ag p1.2.1).2.1.2.2.2.2.2)), (Ag p1.2.1).2.2) _ h9 (Sl.nxF (F.item (i := 1) Aa) (fun g hg => H0 hg)) (Lh (Ml := []) (Zl := [row v4.1 37 AK x1]) F 0 Aa) hL) fun x a w W F => ?_
  obtain ⟨v12, rfl⟩ : ∃ y, y = x := ⟨x, rfl⟩
  have F : Stw ⟨Y, [], w0⟩ [(b5, (Mm p1 v11)), (b1, [.int .i64 p1.1, .int .i64 p1.2.1.1, .int .i64 p1.2.1.2.1.1, .int .i64 p1.2.1.2.1.2.1.1, .int .i64 p1.2.1.2.1.2.1.2.1, .int .i64 p1.2.1.2.1.2.1.2.2.1, .int .i64 p1.2.1.2.1.2.1.2.2.2, .int .i64 p1.2.1.2.1.2.2.1, .int .i64 p1.2.1.2.1.2.2.2.1, .int .i64 p1.2.1.2.1.2.2.2.2.1, .int .i64 p1.2.1.2.1.2.2.2.2.2, v2, .bool p1.2.2])] [row v12 37 AK x8, Bo v11 Bk ((Ag p1.2.1).2.2)] w := F
  refine BJ tk 4 W F fun a w W F => ?_
  refine Al (Az (Aq ?_))
  have H := Av H
  subst H
  refine CI (.inl Aa) W F Aa (Ai W Aa) (Ai W Aa) ?_
  have F := F.freeze
  have F := F.sub (M' := []) (Z' := [Bo v12 AK x8]) (List.nil_sublist _) (List.Sublist.cons_cons _ (List.nil_sublist _))
  exact ⟨(v12), Aa, F⟩
 have H := B5 (Cp hb) H
 rw [hb] at W
 clear hb
 refine vc tk 6 W F fun a w W F => ?_
 refine CL W Aa (fun hb => ?_) fun hb => ?_
 ·
  have H := B4 (Cn hb) H
  rw [hb] at W
  clear hb
  refine Fq tk 6 [0] W F (ai fun a w W F => ?_)
  refine AA (Ml := []) (Zl := []) (β := Nat × Value) (rv := fun x => .func (.func 73) #[] #[.pointer (some ⟨x.1, 0, none⟩)]) (MM := fun x => [(x.1, [.int .i64 ((Ab p1.2.1).1), .int .i64 ((Ab p1.2.1).2.1.1), .int .i64 ((Ab p1.2.1).2.1.2.1.1), .int .i64 ((Ab p1.2.1).2.1.2.1.2.1), .int .i64 ((Ab p1.2.1).2.1.2.1.2.2.1), .int .i64 ((Ab p1.2.1).2.1.2.1.2.2.2), .int .i64 ((Ab p1.2.1).2.1.2.2.1), .int .i64 ((Ab p1.2.1).2.1.2.2.2.1), .int .i64 ((Ab p1.2.1).2.1.2.2.2.2.1), .int .i64 ((Ab p1.2.1).2.1.2.2.2.2.2), x.2])]) (ZZ := fun x => [Bo x.2 Bk ((Ab p1.2.1).2.2)]) W F Q0 Aa Aa (fun hL => Dw _ w (v2) p1.2.1 _ Aa (F.old s_v2)) fun x a w W F => ?_
  obtain ⟨b6, v13⟩ := x
  have F : Stw ⟨Y, [], w0⟩ [(b6, (Hh p1 v13)), (b1, [.int .i64 p1.1, .int .i64 p1.2.1.1, .int .i64 p1.2.1.2.1.1, .int .i64 p1.2.1.2.1.2.1.1, .int .i64 p1.2.1.2.1.2.1.2.1, .int .i64 p1.2.1.2.1.2.1.2.2.1, .int .i64 p1.2.1.2.1.2.1.2.2.2, .int .i64 p1.2.1.2.1.2.2.1, .int .i64 p1.2.1.2.1.2.2.2.1, .int .i64 p1.2.1.2.1.2.2.2.2.1, .int .i64 p1.2.1.2.1.2.2.2.2.2, v2, .bool p1.2.2])] [Bo v13 Bk ((Ab p1.2.1).2.2), row v4.1 37 AK x1] w := F
  obtain ⟨x9, h10, H⟩ := Af H
  refine ls W F Aa (AM (v := Value.bool x9) W RQ Aa (fun w F => BZ any w (v4.1) b6 (v13) x1 ((Ab p1.2.1).1, ((Ab p1.2.1).2.1.1, ((Ab p1.2.1).2.1.2.1.1, (Ab p1.2.1).2.1.2.1.2.1, (Ab p1.2.1).2.1.2.1.2.2.1, (Ab p1.2.1).2.1.2.1.2.2.2), ((Ab p1.2.1).2.1.2.2.1, (Ab p1.2.1).2.1.2.2.2.1, (Ab p1.2.1).2.1.2.2.2.2.1, (Ab p1.2.1).2.1.2.2.2.2.2)), (Ab p1.2.1).2.2) _ h10 (Dc (AU 1 Aa) F) (Dc (D4 0 Aa) F) (NJ F 0 Aa))) fun a w W F => ?_
  refine BJ tk 3 W F fun a w W F => ?_
  refine BE W Aa H (fun W H => ?_) fun W H => ?_
  ·
   refine vc tk 7 W F fun a w W F => ?_
   refine Al (Aq (Az (Aq ?_)))
   have H := Av H
   subst H
   refine CI (.inl Aa) W F Aa (Ai W Aa) (Ai W Aa) ?_
   have F := F.frontZ (i := 1) Aa Aa
   have F := F.freeze
   have F := F.sub (M' := []) (Z' := [Bo v4.1 AK x1]) (List.nil_sublist _) (List.Sublist.cons_cons _ (List.nil_sublist _))
   exact ⟨(v4.1), Aa, F⟩
  refine KR tk 7 [1] W F (ai fun a w W F => ?_)
  refine AA (Ml := []) (Zl := []) (β := Nat × Value) (rv := fun x => .func (.func 73) #[] #[.pointer (some ⟨x.1, 0, none⟩)]) (MM := fun x => [(x.1, [.int .i64 ((Ab p1.2.1).1), .int .i64 ((Ab p1.2.1).2.1.1), .int .i64 ((Ab p1.2.1).2.1.2.1.1), .int .i64 ((Ab p1.2.1).2.1.2.1.2.1), .int .i64 ((Ab p1.2.1).2.1.2.1.2.2.1), .int .i64 ((Ab p1.2.1).2.1.2.1.2.2.2), .int .i64 ((Ab p1.2.1).2.1.2.2.1), .int .i64 ((Ab p1.2.1).2.1.2.2.2.1), .int .i64 ((Ab p1.2.1).2.1.2.2.2.2.1), .int .i64 ((Ab p1.2.1).2.1.2.2.2.2.2), x.2])]) (ZZ := fun x => [Bo x.2 Bk ((Ab p1.2.1).2.2)]) W F Q0 Aa Aa (fun hL => Dw _ w (v2) p1.2.1 _ Aa (F.old s_v2)) fun x a w W F => ?_
  obtain ⟨b7, v14⟩ := x
  have F : Stw ⟨Y, [], w0⟩ [(b7, (Hh p1 v14)), (b6, (Hh p1 v13)), (b1, [.int .i64 p1.1, .int .i64 p1.2.1.1, .int .i64 p1.2.1.2.1.1, .int .i64 p1.2.1.2.1.2.1.1, .int .i64 p1.2.1.2.1.2.1.2.1, .int .i64 p1.2.1.2.1.2.1.2.2.1, .int .i64 p1.2.1.2.1.2.1.2.2.2, .int .i64 p1.2.1.2.1.2.2.1, .int .i64 p1.2.1.2.1.2.2.2.1, .int .i64 p1.2.1.2.1.2.2.2.2.1, .int .i64 p1.2.1.2.1.2.2.2.2.2, v2, .bool p1.2.2])] [Bo v14 Bk ((Ab p1.2.1).2.2), Bo v13 Bk ((Ab p1.2.1).2.2), row v4.1 37 AK x1] w := F
  obtain ⟨x10, h11, H⟩ := Af H
  have F := F.frontZ (i := 2) Aa Aa
  refine AA (Ml := []) (Zl := [row v4.1 37 AK x1]) (β := Value) (rv := fun x => x) (MM := fun x => []) (ZZ := fun x => [row x 37 AK x10]) W F SK Aa Aa (fun hL => DF _ _ w (v4.1) b7 (v14) x1 ((Ab p1.2.1).1, ((Ab p1.2.1).2.1.1, ((Ab p1.2.1).2.1.2.1.1, (Ab p1.2.1).2.1.2.1.2.1, (Ab p1.2.1).2.1.2.1.2.2.1, (Ab p1.2.1).2.1.2.1.2.2.2), ((Ab p1.2.1).2.1.2.2.1, (Ab p1.2.1).2.1.2.2.2.1, (Ab p1.2.1).2.1.2.2.2.2.1, (Ab p1.2.1).2.1.2.2.2.2.2)), (Ab p1.2.1).2.2) _ h11 (Sl.nxF (F.item (i := 1) Aa) (fun g hg => H0 hg)) (Lh (Ml := []) (Zl := [row v4.1 37 AK x1]) F 0 Aa) hL) fun x a w W F => ?_
  obtain ⟨v15, rfl⟩ : ∃ y, y = x := ⟨x, rfl⟩
  have F : Stw ⟨Y, [], w0⟩ [(b7, (Hh p1 v14)), (b6, (Hh p1 v13)), (b1, [.int .i64 p1.1, .int .i64 p1.2.1.1, .int .i64 p1.2.1.2.1.1, .int .i64 p1.2.1.2.1.2.1.1, .int .i64 p1.2.1.2.1.2.1.2.1, .int .i64 p1.2.1.2.1.2.1.2.2.1, .int .i64 p1.2.1.2.1.2.1.2.2.2, .int .i64 p1.2.1.2.1.2.2.1, .int .i64 p1.2.1.2.1.2.2.2.1, .int .i64 p1.2.1.2.1.2.2.2.2.1, .int .i64 p1.2.1.2.1.2.2.2.2.2, v2, .bool p1.2.2])] [row v15 37 AK x10, Bo v14 Bk ((Ab p1.2.1).2.2), Bo v13 Bk ((Ab p1.2.1).2.2)] w := F
  refine BJ tk 4 W F fun a w W F => ?_
  refine Al (Az (Aq ?_))
  have H := Av H
  subst H
  refine CI (.inl Aa) W F Aa (Ai W Aa) (Ai W Aa) ?_
  have F := F.freeze
  have F := F.sub (M' := []) (Z' := [Bo v15 AK x10]) (List.nil_sublist _) (List.Sublist.cons_cons _ (List.nil_sublist _))
  exact ⟨(v15), Aa, F⟩
 have H := B5 (Cp hb) H
 rw [hb] at W
 clear hb
 refine AC (AF ?_)
 refine vn tk 7 W F fun a w W F => ?_
 refine Al ?_
 have H := Av H
 subst H
 refine CI (.inl Aa) W F Aa (Ai W Aa) (Ai W Aa) ?_
 have F := F.freeze
 have F := F.sub (M' := []) (Z' := [Bo v4.1 AK x1]) (List.nil_sublist _) (List.Sublist.refl _)
 exact ⟨(v4.1), Aa, F⟩
theorem Ti : Has Try.prog 37 := BV Try.func37
noncomputable def D1 (p0 : List (Int × (Int × (Int × Int × Int × Int) × (Int × Int × Int × Int)) × (List (Int × Int × Int)))) (p1 : List (Int × (Int × (Int × (Int × Int × Int × Int) × (Int × Int × Int × Int)) × (List (Int × Int × Int))) × Bool)) (p2 : Int) (p3 : Int) : ((List (Int × (Int × (Int × Int × Int × Int) × (Int × Int × Int × Int)) × (List (Int × Int × Int)))) × Int) → Option (((List (Int × (Int × (Int × Int × Int × Int) × (Int × Int × Int × Int)) × (List (Int × Int × Int)))) × Int) ⊕ ((List (Int × (Int × (Int × Int × Int × Int) × (Int × Int × Int × Int)) × (List (Int × Int × Int)))) ⊕ ((List (Int × (Int × (Int × Int × Int × Int) × (Int × Int × Int × Int)) × (List (Int × Int × Int)))) × Int × Int)))
  | (x3, x4) => (if x4 < (p1.length : Int) then (ix p1 x4).bind fun x5 => (E2 x3 x5 p2 p3).bind fun x6 => (if x6.2 ≠ 0 then (Dm p0).bind fun x7 => some (.inr (.inr (x7, x4, x6.2))) else some (.inl (x6.1, Cc (x4 + 1)))) else some (.inr (.inl x3)))
noncomputable def FC (p0 : List (Int × (Int × (Int × Int × Int × Int) × (Int × Int × Int × Int)) × (List (Int × Int × Int)))) (p1 : List (Int × (Int × (Int × (Int × Int × Int × Int) × (Int × Int × Int × Int)) × (List (Int × Int × Int))) × Bool)) (p2 : Int) (p3 : Int) : Option ((List (Int × (Int × (Int × Int × Int × Int) × (Int × Int × Int × Int)) × (List (Int × Int × Int)))) × Int × Int) := (Dm p0).bind fun x1 => FR (AX (D1 p0 p1 p2 p3) (x1, 0)) fun x2 => some (x2, (-1), 0)
theorem Kx (Y : Nat → Prop) (w0 : World) (v1 : Value) (v2 : Value) (p0 : List (Int × (Int × (Int × Int × Int × Int) × (Int × Int × Int × Int)) × (List (Int × Int × Int)))) (p1 : List (Int × (Int × (Int × (Int × Int × Int × Int) × (Int × Int × Int × Int)) × (List (Int × Int × Int))) × Bool)) (p2 : Int) (p3 : Int) (r : (List (Int × (Int × (Int × Int × Int × Int) × (Int × Int × Int × Int)) × (List (Int × Int × Int)))) × Int × Int) (H : FC p0 p1 p2 p3 = some r) (s_v1 : Sl w0 Y AK v1 p0) (s_v2 : Sl w0 Y EQ v2 p1) :
    Calls Try.prog 22 #[v1, v2, .int .i64 p2, .int .i64 p3] w0 fun e w' => ∃ x : Value, e = .returned (.tuple #[x, .int .i64 r.2.1, .int .i64 r.2.2]) ∧ Stw ⟨Y, [], w0⟩ [] [Bo (x) AK r.1] w' := by
 refine enter Try.func22 Aa Try.ntmps22 Aa fun a W => ?_
 have F := Stw.start Y w0
 obtain ⟨v3, h1, s_v1⟩ := s_v1.ex A4
 obtain ⟨v4, h2, s_v2⟩ := s_v2.ex Ib
 have h_v1 := F.nx s_v1
 have h_v2 := F.nx s_v2
 unfold FC at H
 refine vc tk 10 W F fun a w W F => ?_
 obtain ⟨x1, h3, H⟩ := Af H
 refine AA (Ml := []) (Zl := []) (β := {x : Value // IK x (((p0.length : Int)).toNat)}) (rv := fun x => x.1) (MM := fun x => []) (ZZ := fun x => [row x.1 37 AK x1]) W F Sh Aa Aa (fun hL => Fy _ w (v1) p0 _ h3 (Sl.hide A4 h1 (F.old s_v1))) fun x a w W F => ?_
 obtain ⟨v5, rfl⟩ : ∃ y, y = x := ⟨x, rfl⟩
 have F : Stw ⟨Y, [], w0⟩ [] [row v5.1 37 AK x1] w := F
 refine vl tk 2 W F fun a w W F => ?_
 refine Ad ?_
 obtain ⟨o1, G1, K1, L1⟩ := H1 H
 refine Au (fun a w => ∃ x2 : List (Int × (Int × (Int × Int × Int × Int) × (Int × Int × Int × Int)) × (List (Int × Int × Int))), ∃ v6 : Value, some (Sum.inl x2) = some o1 ∧ Fr 42 [] [(8, .slice none 0 0), (9, .int .i64 0), (10, .int .i64 0), (11, v6)] a ∧ Stw ⟨Y, [], w0⟩ [] [Bo v6 AK x2] w) ?_ ?_
 ·
  have H := G1
  clear G1 K1
  refine vc tk 3 W F fun a w W F => ?_
  refine ls W F Aa (B7 (r := EQ) (l := p1) LI Aa W Aa (Bq Ib h2 (An h_v2))).q fun a w W F => ?_
  refine BJ tk 4 W F fun a w W F => ?_
  have F := F.freeze
  refine BA H (fun s a w => ∃ v7 : Value, Fr 42 [] [(0, v1), (2, .int .i64 p2), (3, .int .i64 p3), (8, .slice none 0 0), (9, .int .i64 0), (10, .int .i64 0), (11, v7), (18, v2), (19, .int .i64 (p1.length : Int)), (20, .int .i64 s.2)] a ∧ Stw ⟨Y, [], w0⟩ [] [Bo v7 AK s.1] w) ⟨(v5.1), W.ra Aa, F⟩ fun s o a w H L2 hR => ?_
  obtain ⟨x3, x4⟩ := s
  obtain ⟨v7, W, F⟩ := hR
  have W : Fr 42 [] [(0, v1), (2, .int .i64 p2), (3, .int .i64 p3), (8, .slice none 0 0), (9, .int .i64 0), (10, .int .i64 0), (11, v7), (18, v2), (19, .int .i64 (p1.length : Int)), (20, .int .i64 x4)] a := W
  have F : Stw ⟨Y, [], w0⟩ [] [Bo v7 AK x3] w := F
  rw [D1] at H
  refine vc tk 6 W F fun a w W F => ?_
  refine Bi W Aa H (fun W H => ?_) fun W H => ?_
  ·
   refine D6 tk 5 W F fun a w W F => ?_
   obtain ⟨v8, h4, F⟩ := F.exF A4
   refine vc tk 2 W F fun a w W F => ?_
   obtain ⟨x5, h5, H⟩ := Af H
   obtain ⟨v9, h6, h7⟩ := BX h2 h5
   have h8 : Ia v9 = [.int .i64 x5.1, .int .i64 x5.2.1.1, .int .i64 x5.2.1.2.1.1, .int .i64 x5.2.1.2.1.2.1.1, .int .i64 x5.2.1.2.1.2.1.2.1, .int .i64 x5.2.1.2.1.2.1.2.2.1, .int .i64 x5.2.1.2.1.2.1.2.2.2, .int .i64 x5.2.1.2.1.2.2.1, .int .i64 x5.2.1.2.1.2.2.2.1, .int .i64 x5.2.1.2.1.2.2.2.2.1, .int .i64 x5.2.1.2.1.2.2.2.2.2, (v9.2.1.2.2.1), .bool x5.2.2] := congrArg (fun q : Int × (Int × (Int × (Int × Int × Int × Int) × (Int × Int × Int × Int)) × (List (Int × Int × Int))) × Bool => ([.int .i64 q.1, .int .i64 q.2.1.1, .int .i64 q.2.1.2.1.1, .int .i64 q.2.1.2.1.2.1.1, .int .i64 q.2.1.2.1.2.1.2.1, .int .i64 q.2.1.2.1.2.1.2.2.1, .int .i64 q.2.1.2.1.2.1.2.2.2, .int .i64 q.2.1.2.1.2.2.1, .int .i64 q.2.1.2.1.2.2.2.1, .int .i64 q.2.1.2.1.2.2.2.2.1, .int .i64 q.2.1.2.1.2.2.2.2.2, (v9.2.1.2.2.1), .bool q.2.2] : List Value)) h7
   refine ls W F Aa (AR (r := Ic) O3 W Aa Aa (An h_v2) h6).q fun a w W F => ?_
   refine ls W F Aa (AD (y := Value.agg #[.int .i64 x5.1, .int .i64 x5.2.1.1, .int .i64 x5.2.1.2.1.1, .int .i64 x5.2.1.2.1.2.1.1, .int .i64 x5.2.1.2.1.2.1.2.1, .int .i64 x5.2.1.2.1.2.1.2.2.1, .int .i64 x5.2.1.2.1.2.1.2.2.2, .int .i64 x5.2.1.2.1.2.2.1, .int .i64 x5.2.1.2.1.2.2.2.1, .int .i64 x5.2.1.2.1.2.2.2.2.1, .int .i64 x5.2.1.2.1.2.2.2.2.2, (v9.2.1.2.2.1), .bool x5.2.2]) (j := 0) (i := x4) (enc := Ia) W Aa Aa (An h_v2) h6 NE Hd (by rw [h8]; rfl)).q fun a w W F => ?_
   refine Ca (cs := (I8)) W F Aa Pn Aa fun b1 a w W F => ?_
   refine ls W F Aa (BI W Aa).q fun a w W F => ?_
   refine Dh 0 W F Aa Aa Aa Hd Aa Aa (Ac Aa (Ac Aa (Ac Aa (Ac Aa (Ac Aa (Ac Aa (Ac Aa (Ac Aa (Ac Aa (Ac Aa (Ac Aa (Ac ((Db (An h_v2) h6 (Ay.snd (Ay.fst (Ay.snd (Ay.snd Ay.here)))) (congrArg (fun q : Int × (Int × (Int × (Int × Int × Int × Int) × (Int × Int × Int × Int)) × (List (Int × Int × Int))) × Bool => q.2.1.2.2) h7)) _ F).one (Ac Aa Cr))))))))))))) fun w F => ?_
   refine Eo tk 8 [0] W F (ai fun a w W F => ?_)
   obtain ⟨x6, h9, H⟩ := Af H
   refine AA (Ml := []) (Zl := []) (β := Value) (rv := fun x => .tuple #[x, .int .i64 x6.2]) (MM := fun x => []) (ZZ := fun x => [Bo x AK x6.1]) W F Ti Aa Aa (fun hL => JK _ w (v7) ((v9.2.1.2.2.1)) x3 x5 p2 p3 _ h9 (Sl.hide A4 h4 (F.item (i := 0) Aa)) (Sl.at_ (F.old s_v2) h6 (Ay.snd (Ay.fst (Ay.snd (Ay.snd Ay.here)))) (congrArg (fun q : Int × (Int × (Int × (Int × Int × Int × Int) × (Int × Int × Int × Int)) × (List (Int × Int × Int))) × Bool => q.2.1.2.2) h7))) fun x a w W F => ?_
   obtain ⟨v10, rfl⟩ : ∃ y, y = x := ⟨x, rfl⟩
   have F : Stw ⟨Y, [], w0⟩ [(b1, [.int .i64 x5.1, .int .i64 x5.2.1.1, .int .i64 x5.2.1.2.1.1, .int .i64 x5.2.1.2.1.2.1.1, .int .i64 x5.2.1.2.1.2.1.2.1, .int .i64 x5.2.1.2.1.2.1.2.2.1, .int .i64 x5.2.1.2.1.2.1.2.2.2, .int .i64 x5.2.1.2.1.2.2.1, .int .i64 x5.2.1.2.1.2.2.2.1, .int .i64 x5.2.1.2.1.2.2.2.2.1, .int .i64 x5.2.1.2.1.2.2.2.2.2, (v9.2.1.2.2.1), .bool x5.2.2])] [Bo v10 AK x6.1, Bo v7 C4 v8] w := F
   refine ls W F Aa (Am W Aa).q fun a w W F => ?_
   refine ls W F Aa (AN (v := v10) W Aa Aa).q fun a w W F => ?_
   refine ls W F Aa (AN (v := Value.int .i64 x6.2) W Aa Aa).q fun a w W F => ?_
   refine BJ tk 11 W F fun a w W F => ?_
   refine Bi W Aa H (fun W H => ?_) fun W H => ?_
   ·
    refine vc tk 3 W F fun a w W F => ?_
    obtain ⟨x7, h10, H⟩ := Af H
    refine AA (Ml := []) (Zl := []) (β := {x : Value // IK x (((p0.length : Int)).toNat)}) (rv := fun x => x.1) (MM := fun x => []) (ZZ := fun x => [row x.1 37 AK x7]) W F Sh Aa Aa (fun hL => Fy _ w (v1) p0 _ h10 (Sl.hide A4 h1 (F.old s_v1))) fun x a w W F => ?_
    obtain ⟨v11, rfl⟩ : ∃ y, y = x := ⟨x, rfl⟩
    have F : Stw ⟨Y, [], w0⟩ [(b1, [.int .i64 x5.1, .int .i64 x5.2.1.1, .int .i64 x5.2.1.2.1.1, .int .i64 x5.2.1.2.1.2.1.1, .int .i64 x5.2.1.2.1.2.1.2.1, .int .i64 x5.2.1.2.1.2.1.2.2.1, .int .i64 x5.2.1.2.1.2.1.2.2.2, .int .i64 x5.2.1.2.1.2.2.1, .int .i64 x5.2.1.2.1.2.2.2.1, .int .i64 x5.2.1.2.1.2.2.2.2.1, .int .i64 x5.2.1.2.1.2.2.2.2.2, (v9.2.1.2.2.1), .bool x5.2.2])] [row v11.1 37 AK x7, Bo v10 AK x6.1, Bo v7 C4 v8] w := F
    refine BJ tk 7 W F fun a w W F => ?_
    refine Al (Aq (Az ?_))
    iterate 2 refine Aq ?_
    refine Az (Aq ?_)
    have H := L2 _ H
    have H := L1 _ H
    have H := Av H
    subst H
    refine MS (.inl Aa) W F Aa (Ai W Aa) (Ai W Aa) (Ai W Aa) ?_
    have F := F.freeze
    have F := F.sub (M' := []) (Z' := [Bo v11.1 AK x7]) (List.nil_sublist _) (List.Sublist.cons_cons _ (List.nil_sublist _))
    exact ⟨(v11.1), Aa, F⟩
   refine D6 tk 6 W F fun a w W F => ?_
   refine AF ?_
   refine vn tk 4 W F fun a w W F => ?_
   refine Ad ?_
   have F := F.sub (M' := []) (Z' := [Bo v10 AK x6.1]) (List.nil_sublist _) (List.Sublist.cons_cons _ (List.nil_sublist _))
   exact ⟨_, H, (v10), W.ra Aa, F⟩
  refine Bm ?_
  iterate 2 refine BU ?_
  refine Bp (Ad ?_)
  have H := L2 _ H
  exact ⟨_, (v7), H, W.ra Aa, F⟩
 rintro a w ⟨x2, v6, hj, W, F⟩
 have H := K1 _ hj
 clear hj G1 K1 L1
 refine vc tk 8 W F fun a w W F => ?_
 refine Al ?_
 have H := Av H
 subst H
 refine MS (.inl Aa) W F Aa (Ai W Aa) (Ai W Aa) (Ai W Aa) ?_
 exact ⟨(v6), Aa, F⟩
theorem TK : Has Try.prog 22 := BV Try.func22
noncomputable def Cm (p0 : Int × List (Bool × (Int × (Int × (Int × (Int × Int × Int × Int) × (Int × Int × Int × Int)) × (List (Int × Int × Int))) × Bool))) (p1 : List (Int × (Int × (Int × Int × Int × Int) × (Int × Int × Int × Int)) × (List (Int × Int × Int)))) (p2 : Int) (p3 : Int) : Option ((List (Int × (Int × (Int × Int × Int × Int) × (Int × Int × Int × Int)) × (List (Int × Int × Int)))) × Int) := (AY p0).bind fun x1 => (FC p1 x1 p2 p3).bind fun x2 => (if (Ao p0) ≠ 1 then some (x2.1, 16) else some (x2.1, x2.2.2))
theorem EB (Y : Nat → Prop) (X : List Nat) (w0 : World) (q_p0 : Nat) (v1 : Value) (p0 : Int × List (Bool × (Int × (Int × (Int × (Int × Int × Int × Int) × (Int × Int × Int × Int)) × (List (Int × Int × Int))) × Bool))) (p1 : List (Int × (Int × (Int × Int × Int × Int) × (Int × Int × Int × Int)) × (List (Int × Int × Int)))) (p2 : Int) (p3 : Int) (r : (List (Int × (Int × (Int × Int × Int × Int) × (Int × Int × Int × Int)) × (List (Int × Int × Int)))) × Int) (H : Cm p0 p1 p2 p3 = some r) (s_v1 : Sl w0 Y AK v1 p1) (hL : Stw ⟨Y, X, w0⟩ [] [Bw q_p0 BO 16 p0] w0) :
    Calls Try.prog 33 #[.pointer (some ⟨q_p0, 0, none⟩), v1, .int .i64 p2, .int .i64 p3] w0 fun e w' => ∃ x : Value, e = .returned (.tuple #[x, .int .i64 r.2]) ∧ Stw ⟨Y, X, w0⟩ [] [Bw q_p0 BO 16 p0, Bo (x) AK r.1] w' := by
 refine enter Try.func33 Aa Try.ntmps33 Aa fun a W => ?_
 have F := hL
 obtain ⟨v2, h1, s_v1⟩ := s_v1.ex A4
 have h_v1 := F.nx s_v1
 unfold Cm at H
 refine vc tk 10 W F fun a w W F => ?_
 obtain ⟨x1, h2, H⟩ := Af H
 refine AA (Ml := []) (Zl := [Bw q_p0 BO 16 p0]) (β := Value) (rv := fun x => x) (MM := fun x => []) (ZZ := fun x => [Bw q_p0 BO 16 p0, row x 39 EQ x1]) W F Si Aa Aa (fun hL => DK _ _ w q_p0 p0 _ h2 hL) fun x a w W F => ?_
 obtain ⟨v3, rfl⟩ : ∃ y, y = x := ⟨x, rfl⟩
 have F : Stw ⟨Y, X, w0⟩ [] [Bw q_p0 BO 16 p0, row v3 39 EQ x1] w := F
 refine vl tk 2 W F fun a w W F => ?_
 obtain ⟨x2, h3, H⟩ := Af H
 have F := F.frontZ (i := 1) Aa Aa
 have F := F.freeze
 refine AA (Ml := []) (Zl := []) (β := Value) (rv := fun x => .tuple #[x, .int .i64 x2.2.1, .int .i64 x2.2.2]) (MM := fun x => []) (ZZ := fun x => [Bo x AK x2.1]) W F TK Aa Aa (fun hL => Kx _ w (v1) (v3) p1 x1 p2 p3 _ h3 (Sl.hide A4 h1 (F.old s_v1)) (F.item (i := 0) Aa)) fun x a w W F => ?_
 obtain ⟨v4, rfl⟩ : ∃ y, y = x := ⟨x, rfl⟩
 have F : Stw ⟨Y, X, w0⟩ [] [Bo v4 AK x2.1, Bo v3 EQ x1, Bw q_p0 BO 16 p0] w := F
 refine ls W F Aa (Am W Aa).q fun a w W F => ?_
 refine ls W F Aa (AN (v := v4) W Aa Aa).q fun a w W F => ?_
 refine ls W F Aa (AN (v := Value.int .i64 x2.2.1) W Aa Aa).q fun a w W F => ?_
 refine ls W F Aa (AN (v := Value.int .i64 x2.2.2) W Aa Aa).q fun a w W F => ?_
 refine BJ tk 9 W F fun a w W F => ?_
 have F := F.frontZ (i := 2) Aa Aa
 refine AA (Ml := []) (Zl := [Bw q_p0 BO 16 p0]) (β := Unit) (rv := fun x => .int .i64 (Ao p0)) (MM := fun x => []) (ZZ := fun x => [Bw q_p0 BO 16 p0]) W F P9 Aa Aa (fun hL => BM _ _ w q_p0 p0 _ Aa hL) fun x a w W F => ?_
 have F : Stw ⟨Y, X, w0⟩ [] [Bw q_p0 BO 16 p0, Bo v4 AK x2.1, Bo v3 EQ x1] w := F
 refine BJ tk 3 W F fun a w W F => ?_
 refine Bi W Aa H (fun W H => ?_) fun W H => ?_
 ·
  refine vc tk 7 W F fun a w W F => ?_
  refine Al (Aq ?_)
  have H := Av H
  subst H
  refine CI (.inl Aa) W F Aa (Ai W Aa) (Ai W Aa) ?_
  have F := F.frontZ (i := 1) Aa Aa
  have F := F.frontZ (i := 1) Aa Aa
  have F := F.sub (M' := []) (Z' := [Bw q_p0 BO 16 p0, Bo v4 AK x2.1]) (List.Sublist.refl _) (List.Sublist.cons_cons _ (List.Sublist.cons_cons _ (List.nil_sublist _)))
  exact ⟨(v4), Aa, F⟩
 refine D6 tk 10 W F fun a w W F => ?_
 refine Al ?_
 have H := Av H
 subst H
 refine CI (.inl Aa) W F Aa (Ai W Aa) (Ai W Aa) ?_
 have F := F.frontZ (i := 1) Aa Aa
 have F := F.frontZ (i := 1) Aa Aa
 have F := F.sub (M' := []) (Z' := [Bw q_p0 BO 16 p0, Bo v4 AK x2.1]) (List.Sublist.refl _) (List.Sublist.cons_cons _ (List.Sublist.cons_cons _ (List.nil_sublist _)))
 exact ⟨(v4), Aa, F⟩
theorem SO : Has Try.prog 33 := BV Try.func33
noncomputable def CP (p0 : Int × List (Bool × (Int × (Int × (Int × (Int × Int × Int × Int) × (Int × Int × Int × Int)) × (List (Int × Int × Int))) × Bool))) (p1 : List (Int × (Int × (Int × Int × Int × Int) × (Int × Int × Int × Int)) × (List (Int × Int × Int)))) (p2 : Int) (p3 : Int) : Option Int := (Cm p0 p1 p2 p3).bind fun x1 => some x1.2
theorem GD (Y : Nat → Prop) (X : List Nat) (w0 : World) (q_p0 : Nat) (v1 : Value) (p0 : Int × List (Bool × (Int × (Int × (Int × (Int × Int × Int × Int) × (Int × Int × Int × Int)) × (List (Int × Int × Int))) × Bool))) (p1 : List (Int × (Int × (Int × Int × Int × Int) × (Int × Int × Int × Int)) × (List (Int × Int × Int)))) (p2 : Int) (p3 : Int) (r : Int) (H : CP p0 p1 p2 p3 = some r) (s_v1 : Sl w0 Y AK v1 p1) (hL : Stw ⟨Y, X, w0⟩ [] [Bw q_p0 BO 16 p0] w0) :
    Calls Try.prog 12 #[.pointer (some ⟨q_p0, 0, none⟩), v1, .int .i64 p2, .int .i64 p3] w0 fun e w' => ∃ x : Unit, e = .returned (.int .i64 r) ∧ Stw ⟨Y, X, w0⟩ [] [Bw q_p0 BO 16 p0] w' := by
 refine enter Try.func12 Aa Try.ntmps12 Aa fun a W => ?_
 have F := hL
 obtain ⟨v2, h1, s_v1⟩ := s_v1.ex A4
 have h_v1 := F.nx s_v1
 unfold CP at H
 refine vc tk 11 W F fun a w W F => ?_
 obtain ⟨x1, h2, H⟩ := Af H
 refine AA (Ml := []) (Zl := [Bw q_p0 BO 16 p0]) (β := Value) (rv := fun x => .tuple #[x, .int .i64 x1.2]) (MM := fun x => []) (ZZ := fun x => [Bw q_p0 BO 16 p0, Bo x AK x1.1]) W F SO Aa Aa (fun hL => EB _ _ w q_p0 (v1) p0 p1 p2 p3 _ h2 (Sl.hide A4 h1 (F.old s_v1)) hL) fun x a w W F => ?_
 obtain ⟨v3, rfl⟩ : ∃ y, y = x := ⟨x, rfl⟩
 have F : Stw ⟨Y, X, w0⟩ [] [Bw q_p0 BO 16 p0, Bo v3 AK x1.1] w := F
 refine ls W F Aa (Am W Aa).q fun a w W F => ?_
 refine ls W F Aa (AN (v := v3) W Aa Aa).q fun a w W F => ?_
 refine ls W F Aa (AN (v := Value.int .i64 x1.2) W Aa Aa).q fun a w W F => ?_
 refine BJ tk 10 W F fun a w W F => ?_
 refine Al ?_
 have H := Av H
 subst H
 refine Aw (.inl Aa) W F Aa (Ai W Aa) ?_
 have F := F.sub (M' := []) (Z' := [Bw q_p0 BO 16 p0]) (List.Sublist.refl _) (List.Sublist.cons_cons _ (List.nil_sublist _))
 exact ⟨(), Aa, F⟩
theorem S9 : Has Try.prog 12 := BV Try.func12
noncomputable def CE (p0 : Int × Int × (List (Int × (Int × (Int × (Int × (Int × Int × Int × Int) × (Int × Int × Int × Int)) × (List (Int × Int × Int))) × Bool)))) : ((List (Int × (Int × (Int × (Int × Int × Int × Int) × (Int × Int × Int × Int)) × (List (Int × Int × Int))) × Bool)) × Int) → Option (((List (Int × (Int × (Int × (Int × Int × Int × Int) × (Int × Int × Int × Int)) × (List (Int × Int × Int))) × Bool)) × Int) ⊕ (List (Int × (Int × (Int × (Int × Int × Int × Int) × (Int × Int × Int × Int)) × (List (Int × Int × Int))) × Bool)))
  | (x2, x3) => (if (decide (p0.1 = 1) && decide (x3 < p0.2.1)) = true then (CG p0 x3).bind fun x4 => (JQ x2 ([x4.1] : List (Int × (Int × (Int × (Int × Int × Int × Int) × (Int × Int × Int × Int)) × (List (Int × Int × Int))) × Bool))).bind fun x5 => some (.inl (x5, Cc (x3 + 1))) else some (.inr x2))
noncomputable def Bz (p0 : Int × Int × (List (Int × (Int × (Int × (Int × (Int × Int × Int × Int) × (Int × Int × Int × Int)) × (List (Int × Int × Int))) × Bool)))) : Option (List (Int × (Int × (Int × (Int × Int × Int × Int) × (Int × Int × Int × Int)) × (List (Int × Int × Int))) × Bool)) := (AX (CE p0) ([], 0)).bind fun x1 => some x1
theorem Ep (Y : Nat → Prop) (X : List Nat) (w0 : World) (q_p0 : Nat) (v1 : Value) (p0 : Int × Int × (List (Int × (Int × (Int × (Int × (Int × Int × Int × Int) × (Int × Int × Int × Int)) × (List (Int × Int × Int))) × Bool)))) (r : (List (Int × (Int × (Int × (Int × Int × Int × Int) × (Int × Int × Int × Int)) × (List (Int × Int × Int))) × Bool))) (H : Bz p0 = some r) (hL : Stw ⟨Y, X, w0⟩ [(q_p0, [.int .i64 p0.1, .int .i64 p0.2.1, v1])] [row v1 76 CQ p0.2.2] w0) :
    Calls Try.prog 21 #[.pointer (some ⟨q_p0, 0, none⟩)] w0 fun e w' => ∃ x : Value, e = .returned (x) ∧ Stw ⟨Y, X, w0⟩ [(q_p0, [.int .i64 p0.1, .int .i64 p0.2.1, v1])] [row v1 76 CQ p0.2.2, row (x) 39 EQ r] w' := by
 refine enter Try.func21 Aa Try.ntmps21 Aa fun a W => ?_
 have F := hL
 unfold Bz at H
 refine vc tk 10 W F fun a w W F => ?_
 obtain ⟨o1, G1, K1⟩ := Af H
 refine Au (fun a w => ∃ x1 : List (Int × (Int × (Int × (Int × Int × Int × Int) × (Int × Int × Int × Int)) × (List (Int × Int × Int))) × Bool), ∃ v2 : Value, some (x1) = some o1 ∧ Fr 33 [] [(2, .slice none 0 0), (3, v2)] a ∧ Stw ⟨Y, X, w0⟩ [(q_p0, (Ce p0 v1))] [row v2 39 EQ x1, row v1 76 CQ p0.2.2] w) ?_ ?_
 ·
  have H := G1
  clear G1 K1
  refine vc tk 6 W F fun a w W F => ?_
  have F := F.nilRow 39 EQ
  have F := F.frontZ (i := 1) Aa Aa
  have F := F.frontZ (i := 1) Aa Aa
  refine BA H (fun s a w => ∃ v3 : Value, Fr 33 [] [(0, .pointer (some ⟨q_p0, 0, none⟩)), (2, .slice none 0 0), (3, v3), (4, .int .i64 s.2)] a ∧ Stw ⟨Y, X, w0⟩ [(q_p0, (Ce p0 v1))] [row v3 39 EQ s.1, row v1 76 CQ p0.2.2] w) ⟨(Value.slice none 0 0), W.ra Aa, F⟩ fun s o a w H L2 hR => ?_
  obtain ⟨x2, x3⟩ := s
  obtain ⟨v3, W, F⟩ := hR
  have W : Fr 33 [] [(0, .pointer (some ⟨q_p0, 0, none⟩)), (2, .slice none 0 0), (3, v3), (4, .int .i64 x3)] a := W
  have F : Stw ⟨Y, X, w0⟩ [(q_p0, (Ce p0 v1))] [row v3 39 EQ x2, row v1 76 CQ p0.2.2] w := F
  rw [CE] at H
  refine GB ?_
  refine Au (fun a w => Fr 33 [] [(0, .pointer (some ⟨q_p0, 0, none⟩)), (2, .slice none 0 0), (3, v3), (4, .int .i64 x3), (19, .bool (decide (p0.1 = 1) && decide (x3 < p0.2.1)))] a ∧ Stw ⟨Y, X, w0⟩ [(q_p0, (Ce p0 v1))] [row v3 39 EQ x2, row v1 76 CQ p0.2.2] w) ?_ ?_
  ·
   refine vc tk 2 W F fun a w W F => ?_
   refine ls W F Aa (AW W Aa).q fun a w W F => ?_
   refine Fu tk 4 [0] W F (ai fun a w W F => ?_)
   rcases Bool.eq_false_or_eq_true (decide (p0.1 = 1)) with hb0 | hb0
   ·
    rw [hb0] at W
    refine vl tk 2 W F fun a w W F => ?_
    refine FE W F (Ae W Aa Aa Aa Aa) Aa (As Aa) (AW W Aa).q fun a w W F => ?_
    refine Fu tk 5 [0] W F (ai fun a w W F => ?_)
    refine Ad ?_
    exact ⟨W.re ⟨rfl, Aa, Aa, Aa, (Ev (by try rw [hb0]; all_goals simp only [Es])), trivial⟩, F⟩
   rw [hb0] at W
   refine vl tk 8 W F fun a w W F => ?_
   refine Ad ?_
   exact ⟨W.re ⟨rfl, Aa, Aa, Aa, (Ev (by try rw [hb0]; all_goals simp only [Es])), trivial⟩, F⟩
  rintro a w ⟨W, F⟩
  refine BE W Aa H (fun W H => ?_) fun W H => ?_
  ·
   refine D6 tk 8 W F fun a w W F => ?_
   obtain ⟨x4, h1, H⟩ := Af H
   have F := F.frontZ (i := 1) Aa Aa
   refine AA (Ml := [(q_p0, (Ce p0 v1))]) (Zl := [row v1 76 CQ p0.2.2]) (β := Value) (rv := fun x => .tuple #[.agg #[.int .i64 x4.1.1, .int .i64 x4.1.2.1.1, .int .i64 x4.1.2.1.2.1.1, .int .i64 x4.1.2.1.2.1.2.1.1, .int .i64 x4.1.2.1.2.1.2.1.2.1, .int .i64 x4.1.2.1.2.1.2.1.2.2.1, .int .i64 x4.1.2.1.2.1.2.1.2.2.2, .int .i64 x4.1.2.1.2.1.2.2.1, .int .i64 x4.1.2.1.2.1.2.2.2.1, .int .i64 x4.1.2.1.2.1.2.2.2.2.1, .int .i64 x4.1.2.1.2.1.2.2.2.2.2, x, .bool x4.1.2.2], .bool x4.2]) (MM := fun x => [(q_p0, (Ce p0 v1))]) (ZZ := fun x => [row v1 76 CQ p0.2.2, Bo x Bk x4.1.2.1.2.2]) W F SS Aa Aa (fun hL => Gf _ _ w q_p0 (v1) p0 x3 _ h1 hL) fun x a w W F => ?_
   obtain ⟨v4, rfl⟩ : ∃ y, y = x := ⟨x, rfl⟩
   have F : Stw ⟨Y, X, w0⟩ [(q_p0, (Ce p0 v1))] [row v1 76 CQ p0.2.2, Bo v4 Bk x4.1.2.1.2.2, row v3 39 EQ x2] w := F
   refine ls W F Aa (Am W Aa).q fun a w W F => ?_
   refine ls W F Aa (AN (v := Value.agg #[.int .i64 x4.1.1, .int .i64 x4.1.2.1.1, .int .i64 x4.1.2.1.2.1.1, .int .i64 x4.1.2.1.2.1.2.1.1, .int .i64 x4.1.2.1.2.1.2.1.2.1, .int .i64 x4.1.2.1.2.1.2.1.2.2.1, .int .i64 x4.1.2.1.2.1.2.1.2.2.2, .int .i64 x4.1.2.1.2.1.2.2.1, .int .i64 x4.1.2.1.2.1.2.2.2.1, .int .i64 x4.1.2.1.2.1.2.2.2.2.1, .int .i64 x4.1.2.1.2.1.2.2.2.2.2, v4, .bool x4.1.2.2]) W Aa Aa).q fun a w W F => ?_
   refine ls W F Aa (AN (v := Value.bool x4.2) W Aa Aa).q fun a w W F => ?_
   refine Ca (cs := (I8)) W F Aa Pn Aa fun b1 a w W F => ?_
   refine Dh 0 W F Aa Aa Aa Hd Aa Aa (Ac Aa (Ac Aa (Ac Aa (Ac Aa (Ac Aa (Ac Aa (Ac Aa (Ac Aa (Ac Aa (Ac Aa (Ac Aa (Ac (F.oneF (k := 1) Aa) (Ac Aa Cr))))))))))))) fun w F => ?_
   refine Eo tk 6 [0] W F (ai fun a w W F => ?_)
   refine GJ (z := Value.agg #[.int .i64 0, .int .i64 0, .int .i64 0, .int .i64 0, .int .i64 0, .int .i64 0, .int .i64 0, .int .i64 0, .int .i64 0, .int .i64 0, .int .i64 0, .slice none 0 0, .bool false]) (cs := [.int .i64 x4.1.1, .int .i64 x4.1.2.1.1, .int .i64 x4.1.2.1.2.1.1, .int .i64 x4.1.2.1.2.1.2.1.1, .int .i64 x4.1.2.1.2.1.2.1.2.1, .int .i64 x4.1.2.1.2.1.2.1.2.2.1, .int .i64 x4.1.2.1.2.1.2.1.2.2.2, .int .i64 x4.1.2.1.2.1.2.2.1, .int .i64 x4.1.2.1.2.1.2.2.2.1, .int .i64 x4.1.2.1.2.1.2.2.2.2.1, .int .i64 x4.1.2.1.2.1.2.2.2.2.2, v4, .bool x4.1.2.2]) EQ ([x4.1] : List (Int × (Int × (Int × (Int × Int × Int × Int) × (Int × Int × Int × Int)) × (List (Int × Int × Int))) × Bool)) W F Aa O3 Pn Aa Aa Aa (B2 Aa Aa Aa C1) Aa Aa ⟨[Value.int .i64 x4.1.1, Value.int .i64 x4.1.2.1.1, Value.int .i64 x4.1.2.1.2.1.1, Value.int .i64 x4.1.2.1.2.1.2.1.1, Value.int .i64 x4.1.2.1.2.1.2.1.2.1, Value.int .i64 x4.1.2.1.2.1.2.1.2.2.1, Value.int .i64 x4.1.2.1.2.1.2.1.2.2.2, Value.int .i64 x4.1.2.1.2.1.2.2.1, Value.int .i64 x4.1.2.1.2.1.2.2.2.1, Value.int .i64 x4.1.2.1.2.1.2.2.2.2.1, Value.int .i64 x4.1.2.1.2.1.2.2.2.2.2, v4, Value.bool x4.1.2.2], _, Aa, ⟨[Value.int .i64 x4.1.1], [Value.int .i64 x4.1.2.1.1, Value.int .i64 x4.1.2.1.2.1.1, Value.int .i64 x4.1.2.1.2.1.2.1.1, Value.int .i64 x4.1.2.1.2.1.2.1.2.1, Value.int .i64 x4.1.2.1.2.1.2.1.2.2.1, Value.int .i64 x4.1.2.1.2.1.2.1.2.2.2, Value.int .i64 x4.1.2.1.2.1.2.2.1, Value.int .i64 x4.1.2.1.2.1.2.2.2.1, Value.int .i64 x4.1.2.1.2.1.2.2.2.2.1, Value.int .i64 x4.1.2.1.2.1.2.2.2.2.2, v4, Value.bool x4.1.2.2], Aa, Aa, ⟨[Value.int .i64 x4.1.2.1.1, Value.int .i64 x4.1.2.1.2.1.1, Value.int .i64 x4.1.2.1.2.1.2.1.1, Value.int .i64 x4.1.2.1.2.1.2.1.2.1, Value.int .i64 x4.1.2.1.2.1.2.1.2.2.1, Value.int .i64 x4.1.2.1.2.1.2.1.2.2.2, Value.int .i64 x4.1.2.1.2.1.2.2.1, Value.int .i64 x4.1.2.1.2.1.2.2.2.1, Value.int .i64 x4.1.2.1.2.1.2.2.2.2.1, Value.int .i64 x4.1.2.1.2.1.2.2.2.2.2, v4], [Value.bool x4.1.2.2], Aa, ⟨[Value.int .i64 x4.1.2.1.1], [Value.int .i64 x4.1.2.1.2.1.1, Value.int .i64 x4.1.2.1.2.1.2.1.1, Value.int .i64 x4.1.2.1.2.1.2.1.2.1, Value.int .i64 x4.1.2.1.2.1.2.1.2.2.1, Value.int .i64 x4.1.2.1.2.1.2.1.2.2.2, Value.int .i64 x4.1.2.1.2.1.2.2.1, Value.int .i64 x4.1.2.1.2.1.2.2.2.1, Value.int .i64 x4.1.2.1.2.1.2.2.2.2.1, Value.int .i64 x4.1.2.1.2.1.2.2.2.2.2, v4], Aa, Aa, ⟨[Value.int .i64 x4.1.2.1.2.1.1, Value.int .i64 x4.1.2.1.2.1.2.1.1, Value.int .i64 x4.1.2.1.2.1.2.1.2.1, Value.int .i64 x4.1.2.1.2.1.2.1.2.2.1, Value.int .i64 x4.1.2.1.2.1.2.1.2.2.2, Value.int .i64 x4.1.2.1.2.1.2.2.1, Value.int .i64 x4.1.2.1.2.1.2.2.2.1, Value.int .i64 x4.1.2.1.2.1.2.2.2.2.1, Value.int .i64 x4.1.2.1.2.1.2.2.2.2.2], [v4], Aa, ⟨[Value.int .i64 x4.1.2.1.2.1.1], [Value.int .i64 x4.1.2.1.2.1.2.1.1, Value.int .i64 x4.1.2.1.2.1.2.1.2.1, Value.int .i64 x4.1.2.1.2.1.2.1.2.2.1, Value.int .i64 x4.1.2.1.2.1.2.1.2.2.2, Value.int .i64 x4.1.2.1.2.1.2.2.1, Value.int .i64 x4.1.2.1.2.1.2.2.2.1, Value.int .i64 x4.1.2.1.2.1.2.2.2.2.1, Value.int .i64 x4.1.2.1.2.1.2.2.2.2.2], Aa, Aa, ⟨[Value.int .i64 x4.1.2.1.2.1.2.1.1, Value.int .i64 x4.1.2.1.2.1.2.1.2.1, Value.int .i64 x4.1.2.1.2.1.2.1.2.2.1, Value.int .i64 x4.1.2.1.2.1.2.1.2.2.2], [Value.int .i64 x4.1.2.1.2.1.2.2.1, Value.int .i64 x4.1.2.1.2.1.2.2.2.1, Value.int .i64 x4.1.2.1.2.1.2.2.2.2.1, Value.int .i64 x4.1.2.1.2.1.2.2.2.2.2], Aa, ⟨[Value.int .i64 x4.1.2.1.2.1.2.1.1], [Value.int .i64 x4.1.2.1.2.1.2.1.2.1, Value.int .i64 x4.1.2.1.2.1.2.1.2.2.1, Value.int .i64 x4.1.2.1.2.1.2.1.2.2.2], Aa, Aa, ⟨[Value.int .i64 x4.1.2.1.2.1.2.1.2.1], [Value.int .i64 x4.1.2.1.2.1.2.1.2.2.1, Value.int .i64 x4.1.2.1.2.1.2.1.2.2.2], Aa, Aa, ⟨[Value.int .i64 x4.1.2.1.2.1.2.1.2.2.1], [Value.int .i64 x4.1.2.1.2.1.2.1.2.2.2], Aa, Aa, Aa⟩⟩⟩, ⟨[Value.int .i64 x4.1.2.1.2.1.2.2.1], [Value.int .i64 x4.1.2.1.2.1.2.2.2.1, Value.int .i64 x4.1.2.1.2.1.2.2.2.2.1, Value.int .i64 x4.1.2.1.2.1.2.2.2.2.2], Aa, Aa, ⟨[Value.int .i64 x4.1.2.1.2.1.2.2.2.1], [Value.int .i64 x4.1.2.1.2.1.2.2.2.2.1, Value.int .i64 x4.1.2.1.2.1.2.2.2.2.2], Aa, Aa, ⟨[Value.int .i64 x4.1.2.1.2.1.2.2.2.2.1], [Value.int .i64 x4.1.2.1.2.1.2.2.2.2.2], Aa, Aa, Aa⟩⟩⟩⟩⟩, ⟨_, Aa, (F.item (i := 1) Aa)⟩⟩⟩, Aa⟩⟩, Aa⟩ fun v5 a w W F => ?_
   obtain ⟨x5, h2, H⟩ := Af H
   refine Ez (r := EQ) (i := 3) W F Aa O3 Aa Aa Aa Aa (FU F 0 Aa) h2 Aa fun v6 a w W F => ?_
   have F : Stw ⟨Y, X, w0⟩ [(b1, [.int .i64 x4.1.1, .int .i64 x4.1.2.1.1, .int .i64 x4.1.2.1.2.1.1, .int .i64 x4.1.2.1.2.1.2.1.1, .int .i64 x4.1.2.1.2.1.2.1.2.1, .int .i64 x4.1.2.1.2.1.2.1.2.2.1, .int .i64 x4.1.2.1.2.1.2.1.2.2.2, .int .i64 x4.1.2.1.2.1.2.2.1, .int .i64 x4.1.2.1.2.1.2.2.2.1, .int .i64 x4.1.2.1.2.1.2.2.2.2.1, .int .i64 x4.1.2.1.2.1.2.2.2.2.2, v4, .bool x4.1.2.2]), (q_p0, (Ce p0 v1))] [row v6 39 EQ x5, row v5 39 EQ ([x4.1] : List (Int × (Int × (Int × (Int × Int × Int × Int) × (Int × Int × Int × Int)) × (List (Int × Int × Int))) × Bool)), row v1 76 CQ p0.2.2, Bo v4 Bk x4.1.2.1.2.2] w := F
   refine vl tk 2 W F fun a w W F => ?_
   refine AF ?_
   refine vn tk 5 W F fun a w W F => ?_
   refine Ad ?_
   have F := F.frontZ (i := 2) Aa Aa
   have F := F.frontZ (i := 1) Aa Aa
   have F := F.frontM (i := 1) Aa Aa
   have F := F.sub (M' := [(q_p0, (Ce p0 v1))]) (Z' := [row v6 39 EQ x5, row v1 76 CQ p0.2.2]) (List.Sublist.cons_cons _ (List.nil_sublist _)) (List.Sublist.cons_cons _ (List.Sublist.cons_cons _ (List.nil_sublist _)))
   exact ⟨_, H, (v6), W.ra Aa, F⟩
  refine Bm ?_
  iterate 2 refine BU ?_
  refine Bp (Ad ?_)
  have F := F.frontZ (i := 1) Aa Aa
  have F := F.frontZ (i := 1) Aa Aa
  have H := L2 _ H
  exact ⟨_, (v3), H, W.ra Aa, F⟩
 rintro a w ⟨x1, v2, hj, W, F⟩
 have hj := Av hj
 subst hj
 have H := K1
 clear G1 K1
 refine vc tk 6 W F fun a w W F => ?_
 refine Al ?_
 have H := Av H
 subst H
 refine Aw (.inl Aa) W F Aa (Ai W Aa) ?_
 have F := F.frontZ (i := 1) Aa Aa
 exact ⟨(v2), Aa, F⟩
theorem Sn : Has Try.prog 21 := BV Try.func21
noncomputable def CH (p0 : Int × (Int × Int × Int × Int) × (Int × Int × Int × Int)) (p1 : Int × (Int × Int × Int × Int) × (Int × Int × Int × Int)) (x10 : Int) : (Int × Int × Int × Int × Int × Int × Int × Int × Int × Int) → Option ((Int × Int × Int × Int × Int × Int × Int × Int × Int × Int) ⊕ ((Int × Int × Int × Int × Int × Int × Int × Int) ⊕ ((Int × Int × Int × Int × Int × Int × Int × Int × Int) ⊕ ((Int × Int × Int × Int × Int × Int × Int × Int) ⊕ ((Int × (Int × Int × Int × Int) × (Int × Int × Int × Int)) × Bool)))))
  | (x27, x28, x29, x30, x31, x32, x33, x34, x35, x36) => (if x28 < 8 then ((ix ([p1.2.2.1, p1.2.2.2.1, p1.2.2.2.2.1, p1.2.2.2.2.2] : List Int) x10).bind fun x38 => (C2 x38 x28).bind fun x39 => (if x39 = 1 then (ix ([p0.2.2.1, p0.2.2.2.1, p0.2.2.2.2.1, p0.2.2.2.2.2] : List Int) x10).bind fun x40 => (C2 x40 x28).bind fun x41 => (if x41 = 1 then (ix ([p0.2.1.1, p0.2.1.2.1, p0.2.1.2.2.1, p0.2.1.2.2.2] : List Int) x10).bind fun x42 => (C2 x42 x28).bind fun x43 => (ix ([p1.2.1.1, p1.2.1.2.1, p1.2.1.2.2.1, p1.2.1.2.2.2] : List Int) x10).bind fun x44 => (C2 x44 x28).bind fun x45 => some (decide (x43 ≠ x45)) else some false) else some false)).bind fun x37 => (if x37 = true then some (.inr (.inr (.inr (.inr ((0, (0, 0, 0, 0), (0, 0, 0, 0)), false))))) else (((ix ([p1.2.2.1, p1.2.2.2.1, p1.2.2.2.2.1, p1.2.2.2.2.2] : List Int) x10).bind fun x55 => (C2 x55 x28).bind fun x56 => (if x56 = 1 then (ix ([p0.2.2.1, p0.2.2.2.1, p0.2.2.2.2.1, p0.2.2.2.2.2] : List Int) x10).bind fun x57 => (C2 x57 x28).bind fun x58 => some (decide (x58 = 0)) else some false)).bind fun x54 => (if x54 = true then (ix ([x33, x34, x35, x36] : List Int) x10).bind fun x59 => (ix ([x33, x34, x35, x36] : List Int) x10).bind fun x60 => (ix ([x29, x30, x31, x32] : List Int) x10).bind fun x61 => (ix ([p1.2.1.1, p1.2.1.2.1, p1.2.1.2.2.1, p1.2.1.2.2.2] : List Int) x10).bind fun x62 => (C2 x62 x28).bind fun x63 => (ix ([x29, x30, x31, x32] : List Int) x10).bind fun x64 => some ((if x10 = 0 then Cc (x61 + (Cc (x27 * x63))) else x29), (if x10 = 1 then Cc (x61 + (Cc (x27 * x63))) else x30), (if x10 = 2 then Cc (x61 + (Cc (x27 * x63))) else x31), (if x10 = 3 then Cc (x61 + (Cc (x27 * x63))) else x32), (if x10 = 0 then Cc (x59 + x27) else x33), (if x10 = 1 then Cc (x59 + x27) else x34), (if x10 = 2 then Cc (x59 + x27) else x35), (if x10 = 3 then Cc (x59 + x27) else x36)) else some (x29, x30, x31, x32, x33, x34, x35, x36))).bind fun (x46, x47, x48, x49, x50, x51, x52, x53) => some (.inl (Cc (x27 * 2), Cc (x28 + 1), x46, x47, x48, x49, x50, x51, x52, x53))) else some (.inr (.inl (x29, x30, x31, x32, x33, x34, x35, x36))))
noncomputable def Ee (p0 : Int × (Int × Int × Int × Int) × (Int × Int × Int × Int)) (p1 : Int × (Int × Int × Int × Int) × (Int × Int × Int × Int)) : (Int × Int × Int × Int × Int × Int × Int × Int × Int) → Option ((Int × Int × Int × Int × Int × Int × Int × Int × Int) ⊕ ((Int × Int × Int × Int × Int × Int × Int × Int) ⊕ ((Int × (Int × Int × Int × Int) × (Int × Int × Int × Int)) × Bool)))
  | (x10, x11, x12, x13, x14, x15, x16, x17, x18) => (if x10 < 4 then FR (AX (CH p0 p1 x10) (1, 0, x11, x12, x13, x14, x15, x16, x17, x18)) fun (x19, x20, x21, x22, x23, x24, x25, x26) => some (.inl (Cc (x10 + 1), x19, x20, x21, x22, x23, x24, x25, x26)) else some (.inr (.inl (x11, x12, x13, x14, x15, x16, x17, x18))))
noncomputable def GV (p0 : Int × (Int × Int × Int × Int) × (Int × Int × Int × Int)) (p1 : Int × (Int × Int × Int × Int) × (Int × Int × Int × Int)) : Option ((Int × (Int × Int × Int × Int) × (Int × Int × Int × Int)) × Bool) := (if p0.1 = (-1) then some p1.1 else some p0.1).bind fun x1 => (if (decide (p1.1 ≠ (-1)) && decide (x1 ≠ p1.1)) = true then some ((0, (0, 0, 0, 0), (0, 0, 0, 0)), false) else FR (AX (Ee p0 p1) (0, p0.2.1.1, p0.2.1.2.1, p0.2.1.2.2.1, p0.2.1.2.2.2, p0.2.2.1, p0.2.2.2.1, p0.2.2.2.2.1, p0.2.2.2.2.2)) fun (x2, x3, x4, x5, x6, x7, x8, x9) => some ((x1, (x2, x3, x4, x5), (x6, x7, x8, x9)), true))
theorem LO (Y : Nat → Prop) (w0 : World)  (p0 : Int × (Int × Int × Int × Int) × (Int × Int × Int × Int)) (p1 : Int × (Int × Int × Int × Int) × (Int × Int × Int × Int)) (r : (Int × (Int × Int × Int × Int) × (Int × Int × Int × Int)) × Bool) (H : GV p0 p1 = some r)  :
    Calls Try.prog 84 #[.agg #[.int .i64 p0.1, .int .i64 p0.2.1.1, .int .i64 p0.2.1.2.1, .int .i64 p0.2.1.2.2.1, .int .i64 p0.2.1.2.2.2, .int .i64 p0.2.2.1, .int .i64 p0.2.2.2.1, .int .i64 p0.2.2.2.2.1, .int .i64 p0.2.2.2.2.2], .agg #[.int .i64 p1.1, .int .i64 p1.2.1.1, .int .i64 p1.2.1.2.1, .int .i64 p1.2.1.2.2.1, .int .i64 p1.2.1.2.2.2, .int .i64 p1.2.2.1, .int .i64 p1.2.2.2.1, .int .i64 p1.2.2.2.2.1, .int .i64 p1.2.2.2.2.2]] w0 fun e w' => e = .returned (.tuple #[.agg #[.int .i64 r.1.1, .int .i64 r.1.2.1.1, .int .i64 r.1.2.1.2.1, .int .i64 r.1.2.1.2.2.1, .int .i64 r.1.2.1.2.2.2, .int .i64 r.1.2.2.1, .int .i64 r.1.2.2.2.1, .int .i64 r.1.2.2.2.2.1, .int .i64 r.1.2.2.2.2.2], .bool r.2]) ∧ Below w0.heap.size w0 w' := by
 refine enter Try.func84 Aa Try.ntmps84 Aa fun a W => ?_
 have F := Stw.start Y w0
 unfold GV at H
 refine vc tk 2 W F fun a w W F => ?_
 refine BR (cs := (EH p0)) W F Aa Aa Aa fun b1 a w W F => ?_
 refine BR (cs := [.int .i64 p1.1, .int .i64 p1.2.1.1, .int .i64 p1.2.1.2.1, .int .i64 p1.2.1.2.2.1, .int .i64 p1.2.1.2.2.2, .int .i64 p1.2.2.1, .int .i64 p1.2.2.2.1, .int .i64 p1.2.2.2.2.1, .int .i64 p1.2.2.2.2.2]) W F Aa Aa Aa fun b2 a w W F => ?_
 refine Ca (cs := (D7)) W F Aa Py Aa fun b3 a w W F => ?_
 refine Eo tk 6 [2] W F (ai fun a w W F => ?_)
 refine Ca (cs := (D7)) W F Aa Py Aa fun b4 a w W F => ?_
 refine Dh 0 W F Aa Aa Aa H2 Aa Aa Aa fun w F => ?_
 refine Er (Ad ?_)
 obtain ⟨o1, G1, K1⟩ := Af H
 refine Au (fun a w => ∃ x1 : Int, some (x1) = some o1 ∧ Fr 112 [] [(2, .pointer (some ⟨b1, 0, none⟩)), (3, .pointer (some ⟨b2, 0, none⟩)), (4, .pointer (some ⟨b3, 0, none⟩)), (5, .bool false), (6, .pointer (some ⟨b4, 0, none⟩))] a ∧ Stw ⟨Y, [], w0⟩ [(b4, (MC x1 p0)), (b3, (D7)), (b2, [.int .i64 p1.1, .int .i64 p1.2.1.1, .int .i64 p1.2.1.2.1, .int .i64 p1.2.1.2.2.1, .int .i64 p1.2.1.2.2.2, .int .i64 p1.2.2.1, .int .i64 p1.2.2.2.1, .int .i64 p1.2.2.2.2.1, .int .i64 p1.2.2.2.2.2]), (b1, (EH p0))] [] w) ?_ ?_
 ·
  have H := G1
  clear G1 K1
  refine Fq tk 7 [3] W F (ai fun a w W F => ?_)
  refine Bi W Aa H (fun W H => ?_) fun W H => ?_
  ·
   refine Fq tk 4 [2] W F (ai fun a w W F => ?_)
   refine Dh 0 W F Aa Aa Aa T3 Aa Aa Aa fun w F => ?_
   refine Er (Ad ?_)
   have F := F.frontM (i := 3) Aa Aa
   have F := F.frontM (i := 3) Aa Aa
   have F := F.frontM (i := 3) Aa Aa
   have F := F.frontM (i := 3) Aa Aa
   exact ⟨_, H, W.ra Aa, F⟩
  refine AC (Ad ?_)
  have F := F.frontM (i := 3) Aa Aa
  have F := F.frontM (i := 3) Aa Aa
  have F := F.frontM (i := 3) Aa Aa
  have F := F.frontM (i := 3) Aa Aa
  exact ⟨_, H, W.ra Aa, F⟩
 rintro a w ⟨x1, hj, W, F⟩
 have hj := Av hj
 subst hj
 have H := K1
 clear G1 K1
 refine GB ?_
 refine Au (fun a w => Fr 112 [] [(2, .pointer (some ⟨b1, 0, none⟩)), (3, .pointer (some ⟨b2, 0, none⟩)), (4, .pointer (some ⟨b3, 0, none⟩)), (5, .bool false), (6, .pointer (some ⟨b4, 0, none⟩)), (26, .bool (decide (p1.1 ≠ (-1)) && decide (x1 ≠ p1.1)))] a ∧ Stw ⟨Y, [], w0⟩ [(b4, (MC x1 p0)), (b3, (D7)), (b2, [.int .i64 p1.1, .int .i64 p1.2.1.1, .int .i64 p1.2.1.2.1, .int .i64 p1.2.1.2.2.1, .int .i64 p1.2.1.2.2.2, .int .i64 p1.2.2.1, .int .i64 p1.2.2.2.1, .int .i64 p1.2.2.2.2.1, .int .i64 p1.2.2.2.2.2]), (b1, (EH p0))] [] w) ?_ ?_
 ·
  refine Fq tk 5 [2] W F (ai fun a w W F => ?_)
  rcases Bool.eq_false_or_eq_true (decide (p1.1 ≠ (-1))) with hb0 | hb0
  ·
   rw [hb0] at W
   refine Fu tk 7 [0, 2] W F (ai (ai fun a w W F => ?_))
   refine Ad ?_
   exact ⟨W.re ⟨rfl, Aa, Aa, Aa, Aa, (Ev (by try rw [hb0]; all_goals simp only [Es])), trivial⟩, F⟩
  rw [hb0] at W
  refine vl tk 7 W F fun a w W F => ?_
  refine Ad ?_
  exact ⟨W.re ⟨rfl, Aa, Aa, Aa, Aa, (Ev (by try rw [hb0]; all_goals simp only [Es])), trivial⟩, F⟩
 rintro a w ⟨W, F⟩
 refine BE W Aa H (fun W H => ?_) fun W H => ?_
 ·
  refine vc tk 2 W F fun a w W F => ?_
  refine ls W F Aa (Dr (v := Value.agg #[.int .i64 0, .int .i64 0, .int .i64 0, .int .i64 0, .int .i64 0, .int .i64 0, .int .i64 0, .int .i64 0, .int .i64 0]) Rh W Aa Aa Aa).q fun a w W F => ?_
  refine Dh 1 W F Aa Aa Aa H2 Aa Aa Aa fun w F => ?_
  refine BJ tk 3 W F fun a w W F => ?_
  refine Al (Aq ?_)
  have H := Av H
  subst H
  refine CI (.inl Aa) W F Aa (Dp 1 W Aa Aa H2 Aa) (Ai W Aa) ?_
  exact ⟨rfl, F.done⟩
 refine AC (Ad ?_)
 obtain ⟨o2, G2, K2, L2⟩ := H1 H
 refine Au (fun a w => ∃ x2 : Int, ∃ x3 : Int, ∃ x4 : Int, ∃ x5 : Int, ∃ x6 : Int, ∃ x7 : Int, ∃ x8 : Int, ∃ x9 : Int, some (Sum.inl (x2, x3, x4, x5, x6, x7, x8, x9)) = some o2 ∧ Fr 112 [] [(4, .pointer (some ⟨b3, 0, none⟩)), (5, .bool false), (6, .pointer (some ⟨b4, 0, none⟩))] a ∧ Stw ⟨Y, [], w0⟩ [(b4, (GU x1 x2 x3 x4 x5 x6 x7 x8 x9)), (b3, (D7)), (b2, [.int .i64 p1.1, .int .i64 p1.2.1.1, .int .i64 p1.2.1.2.1, .int .i64 p1.2.1.2.2.1, .int .i64 p1.2.1.2.2.2, .int .i64 p1.2.2.1, .int .i64 p1.2.2.2.1, .int .i64 p1.2.2.2.2.1, .int .i64 p1.2.2.2.2.2]), (b1, (EH p0))] [] w) ?_ ?_
 ·
  have H := G2
  clear G2 K2
  refine vc tk 6 W F fun a w W F => ?_
  have F := F.frontM (i := 3) Aa Aa
  have F := F.frontM (i := 3) Aa Aa
  have F := F.frontM (i := 3) Aa Aa
  have F := F.frontM (i := 3) Aa Aa
  refine BA H (fun s a w => Fr 112 [] [(2, .pointer (some ⟨b1, 0, none⟩)), (3, .pointer (some ⟨b2, 0, none⟩)), (4, .pointer (some ⟨b3, 0, none⟩)), (5, .bool false), (6, .pointer (some ⟨b4, 0, none⟩)), (7, .int .i64 s.1)] a ∧ Stw ⟨Y, [], w0⟩ [(b4, [.int .i64 x1, .int .i64 s.2.1, .int .i64 s.2.2.1, .int .i64 s.2.2.2.1, .int .i64 s.2.2.2.2.1, .int .i64 s.2.2.2.2.2.1, .int .i64 s.2.2.2.2.2.2.1, .int .i64 s.2.2.2.2.2.2.2.1, .int .i64 s.2.2.2.2.2.2.2.2]), (b3, (D7)), (b2, [.int .i64 p1.1, .int .i64 p1.2.1.1, .int .i64 p1.2.1.2.1, .int .i64 p1.2.1.2.2.1, .int .i64 p1.2.1.2.2.2, .int .i64 p1.2.2.1, .int .i64 p1.2.2.2.1, .int .i64 p1.2.2.2.2.1, .int .i64 p1.2.2.2.2.2]), (b1, (EH p0))] [] w) ⟨W.ra Aa, F⟩ fun s o a w H L3 hR => ?_
  obtain ⟨x10, x11, x12, x13, x14, x15, x16, x17, x18⟩ := s
  obtain ⟨W, F⟩ := hR
  have W : Fr 112 [] [(2, .pointer (some ⟨b1, 0, none⟩)), (3, .pointer (some ⟨b2, 0, none⟩)), (4, .pointer (some ⟨b3, 0, none⟩)), (5, .bool false), (6, .pointer (some ⟨b4, 0, none⟩)), (7, .int .i64 x10)] a := W
  have F : Stw ⟨Y, [], w0⟩ [(b4, (GU x1 x11 x12 x13 x14 x15 x16 x17 x18)), (b3, (D7)), (b2, [.int .i64 p1.1, .int .i64 p1.2.1.1, .int .i64 p1.2.1.2.1, .int .i64 p1.2.1.2.2.1, .int .i64 p1.2.1.2.2.2, .int .i64 p1.2.2.1, .int .i64 p1.2.2.2.1, .int .i64 p1.2.2.2.2.1, .int .i64 p1.2.2.2.2.2]), (b1, (EH p0))] [] w := F
  rw [Ee] at H
  refine vc tk 7 W F fun a w W F => ?_
  refine Bi W Aa H (fun W H => ?_) fun W H => ?_
  ·
   refine AC (Ad ?_)
   obtain ⟨o4, G4, K4, L4⟩ := H1 H
   refine Au (fun a w => ∃ x19 : Int, ∃ x20 : Int, ∃ x21 : Int, ∃ x22 : Int, ∃ x23 : Int, ∃ x24 : Int, ∃ x25 : Int, ∃ x26 : Int, some (Sum.inl (x19, x20, x21, x22, x23, x24, x25, x26)) = some o4 ∧ Fr 112 [] [(2, .pointer (some ⟨b1, 0, none⟩)), (3, .pointer (some ⟨b2, 0, none⟩)), (4, .pointer (some ⟨b3, 0, none⟩)), (5, .bool false), (6, .pointer (some ⟨b4, 0, none⟩)), (7, .int .i64 x10)] a ∧ Stw ⟨Y, [], w0⟩ [(b4, (GU x1 x19 x20 x21 x22 x23 x24 x25 x26)), (b3, (D7)), (b2, [.int .i64 p1.1, .int .i64 p1.2.1.1, .int .i64 p1.2.1.2.1, .int .i64 p1.2.1.2.2.1, .int .i64 p1.2.1.2.2.2, .int .i64 p1.2.2.1, .int .i64 p1.2.2.2.1, .int .i64 p1.2.2.2.2.1, .int .i64 p1.2.2.2.2.2]), (b1, (EH p0))] [] w) ?_ ?_
   ·
    have H := G4
    clear G4 K4
    refine vc tk 12 W F fun a w W F => ?_
    have F := F.frontM (i := 3) Aa Aa
    have F := F.frontM (i := 3) Aa Aa
    have F := F.frontM (i := 3) Aa Aa
    have F := F.frontM (i := 3) Aa Aa
    refine BA H (fun s a w => Fr 112 [] [(2, .pointer (some ⟨b1, 0, none⟩)), (3, .pointer (some ⟨b2, 0, none⟩)), (4, .pointer (some ⟨b3, 0, none⟩)), (5, .bool false), (6, .pointer (some ⟨b4, 0, none⟩)), (7, .int .i64 x10), (8, .int .i64 s.1), (9, .int .i64 s.2.1)] a ∧ Stw ⟨Y, [], w0⟩ [(b4, [.int .i64 x1, .int .i64 s.2.2.1, .int .i64 s.2.2.2.1, .int .i64 s.2.2.2.2.1, .int .i64 s.2.2.2.2.2.1, .int .i64 s.2.2.2.2.2.2.1, .int .i64 s.2.2.2.2.2.2.2.1, .int .i64 s.2.2.2.2.2.2.2.2.1, .int .i64 s.2.2.2.2.2.2.2.2.2]), (b3, (D7)), (b2, [.int .i64 p1.1, .int .i64 p1.2.1.1, .int .i64 p1.2.1.2.1, .int .i64 p1.2.1.2.2.1, .int .i64 p1.2.1.2.2.2, .int .i64 p1.2.2.1, .int .i64 p1.2.2.2.1, .int .i64 p1.2.2.2.2.1, .int .i64 p1.2.2.2.2.2]), (b1, (EH p0))] [] w) ⟨W.ra Aa, F⟩ fun s o a w H L5 hR => ?_
    obtain ⟨x27, x28, x29, x30, x31, x32, x33, x34, x35, x36⟩ := s
    obtain ⟨W, F⟩ := hR
    have W : Fr 112 [] [(2, .pointer (some ⟨b1, 0, none⟩)), (3, .pointer (some ⟨b2, 0, none⟩)), (4, .pointer (some ⟨b3, 0, none⟩)), (5, .bool false), (6, .pointer (some ⟨b4, 0, none⟩)), (7, .int .i64 x10), (8, .int .i64 x27), (9, .int .i64 x28)] a := W
    have F : Stw ⟨Y, [], w0⟩ [(b4, (GU x1 x29 x30 x31 x32 x33 x34 x35 x36)), (b3, (D7)), (b2, [.int .i64 p1.1, .int .i64 p1.2.1.1, .int .i64 p1.2.1.2.1, .int .i64 p1.2.1.2.2.1, .int .i64 p1.2.1.2.2.2, .int .i64 p1.2.2.1, .int .i64 p1.2.2.2.1, .int .i64 p1.2.2.2.2.1, .int .i64 p1.2.2.2.2.2]), (b1, (EH p0))] [] w := F
    rw [CH] at H
    refine vc tk 7 W F fun a w W F => ?_
    refine Bi W Aa H (fun W H => ?_) fun W H => ?_
    ·
     refine D6 tk 5 W F fun a w W F => ?_
     obtain ⟨o6, G6, K6⟩ := Af H
     refine Au (fun a w => ∃ x37 : Bool, some (x37) = some o6 ∧ Fr 112 [] [(2, .pointer (some ⟨b1, 0, none⟩)), (3, .pointer (some ⟨b2, 0, none⟩)), (4, .pointer (some ⟨b3, 0, none⟩)), (5, .bool false), (6, .pointer (some ⟨b4, 0, none⟩)), (7, .int .i64 x10), (8, .int .i64 x27), (9, .int .i64 x28), (66, .bool x37)] a ∧ Stw ⟨Y, [], w0⟩ [(b4, (GU x1 x29 x30 x31 x32 x33 x34 x35 x36)), (b3, (D7)), (b2, [.int .i64 p1.1, .int .i64 p1.2.1.1, .int .i64 p1.2.1.2.1, .int .i64 p1.2.1.2.2.1, .int .i64 p1.2.1.2.2.2, .int .i64 p1.2.2.1, .int .i64 p1.2.2.2.1, .int .i64 p1.2.2.2.2.1, .int .i64 p1.2.2.2.2.2]), (b1, (EH p0))] [] w) ?_ ?_
     ·
      have H := G6
      clear G6 K6
      refine Ck F MO (by kernel_rfl) ?_
      refine qs W Aa (Am W Aa).q fun a W => ?_
      refine qs W Aa (Aj Eb Aa Aa Aa Hk W Aa 5 Aa).q fun a W => ?_
      obtain ⟨x38, h1, H⟩ := Af H
      refine qs W Aa (A7 (5 + (x10).toNat * 1) DA W Aa Aa Aa h1 Aa).q fun a W => ?_
      refine qs W Aa (Bn (v := Value.int .i64 x38) 2 W Aa Aa T3 (B1 (base := 5) (m := 4) (l := [p1.2.2.1, p1.2.2.2.1, p1.2.2.2.2.1, p1.2.2.2.2.2]) (enc := Value.int .i64) Aa h1)).q fun a W => ?_
      refine qs W Aa (Am W Aa).q fun a W => ?_
      obtain ⟨x39, h2, H⟩ := Af H
      refine qs W Aa (AM (v := Value.int .i64 x39) W Nc Aa (fun w F => CU any w x38 x28 _ h2)) fun a W => ?_
      refine qs W Aa (Hg W Aa Aa).q fun a W => ?_
      refine qs W Aa (Am W Aa).q fun a W => ?_
      rcases Bool.eq_false_or_eq_true (decide (x39 = 1)) with hb | hb
      ·
       have H := B4 (Cn hb) H
       rw [hb] at W
       clear hb
       refine A2 W (Ae W Aa Aa Aa Aa) Aa (As Aa) (Am W Aa).q fun a W => ?_
       refine A2 W (Ae W Aa Aa Aa Aa) Aa (As Aa) (Aj Eb Aa Aa Aa Hk W Aa 5 Aa).q fun a W => ?_
       obtain ⟨x40, h3, H⟩ := Af H
       refine A2 W (Ae W Aa Aa Aa Aa) Aa (As Aa) (A7 (5 + (x10).toNat * 1) DA W Aa Aa Aa h3 Aa).q fun a W => ?_
       refine A2 W (Ae W Aa Aa Aa Aa) Aa (As Aa) (Bn (v := Value.int .i64 x40) 3 W Aa Aa T3 (B1 (base := 5) (m := 4) (l := [p0.2.2.1, p0.2.2.2.1, p0.2.2.2.2.1, p0.2.2.2.2.2]) (enc := Value.int .i64) Aa h3)).q fun a W => ?_
       refine A2 W (Ae W Aa Aa Aa Aa) Aa (As Aa) (Am W Aa).q fun a W => ?_
       obtain ⟨x41, h4, H⟩ := Af H
       refine A2 W (Ae W Aa Aa Aa Aa) Aa (As Aa) (AM (v := Value.int .i64 x41) W Nc Aa (fun w F => CU any w x40 x28 _ h4)) fun a W => ?_
       refine A2 W (Ae W Aa Aa Aa Aa) Aa (As Aa) (Hg W Aa Aa).q fun a W => ?_
       refine qs W Aa (BH W Aa Aa Aa).q fun a W => ?_
       refine qs W Aa (Am W Aa).q fun a W => ?_
       rcases Bool.eq_false_or_eq_true (decide (x41 = 1)) with hb | hb
       ·
        have H := B4 (Cn hb) H
        rw [hb] at W
        clear hb
        refine A2 W (Ae W Aa Aa Aa Aa) Aa (As Aa) (Am W Aa).q fun a W => ?_
        refine A2 W (Ae W Aa Aa Aa Aa) Aa (As Aa) (Aj Eb Aa Aa Aa Hk W Aa 1 Aa).q fun a W => ?_
        obtain ⟨x42, h5, H⟩ := Af H
        refine A2 W (Ae W Aa Aa Aa Aa) Aa (As Aa) (A7 (1 + (x10).toNat * 1) DA W Aa Aa Aa h5 Aa).q fun a W => ?_
        refine A2 W (Ae W Aa Aa Aa Aa) Aa (As Aa) (Bn (v := Value.int .i64 x42) 3 W Aa Aa T3 (B1 (base := 1) (m := 4) (l := [p0.2.1.1, p0.2.1.2.1, p0.2.1.2.2.1, p0.2.1.2.2.2]) (enc := Value.int .i64) Aa h5)).q fun a W => ?_
        refine A2 W (Ae W Aa Aa Aa Aa) Aa (As Aa) (Am W Aa).q fun a W => ?_
        obtain ⟨x43, h6, H⟩ := Af H
        refine A2 W (Ae W Aa Aa Aa Aa) Aa (As Aa) (AM (v := Value.int .i64 x43) W Nc Aa (fun w F => CU any w x42 x28 _ h6)) fun a W => ?_
        refine A2 W (Ae W Aa Aa Aa Aa) Aa (As Aa) (Am W Aa).q fun a W => ?_
        refine A2 W (Ae W Aa Aa Aa Aa) Aa (As Aa) (Aj Eb Aa Aa Aa Hk W Aa 1 Aa).q fun a W => ?_
        obtain ⟨x44, h7, H⟩ := Af H
        refine A2 W (Ae W Aa Aa Aa Aa) Aa (As Aa) (A7 (1 + (x10).toNat * 1) DA W Aa Aa Aa h7 Aa).q fun a W => ?_
        refine A2 W (Ae W Aa Aa Aa Aa) Aa (As Aa) (Bn (v := Value.int .i64 x44) 2 W Aa Aa T3 (B1 (base := 1) (m := 4) (l := [p1.2.1.1, p1.2.1.2.1, p1.2.1.2.2.1, p1.2.1.2.2.2]) (enc := Value.int .i64) Aa h7)).q fun a W => ?_
        refine A2 W (Ae W Aa Aa Aa Aa) Aa (As Aa) (Am W Aa).q fun a W => ?_
        obtain ⟨x45, h8, H⟩ := Af H
        refine A2 W (Ae W Aa Aa Aa Aa) Aa (As Aa) (AM (v := Value.int .i64 x45) W Nc Aa (fun w F => CU any w x44 x28 _ h8)) fun a W => ?_
        refine A2 W (Ae W Aa Aa Aa Aa) Aa (As Aa) (Kb W Aa Aa).q fun a W => ?_
        refine qs W Aa (BH W Aa Aa Aa).q fun a W => ?_
        refine AJ fun w F => ?_
        refine Ad ?_
        have F := F.frontM (i := 3) Aa Aa
        have F := F.frontM (i := 3) Aa Aa
        have F := F.frontM (i := 3) Aa Aa
        have F := F.frontM (i := 3) Aa Aa
        exact ⟨_, H, W.ra Aa, F⟩
       have H := B5 (Cp hb) H
       rw [hb] at W
       clear hb
       iterate 13 refine AP W (AB W Aa Aa Aa Aa Aa) Aa Aa fun a W => ?_
       refine qs W Aa (AO W Aa Aa Aa).q fun a W => ?_
       refine AJ fun w F => ?_
       refine Ad ?_
       have F := F.frontM (i := 3) Aa Aa
       have F := F.frontM (i := 3) Aa Aa
       have F := F.frontM (i := 3) Aa Aa
       have F := F.frontM (i := 3) Aa Aa
       exact ⟨_, H, W.ra Aa, F⟩
      have H := B5 (Cp hb) H
      rw [hb] at W
      clear hb
      iterate 7 refine AP W (AB W Aa Aa Aa Aa Aa) Aa Aa fun a W => ?_
      refine qs W Aa (AO W Aa Aa Aa).q fun a W => ?_
      refine qs W Aa (Am W Aa).q fun a W => ?_
      iterate 13 refine AP W (AB W Aa Aa Aa Aa Aa) Aa Aa fun a W => ?_
      refine qs W Aa (AO W Aa Aa Aa).q fun a W => ?_
      refine AJ fun w F => ?_
      refine Ad ?_
      have F := F.frontM (i := 3) Aa Aa
      have F := F.frontM (i := 3) Aa Aa
      have F := F.frontM (i := 3) Aa Aa
      have F := F.frontM (i := 3) Aa Aa
      exact ⟨_, H, W.ra Aa, F⟩
     rintro a w ⟨x37, hj, W, F⟩
     have hj := Av hj
     subst hj
     have H := K6
     clear G6 K6
     refine BE W Aa H (fun W H => ?_) fun W H => ?_
     ·
      refine vc tk 2 W F fun a w W F => ?_
      refine ls W F Aa (Dr (v := Value.agg #[.int .i64 0, .int .i64 0, .int .i64 0, .int .i64 0, .int .i64 0, .int .i64 0, .int .i64 0, .int .i64 0, .int .i64 0]) Rh W Aa Aa Aa).q fun a w W F => ?_
      refine Dh 1 W F Aa Aa Aa H2 Aa Aa Aa fun w F => ?_
      refine BJ tk 3 W F fun a w W F => ?_
      refine Al (Aq (Az ?_))
      iterate 2 refine Aq ?_
      iterate 2 refine Az ?_
      iterate 2 refine Aq ?_
      refine Az (Aq ?_)
      have H := L5 _ H
      have H := L4 _ H
      have H := L3 _ H
      have H := L2 _ H
      have H := Av H
      subst H
      refine CI (.inl Aa) W F Aa (Dp 1 W Aa Aa H2 Aa) (Ai W Aa) ?_
      exact ⟨rfl, F.done⟩
     refine AC (Ad ?_)
     obtain ⟨o7, G7, K7⟩ := Af H
     refine Au (fun a w => ∃ x46 : Int, ∃ x47 : Int, ∃ x48 : Int, ∃ x49 : Int, ∃ x50 : Int, ∃ x51 : Int, ∃ x52 : Int, ∃ x53 : Int, some ((x46, x47, x48, x49, x50, x51, x52, x53)) = some o7 ∧ Fr 112 [] [(2, .pointer (some ⟨b1, 0, none⟩)), (3, .pointer (some ⟨b2, 0, none⟩)), (4, .pointer (some ⟨b3, 0, none⟩)), (5, .bool false), (6, .pointer (some ⟨b4, 0, none⟩)), (7, .int .i64 x10), (8, .int .i64 x27), (9, .int .i64 x28)] a ∧ Stw ⟨Y, [], w0⟩ [(b4, (GU x1 x46 x47 x48 x49 x50 x51 x52 x53)), (b3, (D7)), (b2, [.int .i64 p1.1, .int .i64 p1.2.1.1, .int .i64 p1.2.1.2.1, .int .i64 p1.2.1.2.2.1, .int .i64 p1.2.1.2.2.2, .int .i64 p1.2.2.1, .int .i64 p1.2.2.2.1, .int .i64 p1.2.2.2.2.1, .int .i64 p1.2.2.2.2.2]), (b1, (EH p0))] [] w) ?_ ?_
     ·
      have H := G7
      clear G7 K7
      obtain ⟨o8, G8, K8⟩ := Af H
      refine Au (fun a w => ∃ x54 : Bool, some (x54) = some o8 ∧ Fr 112 [] [(2, .pointer (some ⟨b1, 0, none⟩)), (3, .pointer (some ⟨b2, 0, none⟩)), (4, .pointer (some ⟨b3, 0, none⟩)), (5, .bool false), (6, .pointer (some ⟨b4, 0, none⟩)), (7, .int .i64 x10), (8, .int .i64 x27), (9, .int .i64 x28), (83, .bool x54)] a ∧ Stw ⟨Y, [], w0⟩ [(b4, (GU x1 x29 x30 x31 x32 x33 x34 x35 x36)), (b3, (D7)), (b2, [.int .i64 p1.1, .int .i64 p1.2.1.1, .int .i64 p1.2.1.2.1, .int .i64 p1.2.1.2.2.1, .int .i64 p1.2.1.2.2.2, .int .i64 p1.2.2.1, .int .i64 p1.2.2.2.1, .int .i64 p1.2.2.2.2.1, .int .i64 p1.2.2.2.2.2]), (b1, (EH p0))] [] w) ?_ ?_
      ·
       have H := G8
       clear G8 K8
       refine vc tk 3 W F fun a w W F => ?_
       obtain ⟨x55, h9, H⟩ := Af H
       refine ls W F Aa (A7 (5 + (x10).toNat * 1) DA W Aa Aa Aa h9 Aa).q fun a w W F => ?_
       refine ls W F Aa (Bn (v := Value.int .i64 x55) 2 W Aa Aa T3 (B1 (base := 5) (m := 4) (l := [p1.2.2.1, p1.2.2.2.1, p1.2.2.2.2.1, p1.2.2.2.2.2]) (enc := Value.int .i64) Aa h9)).q fun a w W F => ?_
       refine ls W F Aa (Am W Aa).q fun a w W F => ?_
       obtain ⟨x56, h10, H⟩ := Af H
       refine ls W F Aa (AM (v := Value.int .i64 x56) W Nc Aa (fun w F => CU any w x55 x28 _ h10)) fun a w W F => ?_
       refine vl tk 2 W F fun a w W F => ?_
       rcases Bool.eq_false_or_eq_true (decide (x56 = 1)) with hb | hb
       ·
        have H := B4 (Cn hb) H
        rw [hb] at W
        clear hb
        refine vl tk 2 W F fun a w W F => ?_
        obtain ⟨x57, h11, H⟩ := Af H
        refine FE W F (Ae W Aa Aa Aa Aa) Aa (As Aa) (A7 (5 + (x10).toNat * 1) DA W Aa Aa Aa h11 Aa).q fun a w W F => ?_
        refine FE W F (Ae W Aa Aa Aa Aa) Aa (As Aa) (Bn (v := Value.int .i64 x57) 3 W Aa Aa T3 (B1 (base := 5) (m := 4) (l := [p0.2.2.1, p0.2.2.2.1, p0.2.2.2.2.1, p0.2.2.2.2.2]) (enc := Value.int .i64) Aa h11)).q fun a w W F => ?_
        refine FE W F (Ae W Aa Aa Aa Aa) Aa (As Aa) (Am W Aa).q fun a w W F => ?_
        refine F2 (Ae W Aa Aa Aa Aa) ?_
        obtain ⟨x58, h12, H⟩ := Af H
        refine ls W F Aa (AM (v := Value.int .i64 x58) W Nc Aa (fun w F => CU any w x57 x28 _ h12)) fun a w W F => ?_
        refine vl tk 3 W F fun a w W F => ?_
        refine Ad ?_
        have F := F.frontM (i := 3) Aa Aa
        have F := F.frontM (i := 3) Aa Aa
        have F := F.frontM (i := 3) Aa Aa
        have F := F.frontM (i := 3) Aa Aa
        exact ⟨_, H, W.ra Aa, F⟩
       have H := B5 (Cp hb) H
       rw [hb] at W
       clear hb
       refine vl tk 9 W F fun a w W F => ?_
       refine Ad ?_
       have F := F.frontM (i := 3) Aa Aa
       have F := F.frontM (i := 3) Aa Aa
       have F := F.frontM (i := 3) Aa Aa
       have F := F.frontM (i := 3) Aa Aa
       exact ⟨_, H, W.ra Aa, F⟩
      rintro a w ⟨x54, hj, W, F⟩
      have hj := Av hj
      subst hj
      have H := K8
      clear G8 K8
      refine BE W Aa H (fun W H => ?_) fun W H => ?_
      ·
       refine vc tk 5 W F fun a w W F => ?_
       obtain ⟨x59, h13, H⟩ := Af H
       refine ls W F Aa (A7 (5 + (x10).toNat * 1) DA W Aa Aa Aa h13 Aa).q fun a w W F => ?_
       refine ls W F Aa (Bn (v := Value.int .i64 x59) 0 W Aa Aa T3 (B1 (base := 5) (m := 4) (l := [x33, x34, x35, x36]) (enc := Value.int .i64) Aa h13)).q fun a w W F => ?_
       refine vl tk 3 W F fun a w W F => ?_
       obtain ⟨x60, h14, H⟩ := Af H
       refine ls W F Aa (A7 (5 + (x10).toNat * 1) DA W Aa Aa Aa h14 Aa).q fun a w W F => ?_
       refine Ef (o := 5) (m := 4) (i := x10) (l := ([x33, x34, x35, x36] : List Int)) (x := x60) (cs := (GU x1 x29 x30 x31 x32 x33 x34 x35 x36)) (cs' := [.int .i64 x1, .int .i64 x29, .int .i64 x30, .int .i64 x31, .int .i64 x32, .int .i64 (if x10 = 0 then Cc (x59 + x27) else x33), .int .i64 (if x10 = 1 then Cc (x59 + x27) else x34), .int .i64 (if x10 = 2 then Cc (x59 + x27) else x35), .int .i64 (if x10 = 3 then Cc (x59 + x27) else x36)]) 0 W F Aa Aa Aa T3 Aa Aa Aa Aa h14 (by intro k hk hn; rw [hk]; match k, hn with | 0, _ => rfl | 1, _ => rfl | 2, _ => rfl | 3, _ => rfl | (z + 4), h => exact absurd h (by omega)) fun w F => ?_
       have F : Stw ⟨Y, [], w0⟩ [(b4, [.int .i64 x1, .int .i64 x29, .int .i64 x30, .int .i64 x31, .int .i64 x32, .int .i64 (if x10 = 0 then Cc (x59 + x27) else x33), .int .i64 (if x10 = 1 then Cc (x59 + x27) else x34), .int .i64 (if x10 = 2 then Cc (x59 + x27) else x35), .int .i64 (if x10 = 3 then Cc (x59 + x27) else x36)]), (b3, (D7)), (b2, [.int .i64 p1.1, .int .i64 p1.2.1.1, .int .i64 p1.2.1.2.1, .int .i64 p1.2.1.2.2.1, .int .i64 p1.2.1.2.2.2, .int .i64 p1.2.2.1, .int .i64 p1.2.2.2.1, .int .i64 p1.2.2.2.2.1, .int .i64 p1.2.2.2.2.2]), (b1, (EH p0))] [] w := F
       refine BJ tk 2 W F fun a w W F => ?_
       refine GK 16 F MO (by kernel_rfl) ?_
       iterate 2 refine qs W Aa (Am W Aa).q fun a W => ?_
       refine qs W Aa (Aj Eb Aa Aa Aa Hk W Aa 1 Aa).q fun a W => ?_
       obtain ⟨x61, h15, H⟩ := Af H
       refine qs W Aa (A7 (1 + (x10).toNat * 1) DA W Aa Aa Aa h15 Aa).q fun a W => ?_
       refine qs W Aa (Bn (v := Value.int .i64 x61) 0 W Aa Aa T3 (B1 (base := 1) (m := 4) (l := [x29, x30, x31, x32]) (enc := Value.int .i64) Aa h15)).q fun a W => ?_
       iterate 2 refine qs W Aa (Am W Aa).q fun a W => ?_
       refine qs W Aa (Aj Eb Aa Aa Aa Hk W Aa 1 Aa).q fun a W => ?_
       obtain ⟨x62, h16, H⟩ := Af H
       refine qs W Aa (A7 (1 + (x10).toNat * 1) DA W Aa Aa Aa h16 Aa).q fun a W => ?_
       refine qs W Aa (Bn (v := Value.int .i64 x62) 2 W Aa Aa T3 (B1 (base := 1) (m := 4) (l := [p1.2.1.1, p1.2.1.2.1, p1.2.1.2.2.1, p1.2.1.2.2.2]) (enc := Value.int .i64) Aa h16)).q fun a W => ?_
       refine qs W Aa (Am W Aa).q fun a W => ?_
       obtain ⟨x63, h17, H⟩ := Af H
       refine qs W Aa (AM (v := Value.int .i64 x63) W Nc Aa (fun w F => CU any w x62 x28 _ h17)) fun a W => ?_
       refine qs W Aa (P3 W Aa Aa Aa).q fun a W => ?_
       refine qs W Aa (NP W Aa Aa Aa).q fun a W => ?_
       refine qs W Aa (Aj Eb Aa Aa Aa Hk W Aa 1 Aa).q fun a W => ?_
       obtain ⟨x64, h18, H⟩ := Af H
       refine qs W Aa (A7 (1 + (x10).toNat * 1) DA W Aa Aa Aa h18 Aa).q fun a W => ?_
       refine AJ fun w F => ?_
       refine Ef (o := 1) (m := 4) (i := x10) (l := ([x29, x30, x31, x32] : List Int)) (x := x64) (cs := [.int .i64 x1, .int .i64 x29, .int .i64 x30, .int .i64 x31, .int .i64 x32, .int .i64 (if x10 = 0 then Cc (x59 + x27) else x33), .int .i64 (if x10 = 1 then Cc (x59 + x27) else x34), .int .i64 (if x10 = 2 then Cc (x59 + x27) else x35), .int .i64 (if x10 = 3 then Cc (x59 + x27) else x36)]) (cs' := [.int .i64 x1, .int .i64 (if x10 = 0 then Cc (x61 + (Cc (x27 * x63))) else x29), .int .i64 (if x10 = 1 then Cc (x61 + (Cc (x27 * x63))) else x30), .int .i64 (if x10 = 2 then Cc (x61 + (Cc (x27 * x63))) else x31), .int .i64 (if x10 = 3 then Cc (x61 + (Cc (x27 * x63))) else x32), .int .i64 (if x10 = 0 then Cc (x59 + x27) else x33), .int .i64 (if x10 = 1 then Cc (x59 + x27) else x34), .int .i64 (if x10 = 2 then Cc (x59 + x27) else x35), .int .i64 (if x10 = 3 then Cc (x59 + x27) else x36)]) 0 W F Aa Aa Aa T3 Aa Aa Aa Aa h18 (by intro k hk hn; rw [hk]; match k, hn with | 0, _ => rfl | 1, _ => rfl | 2, _ => rfl | 3, _ => rfl | (z + 4), h => exact absurd h (by omega)) fun w F => ?_
       have F : Stw ⟨Y, [], w0⟩ [(b4, [.int .i64 x1, .int .i64 (if x10 = 0 then Cc (x61 + (Cc (x27 * x63))) else x29), .int .i64 (if x10 = 1 then Cc (x61 + (Cc (x27 * x63))) else x30), .int .i64 (if x10 = 2 then Cc (x61 + (Cc (x27 * x63))) else x31), .int .i64 (if x10 = 3 then Cc (x61 + (Cc (x27 * x63))) else x32), .int .i64 (if x10 = 0 then Cc (x59 + x27) else x33), .int .i64 (if x10 = 1 then Cc (x59 + x27) else x34), .int .i64 (if x10 = 2 then Cc (x59 + x27) else x35), .int .i64 (if x10 = 3 then Cc (x59 + x27) else x36)]), (b3, (D7)), (b2, [.int .i64 p1.1, .int .i64 p1.2.1.1, .int .i64 p1.2.1.2.1, .int .i64 p1.2.1.2.2.1, .int .i64 p1.2.1.2.2.2, .int .i64 p1.2.2.1, .int .i64 p1.2.2.2.1, .int .i64 p1.2.2.2.2.1, .int .i64 p1.2.2.2.2.2]), (b1, (EH p0))] [] w := F
       refine Er (Ad ?_)
       have F := F.frontM (i := 3) Aa Aa
       have F := F.frontM (i := 3) Aa Aa
       have F := F.frontM (i := 3) Aa Aa
       have F := F.frontM (i := 3) Aa Aa
       exact ⟨_, _, _, _, _, _, _, _, H, W.ra Aa, F⟩
      refine AC (Ad ?_)
      have F := F.frontM (i := 3) Aa Aa
      have F := F.frontM (i := 3) Aa Aa
      have F := F.frontM (i := 3) Aa Aa
      have F := F.frontM (i := 3) Aa Aa
      exact ⟨_, _, _, _, _, _, _, _, H, W.ra Aa, F⟩
     rintro a w ⟨x46, x47, x48, x49, x50, x51, x52, x53, hj, W, F⟩
     have hj := Av hj
     subst hj
     have H := K7
     clear G7 K7
     refine vc tk 5 W F fun a w W F => ?_
     refine AF ?_
     refine vn tk 5 W F fun a w W F => ?_
     refine Ad ?_
     have F := F.frontM (i := 3) Aa Aa
     have F := F.frontM (i := 3) Aa Aa
     have F := F.frontM (i := 3) Aa Aa
     have F := F.frontM (i := 3) Aa Aa
     exact ⟨_, H, W.ra Aa, F⟩
    refine Bm ?_
    iterate 2 refine BU ?_
    refine Bp (AF (Ad ?_))
    have F := F.frontM (i := 3) Aa Aa
    have F := F.frontM (i := 3) Aa Aa
    have F := F.frontM (i := 3) Aa Aa
    have F := F.frontM (i := 3) Aa Aa
    have H := L5 _ H
    exact ⟨_, _, _, _, _, _, _, _, H, W.ra Aa, F⟩
   rintro a w ⟨x19, x20, x21, x22, x23, x24, x25, x26, hj, W, F⟩
   have H := K4 _ hj
   clear hj G4 K4 L4
   refine vc tk 5 W F fun a w W F => ?_
   refine Ad ?_
   have F := F.frontM (i := 3) Aa Aa
   have F := F.frontM (i := 3) Aa Aa
   have F := F.frontM (i := 3) Aa Aa
   have F := F.frontM (i := 3) Aa Aa
   exact ⟨_, H, W.ra Aa, F⟩
  refine Bm ?_
  iterate 2 refine BU ?_
  refine Bp (Ad ?_)
  have F := F.frontM (i := 3) Aa Aa
  have F := F.frontM (i := 3) Aa Aa
  have F := F.frontM (i := 3) Aa Aa
  have F := F.frontM (i := 3) Aa Aa
  have H := L3 _ H
  exact ⟨_, _, _, _, _, _, _, _, H, W.ra Aa, F⟩
 rintro a w ⟨x2, x3, x4, x5, x6, x7, x8, x9, hj, W, F⟩
 have H := K2 _ hj
 clear hj G2 K2 L2
 refine Fq tk 3 [0] W F (ai fun a w W F => ?_)
 refine Dh 1 W F Aa Aa Aa H2 Aa Aa Aa fun w F => ?_
 refine BJ tk 3 W F fun a w W F => ?_
 refine Al ?_
 have H := Av H
 subst H
 refine CI (.inl Aa) W F Aa (Dp 1 W Aa Aa H2 Aa) (Ai W Aa) ?_
 exact ⟨rfl, F.done⟩
theorem Tw : Has Try.prog 84 := BV Try.func84
noncomputable def EF (p0 : Int × (Int × (Int × Int × Int × Int) × (Int × Int × Int × Int)) × (List (Int × Int × Int))) (p1 : Int × (Int × (Int × Int × Int × Int) × (Int × Int × Int × Int)) × (List (Int × Int × Int))) : Option Bool := (if (decide (p0.1 ≠ p1.1) || decide (p0.2.1.1 = p1.2.1.1 ∧ p0.2.1.2.1.1 = p1.2.1.2.1.1 ∧ p0.2.1.2.1.2.1 = p1.2.1.2.1.2.1 ∧ p0.2.1.2.1.2.2.1 = p1.2.1.2.1.2.2.1 ∧ p0.2.1.2.1.2.2.2 = p1.2.1.2.1.2.2.2 ∧ p0.2.1.2.2.1 = p1.2.1.2.2.1 ∧ p0.2.1.2.2.2.1 = p1.2.1.2.2.2.1 ∧ p0.2.1.2.2.2.2.1 = p1.2.1.2.2.2.2.1 ∧ p0.2.1.2.2.2.2.2 = p1.2.1.2.2.2.2.2)) = true then some false else (GV p0.2.1 p1.2.1).bind fun x1 => some x1.2)
theorem Jg (Y : Nat → Prop) (w0 : World) (v1 : Value) (v2 : Value) (p0 : Int × (Int × (Int × Int × Int × Int) × (Int × Int × Int × Int)) × (List (Int × Int × Int))) (p1 : Int × (Int × (Int × Int × Int × Int) × (Int × Int × Int × Int)) × (List (Int × Int × Int))) (r : Bool) (H : EF p0 p1 = some r) (h_v1 : Sl w0 (NX []) Bk v1 p0.2.2) (h_v2 : Sl w0 (NX []) Bk v2 p1.2.2) :
    Calls Try.prog 76 #[.agg #[.int .i64 p0.1, .int .i64 p0.2.1.1, .int .i64 p0.2.1.2.1.1, .int .i64 p0.2.1.2.1.2.1, .int .i64 p0.2.1.2.1.2.2.1, .int .i64 p0.2.1.2.1.2.2.2, .int .i64 p0.2.1.2.2.1, .int .i64 p0.2.1.2.2.2.1, .int .i64 p0.2.1.2.2.2.2.1, .int .i64 p0.2.1.2.2.2.2.2, v1], .agg #[.int .i64 p1.1, .int .i64 p1.2.1.1, .int .i64 p1.2.1.2.1.1, .int .i64 p1.2.1.2.1.2.1, .int .i64 p1.2.1.2.1.2.2.1, .int .i64 p1.2.1.2.1.2.2.2, .int .i64 p1.2.1.2.2.1, .int .i64 p1.2.1.2.2.2.1, .int .i64 p1.2.1.2.2.2.2.1, .int .i64 p1.2.1.2.2.2.2.2, v2]] w0 fun e w' => e = .returned (.bool r) ∧ Below w0.heap.size w0 w' := by
 refine enter Try.func76 Aa Try.ntmps76 Aa fun a W => ?_
 have F := Stw.start Y w0
 unfold EF at H
 refine vc tk 2 W F fun a w W F => ?_
 refine BR (cs := (DZ p0 v1)) W F Aa Aa Aa fun b1 a w W F => ?_
 refine BR (cs := (DZ p1 v2)) W F Aa Aa Aa fun b2 a w W F => ?_
 refine BJ tk 4 W F fun a w W F => ?_
 refine Au (fun a w => Fr 28 [] [(2, .pointer (some ⟨b1, 0, none⟩)), (3, .pointer (some ⟨b2, 0, none⟩)), (4, .bool false), (18, .bool (decide (p0.1 ≠ p1.1) || decide (p0.2.1.1 = p1.2.1.1 ∧ p0.2.1.2.1.1 = p1.2.1.2.1.1 ∧ p0.2.1.2.1.2.1 = p1.2.1.2.1.2.1 ∧ p0.2.1.2.1.2.2.1 = p1.2.1.2.1.2.2.1 ∧ p0.2.1.2.1.2.2.2 = p1.2.1.2.1.2.2.2 ∧ p0.2.1.2.2.1 = p1.2.1.2.2.1 ∧ p0.2.1.2.2.2.1 = p1.2.1.2.2.2.1 ∧ p0.2.1.2.2.2.2.1 = p1.2.1.2.2.2.2.1 ∧ p0.2.1.2.2.2.2.2 = p1.2.1.2.2.2.2.2)))] a ∧ Stw ⟨Y, [], w0⟩ (OD b2 p1 v2 b1 p0 v1) [] w) ?_ ?_
 ·
  refine Fq tk 7 [1, 0] W F (ai (ai fun a w W F => ?_))
  rcases Bool.eq_false_or_eq_true (decide (p0.1 ≠ p1.1)) with hb0 | hb0
  ·
   rw [hb0] at W
   refine vl tk 7 W F fun a w W F => ?_
   refine Ad ?_
   exact ⟨W.re ⟨rfl, Aa, Aa, (Ev (by try rw [hb0]; all_goals simp only [Es])), trivial⟩, F⟩
  rw [hb0] at W
  refine Fu tk 4 [1, 0] W F (ai (ai fun a w W F => ?_))
  refine FE W F (Ae W Aa Aa Aa Aa) Aa (As Aa) (KU (t := decide (p0.2.1.1 = p1.2.1.1 ∧ p0.2.1.2.1.1 = p1.2.1.2.1.1 ∧ p0.2.1.2.1.2.1 = p1.2.1.2.1.2.1 ∧ p0.2.1.2.1.2.2.1 = p1.2.1.2.1.2.2.1 ∧ p0.2.1.2.1.2.2.2 = p1.2.1.2.1.2.2.2 ∧ p0.2.1.2.2.1 = p1.2.1.2.2.1 ∧ p0.2.1.2.2.2.1 = p1.2.1.2.2.2.1 ∧ p0.2.1.2.2.2.2.1 = p1.2.1.2.2.2.2.1 ∧ p0.2.1.2.2.2.2.2 = p1.2.1.2.2.2.2.2)) Q4 (QX _ _ _ _ _ _ _ _ _ _ _ _ _ _ _ _ _ _) W Aa Aa).q fun a w W F => ?_
  refine vl tk 2 W F fun a w W F => ?_
  refine Ad ?_
  exact ⟨W.re ⟨rfl, Aa, Aa, (Ev (by try rw [hb0]; all_goals simp only [Es])), trivial⟩, F⟩
 rintro a w ⟨W, F⟩
 refine BE W Aa H (fun W H => ?_) fun W H => ?_
 ·
  refine vc tk 5 W F fun a w W F => ?_
  refine Al (Aq ?_)
  have H := Av H
  subst H
  refine Aw (.inl Aa) W F Aa (Ai W Aa) ?_
  exact ⟨rfl, F.done⟩
 refine KR tk 8 [1, 0] W F (ai (ai fun a w W F => ?_))
 obtain ⟨x1, h1, H⟩ := Af H
 refine ls W F Aa (AM (v := Value.tuple #[.agg #[.int .i64 x1.1.1, .int .i64 x1.1.2.1.1, .int .i64 x1.1.2.1.2.1, .int .i64 x1.1.2.1.2.2.1, .int .i64 x1.1.2.1.2.2.2, .int .i64 x1.1.2.2.1, .int .i64 x1.1.2.2.2.1, .int .i64 x1.1.2.2.2.2.1, .int .i64 x1.1.2.2.2.2.2], .bool x1.2]) W Tw Aa (fun w F => LO any w p0.2.1 p1.2.1 _ h1)) fun a w W F => ?_
 refine ls W F Aa (Am W Aa).q fun a w W F => ?_
 refine ls W F Aa (AN (v := Value.agg #[.int .i64 x1.1.1, .int .i64 x1.1.2.1.1, .int .i64 x1.1.2.1.2.1, .int .i64 x1.1.2.1.2.2.1, .int .i64 x1.1.2.1.2.2.2, .int .i64 x1.1.2.2.1, .int .i64 x1.1.2.2.2.1, .int .i64 x1.1.2.2.2.2.1, .int .i64 x1.1.2.2.2.2.2]) W Aa Aa).q fun a w W F => ?_
 refine ls W F Aa (AN (v := Value.bool x1.2) W Aa Aa).q fun a w W F => ?_
 refine Ca (cs := (D7)) W F Aa Py Aa fun b3 a w W F => ?_
 refine Dh 0 W F Aa Aa Aa H2 Aa Aa Aa fun w F => ?_
 refine BJ tk 9 W F fun a w W F => ?_
 refine Al ?_
 have H := Av H
 subst H
 refine Aw (.inl Aa) W F Aa (Ai W Aa) ?_
 exact ⟨rfl, F.done⟩
end Go.Proofs.Ytfnmlmglmegamaa
