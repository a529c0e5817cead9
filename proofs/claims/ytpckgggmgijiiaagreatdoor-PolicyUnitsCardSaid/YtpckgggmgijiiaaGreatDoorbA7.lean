/- The functions of layer 27, Ix. Conditions: none. -/
import Derived.Test.YtpckgggmgijiiaaGreatDoorbA6
namespace Go.Proofs.YtpckgggmgijiiaaGreatDoor
open Go Go.RowKit
set_option linter.unusedVariables false
set_option linter.unusedSimpArgs false
set_option maxRecDepth 20000
set_option maxHeartbeats 1600000
theorem XW : Has Tryz.prog 19 := CJ Tryz.func19
abbrev Ww (a0 : Nat) (a1 : Int × Int × Int × Int) (a2 : Nat) (a3 : Tr27) (a4 : Value) (a5 : Value) : List (Nat × List Value) := [(a0, [.int .i64 a1.1, .int .i64 a1.2.1, .int .i64 a1.2.2.1, .int .i64 a1.2.2.2]), (a2, [.int .i64 a3.un.1, .int .i64 a3.un.2.1.un.1, .int .i64 a3.un.2.1.un.2.1, .int .i64 a3.un.2.1.un.2.2.1, a4, .int .i64 a3.un.2.2.1, .int .i64 a3.un.2.2.2.1, a5])]
abbrev GI  : List Value := [.int .i64 1, .int .i64 1, .int .i64 0, .int .i64 0, .slice none 0 0, .int .i64 0, .int .i64 0, .slice none 0 0]
abbrev GE  : List Value := [.int .i64 1, .int .i64 2, .int .i64 0, .int .i64 0, .slice none 0 0, .int .i64 0, .int .i64 0, .slice none 0 0]
abbrev US (a0 : Tr37) (a1 : Value) (a2 : Value) : List Value := [.int .i64 1, .int .i64 2, .int .i64 0, .int .i64 0, .slice none 0 0, .int .i64 0, .int .i64 0, .slice none 0 0, .int .i64 a0.un.1, .int .i64 a0.un.2.1.un.1, .int .i64 a0.un.2.1.un.2.1, .int .i64 a0.un.2.1.un.2.2.1, a1, .int .i64 a0.un.2.2.1, .int .i64 a0.un.2.2.2.1, a2]
abbrev Hu (a0 : Int) (a1 : Int) : List Value := [.int .i64 2, .int .i64 0, .int .i64 0, .int .i64 0, .slice none 0 0, .int .i64 a0, .int .i64 a1, .slice none 0 0]
noncomputable def Cf (p4 : Int) (p5 : Int) (p6 : Int × Int × Int × Int) (x3 : Tr37) (x4 : (List (Int × (Int × Int × Int × Int)))) : Int → Option (Int ⊕ (Unit ⊕ Bool))
  | x5 => (if x5 < (([Tr37.of (3, Tr34.of (0, 0, 0, ([] : List Tr34)), 0, 0, ([Tr37.of (1, Tr34.of (1, 0, 0, ([] : List Tr34)), 0, 0, ([] : List Tr37)), Tr37.of (x3.un.1, Tr34.of (x3.un.2.1.un.1, x3.un.2.1.un.2.1, x3.un.2.1.un.2.2.1, x3.un.2.1.un.2.2.2), x3.un.2.2.1, x3.un.2.2.2.1, x3.un.2.2.2.2)] : List Tr37)), Tr37.of (3, Tr34.of (0, 0, 0, ([] : List Tr34)), 0, 0, ([Tr37.of (x3.un.1, Tr34.of (x3.un.2.1.un.1, x3.un.2.1.un.2.1, x3.un.2.1.un.2.2.1, x3.un.2.1.un.2.2.2), x3.un.2.2.1, x3.un.2.2.2.1, x3.un.2.2.2.2), Tr37.of (1, Tr34.of (1, 0, 0, ([] : List Tr34)), 0, 0, ([] : List Tr37))] : List Tr37)), Tr37.of (4, Tr34.of (0, 0, 0, ([] : List Tr34)), 0, 0, ([Tr37.of (1, Tr34.of (2, 0, 0, ([] : List Tr34)), 0, 0, ([] : List Tr37)), Tr37.of (x3.un.1, Tr34.of (x3.un.2.1.un.1, x3.un.2.1.un.2.1, x3.un.2.1.un.2.2.1, x3.un.2.1.un.2.2.2), x3.un.2.2.1, x3.un.2.2.2.1, x3.un.2.2.2.2)] : List Tr37)), Tr37.of (3, Tr34.of (0, 0, 0, ([] : List Tr34)), 0, 0, ([Tr37.of (1, Tr34.of (2, 0, 0, ([] : List Tr34)), 0, 0, ([] : List Tr37)), Tr37.of (x3.un.1, Tr34.of (x3.un.2.1.un.1, x3.un.2.1.un.2.1, x3.un.2.1.un.2.2.1, x3.un.2.1.un.2.2.2), x3.un.2.2.1, x3.un.2.2.2.1, x3.un.2.2.2.2)] : List Tr37)), Tr37.of (3, Tr34.of (0, 0, 0, ([] : List Tr34)), 0, 0, ([Tr37.of (x3.un.1, Tr34.of (x3.un.2.1.un.1, x3.un.2.1.un.2.1, x3.un.2.1.un.2.2.1, x3.un.2.1.un.2.2.2), x3.un.2.2.1, x3.un.2.2.2.1, x3.un.2.2.2.2), Tr37.of (1, Tr34.of (2, 0, 0, ([] : List Tr34)), 0, 0, ([] : List Tr37))] : List Tr37))] : List Tr37).length : Int) then (if 3 ≤ x5 then some ([]) else some x4).bind fun x6 => ((ix ([Tr37.of (3, Tr34.of (0, 0, 0, ([] : List Tr34)), 0, 0, ([Tr37.of (1, Tr34.of (1, 0, 0, ([] : List Tr34)), 0, 0, ([] : List Tr37)), Tr37.of (x3.un.1, Tr34.of (x3.un.2.1.un.1, x3.un.2.1.un.2.1, x3.un.2.1.un.2.2.1, x3.un.2.1.un.2.2.2), x3.un.2.2.1, x3.un.2.2.2.1, x3.un.2.2.2.2)] : List Tr37)), Tr37.of (3, Tr34.of (0, 0, 0, ([] : List Tr34)), 0, 0, ([Tr37.of (x3.un.1, Tr34.of (x3.un.2.1.un.1, x3.un.2.1.un.2.1, x3.un.2.1.un.2.2.1, x3.un.2.1.un.2.2.2), x3.un.2.2.1, x3.un.2.2.2.1, x3.un.2.2.2.2), Tr37.of (1, Tr34.of (1, 0, 0, ([] : List Tr34)), 0, 0, ([] : List Tr37))] : List Tr37)), Tr37.of (4, Tr34.of (0, 0, 0, ([] : List Tr34)), 0, 0, ([Tr37.of (1, Tr34.of (2, 0, 0, ([] : List Tr34)), 0, 0, ([] : List Tr37)), Tr37.of (x3.un.1, Tr34.of (x3.un.2.1.un.1, x3.un.2.1.un.2.1, x3.un.2.1.un.2.2.1, x3.un.2.1.un.2.2.2), x3.un.2.2.1, x3.un.2.2.2.1, x3.un.2.2.2.2)] : List Tr37)), Tr37.of (3, Tr34.of (0, 0, 0, ([] : List Tr34)), 0, 0, ([Tr37.of (1, Tr34.of (2, 0, 0, ([] : List Tr34)), 0, 0, ([] : List Tr37)), Tr37.of (x3.un.1, Tr34.of (x3.un.2.1.un.1, x3.un.2.1.un.2.1, x3.un.2.1.un.2.2.1, x3.un.2.1.un.2.2.2), x3.un.2.2.1, x3.un.2.2.2.1, x3.un.2.2.2.2)] : List Tr37)), Tr37.of (3, Tr34.of (0, 0, 0, ([] : List Tr34)), 0, 0, ([Tr37.of (x3.un.1, Tr34.of (x3.un.2.1.un.1, x3.un.2.1.un.2.1, x3.un.2.1.un.2.2.1, x3.un.2.1.un.2.2.2), x3.un.2.2.1, x3.un.2.2.2.1, x3.un.2.2.2.2), Tr37.of (1, Tr34.of (2, 0, 0, ([] : List Tr34)), 0, 0, ([] : List Tr37))] : List Tr37))] : List Tr37) x5).bind fun x8 => (FE (Tr37.of (x8.un.1, Tr34.of (x8.un.2.1.un.1, x8.un.2.1.un.2.1, x8.un.2.1.un.2.2.1, x8.un.2.1.un.2.2.2), x8.un.2.2.1, x8.un.2.2.2.1, x8.un.2.2.2.2))).bind fun x9 => (FO (Tr27.of (x9.un.1, Tr24.of (x9.un.2.1.un.1, x9.un.2.1.un.2.1, x9.un.2.1.un.2.2.1, x9.un.2.1.un.2.2.2), x9.un.2.2.1, x9.un.2.2.2.1, x9.un.2.2.2.2))).bind fun x10 => (if x10 = true then (ix ([Tr37.of (3, Tr34.of (0, 0, 0, ([] : List Tr34)), 0, 0, ([Tr37.of (1, Tr34.of (1, 0, 0, ([] : List Tr34)), 0, 0, ([] : List Tr37)), Tr37.of (x3.un.1, Tr34.of (x3.un.2.1.un.1, x3.un.2.1.un.2.1, x3.un.2.1.un.2.2.1, x3.un.2.1.un.2.2.2), x3.un.2.2.1, x3.un.2.2.2.1, x3.un.2.2.2.2)] : List Tr37)), Tr37.of (3, Tr34.of (0, 0, 0, ([] : List Tr34)), 0, 0, ([Tr37.of (x3.un.1, Tr34.of (x3.un.2.1.un.1, x3.un.2.1.un.2.1, x3.un.2.1.un.2.2.1, x3.un.2.1.un.2.2.2), x3.un.2.2.1, x3.un.2.2.2.1, x3.un.2.2.2.2), Tr37.of (1, Tr34.of (1, 0, 0, ([] : List Tr34)), 0, 0, ([] : List Tr37))] : List Tr37)), Tr37.of (4, Tr34.of (0, 0, 0, ([] : List Tr34)), 0, 0, ([Tr37.of (1, Tr34.of (2, 0, 0, ([] : List Tr34)), 0, 0, ([] : List Tr37)), Tr37.of (x3.un.1, Tr34.of (x3.un.2.1.un.1, x3.un.2.1.un.2.1, x3.un.2.1.un.2.2.1, x3.un.2.1.un.2.2.2), x3.un.2.2.1, x3.un.2.2.2.1, x3.un.2.2.2.2)] : List Tr37)), Tr37.of (3, Tr34.of (0, 0, 0, ([] : List Tr34)), 0, 0, ([Tr37.of (1, Tr34.of (2, 0, 0, ([] : List Tr34)), 0, 0, ([] : List Tr37)), Tr37.of (x3.un.1, Tr34.of (x3.un.2.1.un.1, x3.un.2.1.un.2.1, x3.un.2.1.un.2.2.1, x3.un.2.1.un.2.2.2), x3.un.2.2.1, x3.un.2.2.2.1, x3.un.2.2.2.2)] : List Tr37)), Tr37.of (3, Tr34.of (0, 0, 0, ([] : List Tr34)), 0, 0, ([Tr37.of (x3.un.1, Tr34.of (x3.un.2.1.un.1, x3.un.2.1.un.2.1, x3.un.2.1.un.2.2.1, x3.un.2.1.un.2.2.2), x3.un.2.2.1, x3.un.2.2.2.1, x3.un.2.2.2.2), Tr37.of (1, Tr34.of (2, 0, 0, ([] : List Tr34)), 0, 0, ([] : List Tr37))] : List Tr37))] : List Tr37) x5).bind fun x11 => (Ct (Tr37.of (x11.un.1, Tr34.of (x11.un.2.1.un.1, x11.un.2.1.un.2.1, x11.un.2.1.un.2.2.1, x11.un.2.1.un.2.2.2), x11.un.2.2.1, x11.un.2.2.2.1, x11.un.2.2.2.2)) p4 p5 p6).bind fun x12 => (IP x12 x6).bind fun x13 => some (!x13) else some false)).bind fun x7 => (if x7 = true then some (.inr (.inr false)) else some (.inl (AO (x5 + 1)))) else some (.inr (.inl ())))
noncomputable def Ga (p0 : Tr27) (p1 : Int) (p2 : Int) (p3 : Int) (p4 : Int) (p5 : Int) (p6 : Int × Int × Int × Int) : Option Bool := (FO (Tr27.of (p0.un.1, Tr24.of (p0.un.2.1.un.1, p0.un.2.1.un.2.1, p0.un.2.1.un.2.2.1, p0.un.2.1.un.2.2.2), p0.un.2.2.1, p0.un.2.2.2.1, p0.un.2.2.2.2))).bind fun x1 => (if (!x1) = true then (GZ).bind fun x2 => some x2 else (NQ (Tr27.of (p0.un.1, Tr24.of (p0.un.2.1.un.1, p0.un.2.1.un.2.1, p0.un.2.1.un.2.2.1, p0.un.2.1.un.2.2.2), p0.un.2.2.1, p0.un.2.2.2.1, p0.un.2.2.2.2))).bind fun x3 => (Ct (Tr37.of (x3.un.1, Tr34.of (x3.un.2.1.un.1, x3.un.2.1.un.2.1, x3.un.2.1.un.2.2.1, x3.un.2.1.un.2.2.2), x3.un.2.2.1, x3.un.2.2.2.1, x3.un.2.2.2.2)) p4 p5 p6).bind fun x4 => Ko (AW (Cf p4 p5 p6 x3 x4) 0) fun _ => ((FE (Tr37.of (3, Tr34.of (0, 0, 0, ([] : List Tr34)), 0, 0, ([Tr37.of (2, Tr34.of (0, 0, 0, ([] : List Tr34)), p1, p2, ([] : List Tr37)), Tr37.of (2, Tr34.of (0, 0, 0, ([] : List Tr34)), p1, p3, ([] : List Tr37))] : List Tr37)))).bind fun x16 => (FO (Tr27.of (x16.un.1, Tr24.of (x16.un.2.1.un.1, x16.un.2.1.un.2.1, x16.un.2.1.un.2.2.1, x16.un.2.1.un.2.2.2), x16.un.2.2.1, x16.un.2.2.2.1, x16.un.2.2.2.2))).bind fun x17 => (if (!x17) = true then (GZ).bind fun x18 => some (x18, ([Tr37.of (2, Tr34.of (0, 0, 0, ([] : List Tr34)), p1, p2, ([] : List Tr37)), Tr37.of (2, Tr34.of (0, 0, 0, ([] : List Tr34)), p1, p3, ([] : List Tr37))] : List Tr37)) else (Ct (Tr37.of (3, Tr34.of (0, 0, 0, ([] : List Tr34)), 0, 0, ([Tr37.of (2, Tr34.of (0, 0, 0, ([] : List Tr34)), p1, p2, ([] : List Tr37)), Tr37.of (2, Tr34.of (0, 0, 0, ([] : List Tr34)), p1, p3, ([] : List Tr37))] : List Tr37))) p4 p5 p6).bind fun x19 => (Ct (Tr37.of (2, Tr34.of (0, 0, 0, ([] : List Tr34)), p1, p3, ([] : List Tr37))) p4 p5 p6).bind fun x20 => (IP x19 x20).bind fun x21 => (if x21 = true then (GZ).bind fun x22 => some (x22, ([Tr37.of (2, Tr34.of (0, 0, 0, ([] : List Tr34)), p1, p2, ([] : List Tr37)), Tr37.of (2, Tr34.of (0, 0, 0, ([] : List Tr34)), p1, p3, ([] : List Tr37))] : List Tr37)) else some (false, ([Tr37.of (2, Tr34.of (0, 0, 0, ([] : List Tr34)), p1, p2, ([] : List Tr37)), Tr37.of (2, Tr34.of (0, 0, 0, ([] : List Tr34)), p1, p3, ([] : List Tr37))] : List Tr37))))).bind fun (x14, x15) => some x14)
theorem LF (Y : Nat → Prop) (w0 : World) (v1 : Value) (v2 : Value) (p0 : Tr27) (p1 : Int) (p2 : Int) (p3 : Int) (p4 : Int) (p5 : Int) (p6 : Int × Int × Int × Int) (r : Bool) (H : Ga p0 p1 p2 p3 p4 p5 p6 = some r) (h_v1 : Sl w0 (NX []) DO v1 p0.un.2.1.un.2.2.2) (h_v2 : Sl w0 (NX []) GN v2 p0.un.2.2.2.2) (hG : Gk [] w0) :
    Calls Tryz.prog 5 #[.agg #[.int .i64 p0.un.1, .int .i64 p0.un.2.1.un.1, .int .i64 p0.un.2.1.un.2.1, .int .i64 p0.un.2.1.un.2.2.1, v1, .int .i64 p0.un.2.2.1, .int .i64 p0.un.2.2.2.1, v2], .int .i64 p1, .int .i64 p2, .int .i64 p3, .int .i64 p4, .int .i64 p5, .agg #[.int .i64 p6.1, .int .i64 p6.2.1, .int .i64 p6.2.2.1, .int .i64 p6.2.2.2]] w0 fun e w' => e = .returned (.bool r) ∧ Below w0.heap.size w0 w' := by
 refine enter Tryz.func5 Aa Tryz.ntmps5 Aa fun a W => ?_
 have F := Stw.start Y w0
 obtain ⟨v3, h1, h_v1⟩ := h_v1.ex EJ
 obtain ⟨v4, h2, h_v2⟩ := h_v2.ex Is
 unfold Ga at H
 refine vc tk 2 W F fun a w W F => ?_
 refine CY (cs := (Fv p0 v1 v2)) W F Aa Aa Aa fun b1 a w W F => ?_
 refine CY (cs := (F8 p6)) W F Aa Aa Aa fun b2 a w W F => ?_
 refine FC tk 7 [1] W F (ai fun a w W F => ?_)
 obtain ⟨x1, h3, H⟩ := Ad H
 refine ls W F Aa (AK (v := Value.bool x1) W Xr Aa (fun w F => J8 any w (v1) (v2) (Tr27.of (p0.un.1, Tr24.of (p0.un.2.1.un.1, p0.un.2.1.un.2.1, p0.un.2.1.un.2.2.1, p0.un.2.1.un.2.2.2), p0.un.2.2.1, p0.un.2.2.2.1, p0.un.2.2.2.2)) _ h3 (Ek (Aq EJ h1 (Af h_v1)) F) (Ek (Aq Is h2 (Af h_v2)) F))) fun a w W F => ?_
 refine Cl tk 3 W F fun a w W F => ?_
 refine Cz W Aa H (fun W H => ?_) fun W H => ?_
 ·
  refine vc tk 2 W F fun a w W F => ?_
  obtain ⟨x2, h4, H⟩ := Ad H
  refine ls W F Aa (AK (v := Value.bool x2) W H7 Aa (fun w F => JI any w _ h4 (hG.go0 F))) fun a w W F => ?_
  refine Cl tk 3 W F fun a w W F => ?_
  refine Ak (Ay ?_)
  have H := AA H
  subst H
  refine Au (.inl Aa) W F Aa (Am W Aa) ?_
  exact ⟨rfl, F.done⟩
 refine P6 tk 5 [1] W F (ai fun a w W F => ?_)
 obtain ⟨x3, h5, H⟩ := Ad H
 refine Bv (Ml := []) (Zl := []) (β := Value × Value) (rv := fun x => .agg #[.int .i64 x3.un.1, .int .i64 x3.un.2.1.un.1, .int .i64 x3.un.2.1.un.2.1, .int .i64 x3.un.2.1.un.2.2.1, x.1, .int .i64 x3.un.2.2.1, .int .i64 x3.un.2.2.2.1, x.2]) (MM := fun x => []) (ZZ := fun x => [row x.1 34 CC x3.un.2.1.un.2.2.2, row x.2 37 De x3.un.2.2.2.2]) W F H8 Aa Aa (fun hL => RF _ w (v1) (v2) (Tr27.of (p0.un.1, Tr24.of (p0.un.2.1.un.1, p0.un.2.1.un.2.1, p0.un.2.1.un.2.2.1, p0.un.2.1.un.2.2.2), p0.un.2.2.1, p0.un.2.2.2.1, p0.un.2.2.2.2)) _ h5 ((Aq EJ h1 (Af h_v1)) w F).nx ((Aq Is h2 (Af h_v2)) w F).nx) fun x a w W F => ?_
 obtain ⟨v5, v6⟩ := x
 have F : Stw ⟨Y, [], w0⟩ (Ww b2 p6 b1 p0 v1 v2) [row v5 34 CC x3.un.2.1.un.2.2.2, row v6 37 De x3.un.2.2.2.2] w := F
 refine B9 (cs := (F6)) W F Aa Mc Aa fun b3 a w W F => ?_
 refine Ed 0 W F Aa Aa Aa II Aa Aa (Ae Aa (Ae Aa (Ae Aa (Ae Aa (Ae (F.one (k := 0) Aa) (Ae Aa (Ae Aa (Ae (F.one (k := 1) Aa) Df)))))))) fun w F => ?_
 refine Cl tk 4 W F fun a w W F => ?_
 refine ls W F Aa (CB (v := Value.agg #[.int .i64 1, .int .i64 0, .int .i64 0, .slice none 0 0]) WY W Aa Aa Aa).q fun a w W F => ?_
 refine ls W F Aa (CB (v := Value.agg #[.int .i64 1, .int .i64 1, .int .i64 0, .int .i64 0, .slice none 0 0, .int .i64 0, .int .i64 0, .slice none 0 0]) Q8 W Aa Aa Aa).q fun a w W F => ?_
 refine ls W F Aa (CB (v := Value.agg #[.int .i64 2, .int .i64 0, .int .i64 0, .slice none 0 0]) WY W Aa Aa Aa).q fun a w W F => ?_
 refine ls W F Aa (CB (v := Value.agg #[.int .i64 1, .int .i64 2, .int .i64 0, .int .i64 0, .slice none 0 0, .int .i64 0, .int .i64 0, .slice none 0 0]) Q8 W Aa Aa Aa).q fun a w W F => ?_
 refine B9 (cs := (F6)) W F Aa Mc Aa fun b4 a w W F => ?_
 refine B9 (cs := (F6)) W F Aa Mc Aa fun b5 a w W F => ?_
 refine Ed 1 W F Aa Aa Aa II Aa Aa Aa fun w F => ?_
 refine Ed 0 W F Aa Aa Aa II Aa Aa Aa fun w F => ?_
 refine FC tk 8 [2, 3] W F (ai (ai fun a w W F => ?_))
 obtain ⟨x4, h6, H⟩ := Ad H
 have F := F.frontZ (i := 1) Aa Aa
 have F := F.freeze
 refine Bv (Ml := []) (Zl := []) (β := Value) (rv := fun x => x) (MM := fun x => []) (ZZ := fun x => [row x 63 Bg x4]) W F Wk Aa Aa (fun hL => GH _ w (v5) (v6) (Tr37.of (x3.un.1, Tr34.of (x3.un.2.1.un.1, x3.un.2.1.un.2.1, x3.un.2.1.un.2.2.1, x3.un.2.1.un.2.2.2), x3.un.2.2.1, x3.un.2.2.2.1, x3.un.2.2.2.2)) p4 p5 p6 _ h6 ((Aj 1 Aa) w F).nx (F.item (i := 0) Aa)) fun x a w W F => ?_
 obtain ⟨v7, rfl⟩ : ∃ y, y = x := ⟨x, rfl⟩
 have F : Stw ⟨Y, [], w0⟩ [(b5, (GE)), (b4, (GI)), (b3, (CX x3 v5 v6)), (b2, (F8 p6)), (b1, (Fv p0 v1 v2))] [row v7 63 Bg x4, Ef v6 De x3.un.2.2.2.2, row v5 34 CC x3.un.2.1.un.2.2.2] w := F
 refine FC tk 7 [1, 2] W F (ai (ai fun a w W F => ?_))
 have F := F.frontZ (i := 2) Aa Aa
 have F := F.freeze
 refine Ht (z := Value.agg #[.int .i64 0, .int .i64 0, .int .i64 0, .int .i64 0, .slice none 0 0, .int .i64 0, .int .i64 0, .slice none 0 0]) (cs := [.int .i64 1, .int .i64 1, .int .i64 0, .int .i64 0, .slice none 0 0, .int .i64 0, .int .i64 0, .slice none 0 0, .int .i64 x3.un.1, .int .i64 x3.un.2.1.un.1, .int .i64 x3.un.2.1.un.2.1, .int .i64 x3.un.2.1.un.2.2.1, v5, .int .i64 x3.un.2.2.1, .int .i64 x3.un.2.2.2.1, v6]) De ([Tr37.of (1, Tr34.of (1, 0, 0, ([] : List Tr34)), 0, 0, ([] : List Tr37)), Tr37.of (x3.un.1, Tr34.of (x3.un.2.1.un.1, x3.un.2.1.un.2.1, x3.un.2.1.un.2.2.1, x3.un.2.1.un.2.2.2), x3.un.2.2.1, x3.un.2.2.2.1, x3.un.2.2.2.2)] : List Tr37) W F Aa O0 Mc Aa Aa Aa (A8 Aa Aa Aa (A8 Aa Aa Aa C5)) Aa Aa ⟨[Value.int .i64 1, Value.int .i64 1, Value.int .i64 0, Value.int .i64 0, Value.slice none 0 0, Value.int .i64 0, Value.int .i64 0, Value.slice none 0 0], _, Aa, (IZ.2 ⟨[Value.int .i64 1], [Value.int .i64 1, Value.int .i64 0, Value.int .i64 0, Value.slice none 0 0, Value.int .i64 0, Value.int .i64 0, Value.slice none 0 0], Aa, Aa, ⟨[Value.int .i64 1, Value.int .i64 0, Value.int .i64 0, Value.slice none 0 0], [Value.int .i64 0, Value.int .i64 0, Value.slice none 0 0], Aa, (IF.2 ⟨[Value.int .i64 1], [Value.int .i64 0, Value.int .i64 0, Value.slice none 0 0], Aa, Aa, ⟨[Value.int .i64 0], [Value.int .i64 0, Value.slice none 0 0], Aa, Aa, ⟨[Value.int .i64 0], [Value.slice none 0 0], Aa, Aa, ⟨_, Aa, (Sl.nil (r := CC))⟩⟩⟩⟩), ⟨[Value.int .i64 0], [Value.int .i64 0, Value.slice none 0 0], Aa, Aa, ⟨[Value.int .i64 0], [Value.slice none 0 0], Aa, Aa, ⟨_, Aa, (Sl.nil (r := De))⟩⟩⟩⟩⟩), ⟨[Value.int .i64 x3.un.1, Value.int .i64 x3.un.2.1.un.1, Value.int .i64 x3.un.2.1.un.2.1, Value.int .i64 x3.un.2.1.un.2.2.1, v5, Value.int .i64 x3.un.2.2.1, Value.int .i64 x3.un.2.2.2.1, v6], _, Aa, (IZ.2 ⟨[Value.int .i64 x3.un.1], [Value.int .i64 x3.un.2.1.un.1, Value.int .i64 x3.un.2.1.un.2.1, Value.int .i64 x3.un.2.1.un.2.2.1, v5, Value.int .i64 x3.un.2.2.1, Value.int .i64 x3.un.2.2.2.1, v6], Aa, Aa, ⟨[Value.int .i64 x3.un.2.1.un.1, Value.int .i64 x3.un.2.1.un.2.1, Value.int .i64 x3.un.2.1.un.2.2.1, v5], [Value.int .i64 x3.un.2.2.1, Value.int .i64 x3.un.2.2.2.1, v6], Aa, (IF.2 ⟨[Value.int .i64 x3.un.2.1.un.1], [Value.int .i64 x3.un.2.1.un.2.1, Value.int .i64 x3.un.2.1.un.2.2.1, v5], Aa, Aa, ⟨[Value.int .i64 x3.un.2.1.un.2.1], [Value.int .i64 x3.un.2.1.un.2.2.1, v5], Aa, Aa, ⟨[Value.int .i64 x3.un.2.1.un.2.2.1], [v5], Aa, Aa, ⟨_, Aa, (F.item (i := 0) Aa)⟩⟩⟩⟩), ⟨[Value.int .i64 x3.un.2.2.1], [Value.int .i64 x3.un.2.2.2.1, v6], Aa, Aa, ⟨[Value.int .i64 x3.un.2.2.2.1], [v6], Aa, Aa, ⟨_, Aa, (F.item (i := 2) Aa)⟩⟩⟩⟩⟩), Aa⟩⟩ fun v8 a w W F => ?_
 refine ls W F Aa (CB (v := Value.agg #[.int .i64 3, .int .i64 0, .int .i64 0, .int .i64 0, .slice none 0 0, .int .i64 0, .int .i64 0, v8]) Q8 W Aa (A8 Aa Aa Aa (A8 Aa (Gr (F.one (k := 0) Aa)) Aa C5)) Aa).q fun a w W F => ?_
 refine GD tk 2 [2, 1] W F (ai (ai fun a w W F => ?_))
 refine Ht (z := Value.agg #[.int .i64 0, .int .i64 0, .int .i64 0, .int .i64 0, .slice none 0 0, .int .i64 0, .int .i64 0, .slice none 0 0]) (cs := [.int .i64 x3.un.1, .int .i64 x3.un.2.1.un.1, .int .i64 x3.un.2.1.un.2.1, .int .i64 x3.un.2.1.un.2.2.1, v5, .int .i64 x3.un.2.2.1, .int .i64 x3.un.2.2.2.1, v6, .int .i64 1, .int .i64 1, .int .i64 0, .int .i64 0, .slice none 0 0, .int .i64 0, .int .i64 0, .slice none 0 0]) De ([Tr37.of (x3.un.1, Tr34.of (x3.un.2.1.un.1, x3.un.2.1.un.2.1, x3.un.2.1.un.2.2.1, x3.un.2.1.un.2.2.2), x3.un.2.2.1, x3.un.2.2.2.1, x3.un.2.2.2.2), Tr37.of (1, Tr34.of (1, 0, 0, ([] : List Tr34)), 0, 0, ([] : List Tr37))] : List Tr37) W F Aa O0 Mc Aa Aa Aa (A8 Aa Aa Aa (A8 Aa Aa Aa C5)) Aa Aa ⟨[Value.int .i64 x3.un.1, Value.int .i64 x3.un.2.1.un.1, Value.int .i64 x3.un.2.1.un.2.1, Value.int .i64 x3.un.2.1.un.2.2.1, v5, Value.int .i64 x3.un.2.2.1, Value.int .i64 x3.un.2.2.2.1, v6], _, Aa, (IZ.2 ⟨[Value.int .i64 x3.un.1], [Value.int .i64 x3.un.2.1.un.1, Value.int .i64 x3.un.2.1.un.2.1, Value.int .i64 x3.un.2.1.un.2.2.1, v5, Value.int .i64 x3.un.2.2.1, Value.int .i64 x3.un.2.2.2.1, v6], Aa, Aa, ⟨[Value.int .i64 x3.un.2.1.un.1, Value.int .i64 x3.un.2.1.un.2.1, Value.int .i64 x3.un.2.1.un.2.2.1, v5], [Value.int .i64 x3.un.2.2.1, Value.int .i64 x3.un.2.2.2.1, v6], Aa, (IF.2 ⟨[Value.int .i64 x3.un.2.1.un.1], [Value.int .i64 x3.un.2.1.un.2.1, Value.int .i64 x3.un.2.1.un.2.2.1, v5], Aa, Aa, ⟨[Value.int .i64 x3.un.2.1.un.2.1], [Value.int .i64 x3.un.2.1.un.2.2.1, v5], Aa, Aa, ⟨[Value.int .i64 x3.un.2.1.un.2.2.1], [v5], Aa, Aa, ⟨_, Aa, (F.item (i := 1) Aa)⟩⟩⟩⟩), ⟨[Value.int .i64 x3.un.2.2.1], [Value.int .i64 x3.un.2.2.2.1, v6], Aa, Aa, ⟨[Value.int .i64 x3.un.2.2.2.1], [v6], Aa, Aa, ⟨_, Aa, (F.item (i := 3) Aa)⟩⟩⟩⟩⟩), ⟨[Value.int .i64 1, Value.int .i64 1, Value.int .i64 0, Value.int .i64 0, Value.slice none 0 0, Value.int .i64 0, Value.int .i64 0, Value.slice none 0 0], _, Aa, (IZ.2 ⟨[Value.int .i64 1], [Value.int .i64 1, Value.int .i64 0, Value.int .i64 0, Value.slice none 0 0, Value.int .i64 0, Value.int .i64 0, Value.slice none 0 0], Aa, Aa, ⟨[Value.int .i64 1, Value.int .i64 0, Value.int .i64 0, Value.slice none 0 0], [Value.int .i64 0, Value.int .i64 0, Value.slice none 0 0], Aa, (IF.2 ⟨[Value.int .i64 1], [Value.int .i64 0, Value.int .i64 0, Value.slice none 0 0], Aa, Aa, ⟨[Value.int .i64 0], [Value.int .i64 0, Value.slice none 0 0], Aa, Aa, ⟨[Value.int .i64 0], [Value.slice none 0 0], Aa, Aa, ⟨_, Aa, (Sl.nil (r := CC))⟩⟩⟩⟩), ⟨[Value.int .i64 0], [Value.int .i64 0, Value.slice none 0 0], Aa, Aa, ⟨[Value.int .i64 0], [Value.slice none 0 0], Aa, Aa, ⟨_, Aa, (Sl.nil (r := De))⟩⟩⟩⟩⟩), Aa⟩⟩ fun v9 a w W F => ?_
 refine ls W F Aa (CB (v := Value.agg #[.int .i64 3, .int .i64 0, .int .i64 0, .int .i64 0, .slice none 0 0, .int .i64 0, .int .i64 0, v9]) Q8 W Aa (A8 Aa Aa Aa (A8 Aa (Gr (F.one (k := 0) Aa)) Aa C5)) Aa).q fun a w W F => ?_
 refine GD tk 2 [0, 2] W F (ai (ai fun a w W F => ?_))
 refine Ht (z := Value.agg #[.int .i64 0, .int .i64 0, .int .i64 0, .int .i64 0, .slice none 0 0, .int .i64 0, .int .i64 0, .slice none 0 0]) (cs := (US x3 v5 v6)) De ([Tr37.of (1, Tr34.of (2, 0, 0, ([] : List Tr34)), 0, 0, ([] : List Tr37)), Tr37.of (x3.un.1, Tr34.of (x3.un.2.1.un.1, x3.un.2.1.un.2.1, x3.un.2.1.un.2.2.1, x3.un.2.1.un.2.2.2), x3.un.2.2.1, x3.un.2.2.2.1, x3.un.2.2.2.2)] : List Tr37) W F Aa O0 Mc Aa Aa Aa (A8 Aa Aa Aa (A8 Aa Aa Aa C5)) Aa Aa ⟨[Value.int .i64 1, Value.int .i64 2, Value.int .i64 0, Value.int .i64 0, Value.slice none 0 0, Value.int .i64 0, Value.int .i64 0, Value.slice none 0 0], _, Aa, (IZ.2 ⟨[Value.int .i64 1], [Value.int .i64 2, Value.int .i64 0, Value.int .i64 0, Value.slice none 0 0, Value.int .i64 0, Value.int .i64 0, Value.slice none 0 0], Aa, Aa, ⟨[Value.int .i64 2, Value.int .i64 0, Value.int .i64 0, Value.slice none 0 0], [Value.int .i64 0, Value.int .i64 0, Value.slice none 0 0], Aa, (IF.2 ⟨[Value.int .i64 2], [Value.int .i64 0, Value.int .i64 0, Value.slice none 0 0], Aa, Aa, ⟨[Value.int .i64 0], [Value.int .i64 0, Value.slice none 0 0], Aa, Aa, ⟨[Value.int .i64 0], [Value.slice none 0 0], Aa, Aa, ⟨_, Aa, (Sl.nil (r := CC))⟩⟩⟩⟩), ⟨[Value.int .i64 0], [Value.int .i64 0, Value.slice none 0 0], Aa, Aa, ⟨[Value.int .i64 0], [Value.slice none 0 0], Aa, Aa, ⟨_, Aa, (Sl.nil (r := De))⟩⟩⟩⟩⟩), ⟨[Value.int .i64 x3.un.1, Value.int .i64 x3.un.2.1.un.1, Value.int .i64 x3.un.2.1.un.2.1, Value.int .i64 x3.un.2.1.un.2.2.1, v5, Value.int .i64 x3.un.2.2.1, Value.int .i64 x3.un.2.2.2.1, v6], _, Aa, (IZ.2 ⟨[Value.int .i64 x3.un.1], [Value.int .i64 x3.un.2.1.un.1, Value.int .i64 x3.un.2.1.un.2.1, Value.int .i64 x3.un.2.1.un.2.2.1, v5, Value.int .i64 x3.un.2.2.1, Value.int .i64 x3.un.2.2.2.1, v6], Aa, Aa, ⟨[Value.int .i64 x3.un.2.1.un.1, Value.int .i64 x3.un.2.1.un.2.1, Value.int .i64 x3.un.2.1.un.2.2.1, v5], [Value.int .i64 x3.un.2.2.1, Value.int .i64 x3.un.2.2.2.1, v6], Aa, (IF.2 ⟨[Value.int .i64 x3.un.2.1.un.1], [Value.int .i64 x3.un.2.1.un.2.1, Value.int .i64 x3.un.2.1.un.2.2.1, v5], Aa, Aa, ⟨[Value.int .i64 x3.un.2.1.un.2.1], [Value.int .i64 x3.un.2.1.un.2.2.1, v5], Aa, Aa, ⟨[Value.int .i64 x3.un.2.1.un.2.2.1], [v5], Aa, Aa, ⟨_, Aa, (F.item (i := 2) Aa)⟩⟩⟩⟩), ⟨[Value.int .i64 x3.un.2.2.1], [Value.int .i64 x3.un.2.2.2.1, v6], Aa, Aa, ⟨[Value.int .i64 x3.un.2.2.2.1], [v6], Aa, Aa, ⟨_, Aa, (F.item (i := 4) Aa)⟩⟩⟩⟩⟩), Aa⟩⟩ fun v10 a w W F => ?_
 refine ls W F Aa (CB (v := Value.agg #[.int .i64 4, .int .i64 0, .int .i64 0, .int .i64 0, .slice none 0 0, .int .i64 0, .int .i64 0, v10]) Q8 W Aa (A8 Aa Aa Aa (A8 Aa (Gr (F.one (k := 0) Aa)) Aa C5)) Aa).q fun a w W F => ?_
 refine GD tk 2 [0, 2] W F (ai (ai fun a w W F => ?_))
 refine Ht (z := Value.agg #[.int .i64 0, .int .i64 0, .int .i64 0, .int .i64 0, .slice none 0 0, .int .i64 0, .int .i64 0, .slice none 0 0]) (cs := (US x3 v5 v6)) De ([Tr37.of (1, Tr34.of (2, 0, 0, ([] : List Tr34)), 0, 0, ([] : List Tr37)), Tr37.of (x3.un.1, Tr34.of (x3.un.2.1.un.1, x3.un.2.1.un.2.1, x3.un.2.1.un.2.2.1, x3.un.2.1.un.2.2.2), x3.un.2.2.1, x3.un.2.2.2.1, x3.un.2.2.2.2)] : List Tr37) W F Aa O0 Mc Aa Aa Aa (A8 Aa Aa Aa (A8 Aa Aa Aa C5)) Aa Aa ⟨[Value.int .i64 1, Value.int .i64 2, Value.int .i64 0, Value.int .i64 0, Value.slice none 0 0, Value.int .i64 0, Value.int .i64 0, Value.slice none 0 0], _, Aa, (IZ.2 ⟨[Value.int .i64 1], [Value.int .i64 2, Value.int .i64 0, Value.int .i64 0, Value.slice none 0 0, Value.int .i64 0, Value.int .i64 0, Value.slice none 0 0], Aa, Aa, ⟨[Value.int .i64 2, Value.int .i64 0, Value.int .i64 0, Value.slice none 0 0], [Value.int .i64 0, Value.int .i64 0, Value.slice none 0 0], Aa, (IF.2 ⟨[Value.int .i64 2], [Value.int .i64 0, Value.int .i64 0, Value.slice none 0 0], Aa, Aa, ⟨[Value.int .i64 0], [Value.int .i64 0, Value.slice none 0 0], Aa, Aa, ⟨[Value.int .i64 0], [Value.slice none 0 0], Aa, Aa, ⟨_, Aa, (Sl.nil (r := CC))⟩⟩⟩⟩), ⟨[Value.int .i64 0], [Value.int .i64 0, Value.slice none 0 0], Aa, Aa, ⟨[Value.int .i64 0], [Value.slice none 0 0], Aa, Aa, ⟨_, Aa, (Sl.nil (r := De))⟩⟩⟩⟩⟩), ⟨[Value.int .i64 x3.un.1, Value.int .i64 x3.un.2.1.un.1, Value.int .i64 x3.un.2.1.un.2.1, Value.int .i64 x3.un.2.1.un.2.2.1, v5, Value.int .i64 x3.un.2.2.1, Value.int .i64 x3.un.2.2.2.1, v6], _, Aa, (IZ.2 ⟨[Value.int .i64 x3.un.1], [Value.int .i64 x3.un.2.1.un.1, Value.int .i64 x3.un.2.1.un.2.1, Value.int .i64 x3.un.2.1.un.2.2.1, v5, Value.int .i64 x3.un.2.2.1, Value.int .i64 x3.un.2.2.2.1, v6], Aa, Aa, ⟨[Value.int .i64 x3.un.2.1.un.1, Value.int .i64 x3.un.2.1.un.2.1, Value.int .i64 x3.un.2.1.un.2.2.1, v5], [Value.int .i64 x3.un.2.2.1, Value.int .i64 x3.un.2.2.2.1, v6], Aa, (IF.2 ⟨[Value.int .i64 x3.un.2.1.un.1], [Value.int .i64 x3.un.2.1.un.2.1, Value.int .i64 x3.un.2.1.un.2.2.1, v5], Aa, Aa, ⟨[Value.int .i64 x3.un.2.1.un.2.1], [Value.int .i64 x3.un.2.1.un.2.2.1, v5], Aa, Aa, ⟨[Value.int .i64 x3.un.2.1.un.2.2.1], [v5], Aa, Aa, ⟨_, Aa, (F.item (i := 3) Aa)⟩⟩⟩⟩), ⟨[Value.int .i64 x3.un.2.2.1], [Value.int .i64 x3.un.2.2.2.1, v6], Aa, Aa, ⟨[Value.int .i64 x3.un.2.2.2.1], [v6], Aa, Aa, ⟨_, Aa, (F.item (i := 5) Aa)⟩⟩⟩⟩⟩), Aa⟩⟩ fun v11 a w W F => ?_
 refine ls W F Aa (CB (v := Value.agg #[.int .i64 3, .int .i64 0, .int .i64 0, .int .i64 0, .slice none 0 0, .int .i64 0, .int .i64 0, v11]) Q8 W Aa (A8 Aa Aa Aa (A8 Aa (Gr (F.one (k := 0) Aa)) Aa C5)) Aa).q fun a w W F => ?_
 refine GD tk 2 [2, 0] W F (ai (ai fun a w W F => ?_))
 refine Ht (z := Value.agg #[.int .i64 0, .int .i64 0, .int .i64 0, .int .i64 0, .slice none 0 0, .int .i64 0, .int .i64 0, .slice none 0 0]) (cs := [.int .i64 x3.un.1, .int .i64 x3.un.2.1.un.1, .int .i64 x3.un.2.1.un.2.1, .int .i64 x3.un.2.1.un.2.2.1, v5, .int .i64 x3.un.2.2.1, .int .i64 x3.un.2.2.2.1, v6, .int .i64 1, .int .i64 2, .int .i64 0, .int .i64 0, .slice none 0 0, .int .i64 0, .int .i64 0, .slice none 0 0]) De ([Tr37.of (x3.un.1, Tr34.of (x3.un.2.1.un.1, x3.un.2.1.un.2.1, x3.un.2.1.un.2.2.1, x3.un.2.1.un.2.2.2), x3.un.2.2.1, x3.un.2.2.2.1, x3.un.2.2.2.2), Tr37.of (1, Tr34.of (2, 0, 0, ([] : List Tr34)), 0, 0, ([] : List Tr37))] : List Tr37) W F Aa O0 Mc Aa Aa Aa (A8 Aa Aa Aa (A8 Aa Aa Aa C5)) Aa Aa ⟨[Value.int .i64 x3.un.1, Value.int .i64 x3.un.2.1.un.1, Value.int .i64 x3.un.2.1.un.2.1, Value.int .i64 x3.un.2.1.un.2.2.1, v5, Value.int .i64 x3.un.2.2.1, Value.int .i64 x3.un.2.2.2.1, v6], _, Aa, (IZ.2 ⟨[Value.int .i64 x3.un.1], [Value.int .i64 x3.un.2.1.un.1, Value.int .i64 x3.un.2.1.un.2.1, Value.int .i64 x3.un.2.1.un.2.2.1, v5, Value.int .i64 x3.un.2.2.1, Value.int .i64 x3.un.2.2.2.1, v6], Aa, Aa, ⟨[Value.int .i64 x3.un.2.1.un.1, Value.int .i64 x3.un.2.1.un.2.1, Value.int .i64 x3.un.2.1.un.2.2.1, v5], [Value.int .i64 x3.un.2.2.1, Value.int .i64 x3.un.2.2.2.1, v6], Aa, (IF.2 ⟨[Value.int .i64 x3.un.2.1.un.1], [Value.int .i64 x3.un.2.1.un.2.1, Value.int .i64 x3.un.2.1.un.2.2.1, v5], Aa, Aa, ⟨[Value.int .i64 x3.un.2.1.un.2.1], [Value.int .i64 x3.un.2.1.un.2.2.1, v5], Aa, Aa, ⟨[Value.int .i64 x3.un.2.1.un.2.2.1], [v5], Aa, Aa, ⟨_, Aa, (F.item (i := 4) Aa)⟩⟩⟩⟩), ⟨[Value.int .i64 x3.un.2.2.1], [Value.int .i64 x3.un.2.2.2.1, v6], Aa, Aa, ⟨[Value.int .i64 x3.un.2.2.2.1], [v6], Aa, Aa, ⟨_, Aa, (F.item (i := 6) Aa)⟩⟩⟩⟩⟩), ⟨[Value.int .i64 1, Value.int .i64 2, Value.int .i64 0, Value.int .i64 0, Value.slice none 0 0, Value.int .i64 0, Value.int .i64 0, Value.slice none 0 0], _, Aa, (IZ.2 ⟨[Value.int .i64 1], [Value.int .i64 2, Value.int .i64 0, Value.int .i64 0, Value.slice none 0 0, Value.int .i64 0, Value.int .i64 0, Value.slice none 0 0], Aa, Aa, ⟨[Value.int .i64 2, Value.int .i64 0, Value.int .i64 0, Value.slice none 0 0], [Value.int .i64 0, Value.int .i64 0, Value.slice none 0 0], Aa, (IF.2 ⟨[Value.int .i64 2], [Value.int .i64 0, Value.int .i64 0, Value.slice none 0 0], Aa, Aa, ⟨[Value.int .i64 0], [Value.int .i64 0, Value.slice none 0 0], Aa, Aa, ⟨[Value.int .i64 0], [Value.slice none 0 0], Aa, Aa, ⟨_, Aa, (Sl.nil (r := CC))⟩⟩⟩⟩), ⟨[Value.int .i64 0], [Value.int .i64 0, Value.slice none 0 0], Aa, Aa, ⟨[Value.int .i64 0], [Value.slice none 0 0], Aa, Aa, ⟨_, Aa, (Sl.nil (r := De))⟩⟩⟩⟩⟩), Aa⟩⟩ fun v12 a w W F => ?_
 refine ls W F Aa (CB (v := Value.agg #[.int .i64 3, .int .i64 0, .int .i64 0, .int .i64 0, .slice none 0 0, .int .i64 0, .int .i64 0, v12]) Q8 W Aa (A8 Aa Aa Aa (A8 Aa (Gr (F.one (k := 0) Aa)) Aa C5)) Aa).q fun a w W F => ?_
 have F := F.frontZ (i := 4) Aa Aa
 have F := F.freeze
 have F := F.frontZ (i := 4) Aa Aa
 have F := F.freeze
 have F := F.frontZ (i := 4) Aa Aa
 have F := F.freeze
 have F := F.frontZ (i := 4) Aa Aa
 have F := F.freeze
 have F := F.frontZ (i := 4) Aa Aa
 have F := F.freeze
 refine Ht (z := Value.agg #[.int .i64 0, .int .i64 0, .int .i64 0, .int .i64 0, .slice none 0 0, .int .i64 0, .int .i64 0, .slice none 0 0]) (cs := [.int .i64 3, .int .i64 0, .int .i64 0, .int .i64 0, .slice none 0 0, .int .i64 0, .int .i64 0, v8, .int .i64 3, .int .i64 0, .int .i64 0, .int .i64 0, .slice none 0 0, .int .i64 0, .int .i64 0, v9, .int .i64 4, .int .i64 0, .int .i64 0, .int .i64 0, .slice none 0 0, .int .i64 0, .int .i64 0, v10, .int .i64 3, .int .i64 0, .int .i64 0, .int .i64 0, .slice none 0 0, .int .i64 0, .int .i64 0, v11, .int .i64 3, .int .i64 0, .int .i64 0, .int .i64 0, .slice none 0 0, .int .i64 0, .int .i64 0, v12]) De ([Tr37.of (3, Tr34.of (0, 0, 0, ([] : List Tr34)), 0, 0, ([Tr37.of (1, Tr34.of (1, 0, 0, ([] : List Tr34)), 0, 0, ([] : List Tr37)), Tr37.of (x3.un.1, Tr34.of (x3.un.2.1.un.1, x3.un.2.1.un.2.1, x3.un.2.1.un.2.2.1, x3.un.2.1.un.2.2.2), x3.un.2.2.1, x3.un.2.2.2.1, x3.un.2.2.2.2)] : List Tr37)), Tr37.of (3, Tr34.of (0, 0, 0, ([] : List Tr34)), 0, 0, ([Tr37.of (x3.un.1, Tr34.of (x3.un.2.1.un.1, x3.un.2.1.un.2.1, x3.un.2.1.un.2.2.1, x3.un.2.1.un.2.2.2), x3.un.2.2.1, x3.un.2.2.2.1, x3.un.2.2.2.2), Tr37.of (1, Tr34.of (1, 0, 0, ([] : List Tr34)), 0, 0, ([] : List Tr37))] : List Tr37)), Tr37.of (4, Tr34.of (0, 0, 0, ([] : List Tr34)), 0, 0, ([Tr37.of (1, Tr34.of (2, 0, 0, ([] : List Tr34)), 0, 0, ([] : List Tr37)), Tr37.of (x3.un.1, Tr34.of (x3.un.2.1.un.1, x3.un.2.1.un.2.1, x3.un.2.1.un.2.2.1, x3.un.2.1.un.2.2.2), x3.un.2.2.1, x3.un.2.2.2.1, x3.un.2.2.2.2)] : List Tr37)), Tr37.of (3, Tr34.of (0, 0, 0, ([] : List Tr34)), 0, 0, ([Tr37.of (1, Tr34.of (2, 0, 0, ([] : List Tr34)), 0, 0, ([] : List Tr37)), Tr37.of (x3.un.1, Tr34.of (x3.un.2.1.un.1, x3.un.2.1.un.2.1, x3.un.2.1.un.2.2.1, x3.un.2.1.un.2.2.2), x3.un.2.2.1, x3.un.2.2.2.1, x3.un.2.2.2.2)] : List Tr37)), Tr37.of (3, Tr34.of (0, 0, 0, ([] : List Tr34)), 0, 0, ([Tr37.of (x3.un.1, Tr34.of (x3.un.2.1.un.1, x3.un.2.1.un.2.1, x3.un.2.1.un.2.2.1, x3.un.2.1.un.2.2.2), x3.un.2.2.1, x3.un.2.2.2.1, x3.un.2.2.2.2), Tr37.of (1, Tr34.of (2, 0, 0, ([] : List Tr34)), 0, 0, ([] : List Tr37))] : List Tr37))] : List Tr37) W F Aa O0 Mc Aa Aa Aa (by kernel_rfl) Aa Aa ⟨[Value.int .i64 3, Value.int .i64 0, Value.int .i64 0, Value.int .i64 0, Value.slice none 0 0, Value.int .i64 0, Value.int .i64 0, v8], _, Aa, (IZ.2 ⟨[Value.int .i64 3], [Value.int .i64 0, Value.int .i64 0, Value.int .i64 0, Value.slice none 0 0, Value.int .i64 0, Value.int .i64 0, v8], Aa, Aa, ⟨[Value.int .i64 0, Value.int .i64 0, Value.int .i64 0, Value.slice none 0 0], [Value.int .i64 0, Value.int .i64 0, v8], Aa, (IF.2 ⟨[Value.int .i64 0], [Value.int .i64 0, Value.int .i64 0, Value.slice none 0 0], Aa, Aa, ⟨[Value.int .i64 0], [Value.int .i64 0, Value.slice none 0 0], Aa, Aa, ⟨[Value.int .i64 0], [Value.slice none 0 0], Aa, Aa, ⟨_, Aa, (Sl.nil (r := CC))⟩⟩⟩⟩), ⟨[Value.int .i64 0], [Value.int .i64 0, v8], Aa, Aa, ⟨[Value.int .i64 0], [v8], Aa, Aa, ⟨_, Aa, (F.item (i := 4) Aa)⟩⟩⟩⟩⟩), ⟨[Value.int .i64 3, Value.int .i64 0, Value.int .i64 0, Value.int .i64 0, Value.slice none 0 0, Value.int .i64 0, Value.int .i64 0, v9], _, Aa, (IZ.2 ⟨[Value.int .i64 3], [Value.int .i64 0, Value.int .i64 0, Value.int .i64 0, Value.slice none 0 0, Value.int .i64 0, Value.int .i64 0, v9], Aa, Aa, ⟨[Value.int .i64 0, Value.int .i64 0, Value.int .i64 0, Value.slice none 0 0], [Value.int .i64 0, Value.int .i64 0, v9], Aa, (IF.2 ⟨[Value.int .i64 0], [Value.int .i64 0, Value.int .i64 0, Value.slice none 0 0], Aa, Aa, ⟨[Value.int .i64 0], [Value.int .i64 0, Value.slice none 0 0], Aa, Aa, ⟨[Value.int .i64 0], [Value.slice none 0 0], Aa, Aa, ⟨_, Aa, (Sl.nil (r := CC))⟩⟩⟩⟩), ⟨[Value.int .i64 0], [Value.int .i64 0, v9], Aa, Aa, ⟨[Value.int .i64 0], [v9], Aa, Aa, ⟨_, Aa, (F.item (i := 3) Aa)⟩⟩⟩⟩⟩), ⟨[Value.int .i64 4, Value.int .i64 0, Value.int .i64 0, Value.int .i64 0, Value.slice none 0 0, Value.int .i64 0, Value.int .i64 0, v10], _, Aa, (IZ.2 ⟨[Value.int .i64 4], [Value.int .i64 0, Value.int .i64 0, Value.int .i64 0, Value.slice none 0 0, Value.int .i64 0, Value.int .i64 0, v10], Aa, Aa, ⟨[Value.int .i64 0, Value.int .i64 0, Value.int .i64 0, Value.slice none 0 0], [Value.int .i64 0, Value.int .i64 0, v10], Aa, (IF.2 ⟨[Value.int .i64 0], [Value.int .i64 0, Value.int .i64 0, Value.slice none 0 0], Aa, Aa, ⟨[Value.int .i64 0], [Value.int .i64 0, Value.slice none 0 0], Aa, Aa, ⟨[Value.int .i64 0], [Value.slice none 0 0], Aa, Aa, ⟨_, Aa, (Sl.nil (r := CC))⟩⟩⟩⟩), ⟨[Value.int .i64 0], [Value.int .i64 0, v10], Aa, Aa, ⟨[Value.int .i64 0], [v10], Aa, Aa, ⟨_, Aa, (F.item (i := 2) Aa)⟩⟩⟩⟩⟩), ⟨[Value.int .i64 3, Value.int .i64 0, Value.int .i64 0, Value.int .i64 0, Value.slice none 0 0, Value.int .i64 0, Value.int .i64 0, v11], _, Aa, (IZ.2 ⟨[Value.int .i64 3], [Value.int .i64 0, Value.int .i64 0, Value.int .i64 0, Value.slice none 0 0, Value.int .i64 0, Value.int .i64 0, v11], Aa, Aa, ⟨[Value.int .i64 0, Value.int .i64 0, Value.int .i64 0, Value.slice none 0 0], [Value.int .i64 0, Value.int .i64 0, v11], Aa, (IF.2 ⟨[Value.int .i64 0], [Value.int .i64 0, Value.int .i64 0, Value.slice none 0 0], Aa, Aa, ⟨[Value.int .i64 0], [Value.int .i64 0, Value.slice none 0 0], Aa, Aa, ⟨[Value.int .i64 0], [Value.slice none 0 0], Aa, Aa, ⟨_, Aa, (Sl.nil (r := CC))⟩⟩⟩⟩), ⟨[Value.int .i64 0], [Value.int .i64 0, v11], Aa, Aa, ⟨[Value.int .i64 0], [v11], Aa, Aa, ⟨_, Aa, (F.item (i := 1) Aa)⟩⟩⟩⟩⟩), ⟨[Value.int .i64 3, Value.int .i64 0, Value.int .i64 0, Value.int .i64 0, Value.slice none 0 0, Value.int .i64 0, Value.int .i64 0, v12], _, Aa, (IZ.2 ⟨[Value.int .i64 3], [Value.int .i64 0, Value.int .i64 0, Value.int .i64 0, Value.slice none 0 0, Value.int .i64 0, Value.int .i64 0, v12], Aa, Aa, ⟨[Value.int .i64 0, Value.int .i64 0, Value.int .i64 0, Value.slice none 0 0], [Value.int .i64 0, Value.int .i64 0, v12], Aa, (IF.2 ⟨[Value.int .i64 0], [Value.int .i64 0, Value.int .i64 0, Value.slice none 0 0], Aa, Aa, ⟨[Value.int .i64 0], [Value.int .i64 0, Value.slice none 0 0], Aa, Aa, ⟨[Value.int .i64 0], [Value.slice none 0 0], Aa, Aa, ⟨_, Aa, (Sl.nil (r := CC))⟩⟩⟩⟩), ⟨[Value.int .i64 0], [Value.int .i64 0, v12], Aa, Aa, ⟨[Value.int .i64 0], [v12], Aa, Aa, ⟨_, Aa, (F.item (i := 0) Aa)⟩⟩⟩⟩⟩), Aa⟩⟩⟩⟩⟩ fun v13 a w W F => ?_
 refine vl tk 2 W F fun a w W F => ?_
 refine Ac ?_
 obtain ⟨o1, G1, K1, L1⟩ := QS H
 refine Ax (fun a w => some (Sum.inl ()) = some o1 ∧ Fr 119 [] [(1, .int .i64 p1), (2, .int .i64 p2), (3, .int .i64 p3), (4, .int .i64 p4), (5, .int .i64 p5), (13, .pointer (some ⟨b2, 0, none⟩)), (14, .bool false)] a ∧ Stw ⟨Y, [], w0⟩ [(b5, (GE)), (b4, (GI)), (b3, (CX x3 v5 v6)), (b2, (F8 p6)), (b1, (Fv p0 v1 v2))] [Ef v5 CC x3.un.2.1.un.2.2.2, Ef v6 De x3.un.2.2.2.2] w) ?_ ?_
 ·
  have H := G1
  clear G1 K1
  refine vc tk 6 W F fun a w W F => ?_
  have F := F.frontZ (i := 7) Aa Aa
  have F := F.freeze
  have F := F.frontZ (i := 8) Aa Aa
  have F := F.frontZ (i := 8) Aa Aa
  have F := F.frontZ (i := 3) Aa Aa
  have F := F.frontZ (i := 3) Aa Aa
  have F := F.frontM (i := 4) Aa Aa
  have F := F.frontM (i := 4) Aa Aa
  have F := F.frontM (i := 4) Aa Aa
  have F := F.frontM (i := 4) Aa Aa
  have F := F.frontM (i := 4) Aa Aa
  have F := F.sub (M' := [(b5, (GE)), (b4, (GI)), (b3, (CX x3 v5 v6)), (b2, (F8 p6)), (b1, (Fv p0 v1 v2))]) (Z' := [Ef v7 Bg x4, row v13 37 De ([Tr37.of (3, Tr34.of (0, 0, 0, ([] : List Tr34)), 0, 0, ([Tr37.of (1, Tr34.of (1, 0, 0, ([] : List Tr34)), 0, 0, ([] : List Tr37)), Tr37.of (x3.un.1, Tr34.of (x3.un.2.1.un.1, x3.un.2.1.un.2.1, x3.un.2.1.un.2.2.1, x3.un.2.1.un.2.2.2), x3.un.2.2.1, x3.un.2.2.2.1, x3.un.2.2.2.2)] : List Tr37)), Tr37.of (3, Tr34.of (0, 0, 0, ([] : List Tr34)), 0, 0, ([Tr37.of (x3.un.1, Tr34.of (x3.un.2.1.un.1, x3.un.2.1.un.2.1, x3.un.2.1.un.2.2.1, x3.un.2.1.un.2.2.2), x3.un.2.2.1, x3.un.2.2.2.1, x3.un.2.2.2.2), Tr37.of (1, Tr34.of (1, 0, 0, ([] : List Tr34)), 0, 0, ([] : List Tr37))] : List Tr37)), Tr37.of (4, Tr34.of (0, 0, 0, ([] : List Tr34)), 0, 0, ([Tr37.of (1, Tr34.of (2, 0, 0, ([] : List Tr34)), 0, 0, ([] : List Tr37)), Tr37.of (x3.un.1, Tr34.of (x3.un.2.1.un.1, x3.un.2.1.un.2.1, x3.un.2.1.un.2.2.1, x3.un.2.1.un.2.2.2), x3.un.2.2.1, x3.un.2.2.2.1, x3.un.2.2.2.2)] : List Tr37)), Tr37.of (3, Tr34.of (0, 0, 0, ([] : List Tr34)), 0, 0, ([Tr37.of (1, Tr34.of (2, 0, 0, ([] : List Tr34)), 0, 0, ([] : List Tr37)), Tr37.of (x3.un.1, Tr34.of (x3.un.2.1.un.1, x3.un.2.1.un.2.1, x3.un.2.1.un.2.2.1, x3.un.2.1.un.2.2.2), x3.un.2.2.1, x3.un.2.2.2.1, x3.un.2.2.2.2)] : List Tr37)), Tr37.of (3, Tr34.of (0, 0, 0, ([] : List Tr34)), 0, 0, ([Tr37.of (x3.un.1, Tr34.of (x3.un.2.1.un.1, x3.un.2.1.un.2.1, x3.un.2.1.un.2.2.1, x3.un.2.1.un.2.2.2), x3.un.2.2.1, x3.un.2.2.2.1, x3.un.2.2.2.2), Tr37.of (1, Tr34.of (2, 0, 0, ([] : List Tr34)), 0, 0, ([] : List Tr37))] : List Tr37))] : List Tr37), Ef v5 CC x3.un.2.1.un.2.2.2, Ef v6 De x3.un.2.2.2.2]) (List.Sublist.refl _) (List.Sublist.cons_cons _ (List.Sublist.cons_cons _ (List.Sublist.cons_cons _ (List.Sublist.cons_cons _ (List.nil_sublist _)))))
  refine BF H (fun s a w => Fr 119 [] [(1, .int .i64 p1), (2, .int .i64 p2), (3, .int .i64 p3), (4, .int .i64 p4), (5, .int .i64 p5), (13, .pointer (some ⟨b2, 0, none⟩)), (14, .bool false), (18, v7), (19, v13), (20, .int .i64 s)] a ∧ Stw ⟨Y, [], w0⟩ [(b5, (GE)), (b4, (GI)), (b3, (CX x3 v5 v6)), (b2, (F8 p6)), (b1, (Fv p0 v1 v2))] [Ef v7 Bg x4, row v13 37 De ([Tr37.of (3, Tr34.of (0, 0, 0, ([] : List Tr34)), 0, 0, ([Tr37.of (1, Tr34.of (1, 0, 0, ([] : List Tr34)), 0, 0, ([] : List Tr37)), Tr37.of (x3.un.1, Tr34.of (x3.un.2.1.un.1, x3.un.2.1.un.2.1, x3.un.2.1.un.2.2.1, x3.un.2.1.un.2.2.2), x3.un.2.2.1, x3.un.2.2.2.1, x3.un.2.2.2.2)] : List Tr37)), Tr37.of (3, Tr34.of (0, 0, 0, ([] : List Tr34)), 0, 0, ([Tr37.of (x3.un.1, Tr34.of (x3.un.2.1.un.1, x3.un.2.1.un.2.1, x3.un.2.1.un.2.2.1, x3.un.2.1.un.2.2.2), x3.un.2.2.1, x3.un.2.2.2.1, x3.un.2.2.2.2), Tr37.of (1, Tr34.of (1, 0, 0, ([] : List Tr34)), 0, 0, ([] : List Tr37))] : List Tr37)), Tr37.of (4, Tr34.of (0, 0, 0, ([] : List Tr34)), 0, 0, ([Tr37.of (1, Tr34.of (2, 0, 0, ([] : List Tr34)), 0, 0, ([] : List Tr37)), Tr37.of (x3.un.1, Tr34.of (x3.un.2.1.un.1, x3.un.2.1.un.2.1, x3.un.2.1.un.2.2.1, x3.un.2.1.un.2.2.2), x3.un.2.2.1, x3.un.2.2.2.1, x3.un.2.2.2.2)] : List Tr37)), Tr37.of (3, Tr34.of (0, 0, 0, ([] : List Tr34)), 0, 0, ([Tr37.of (1, Tr34.of (2, 0, 0, ([] : List Tr34)), 0, 0, ([] : List Tr37)), Tr37.of (x3.un.1, Tr34.of (x3.un.2.1.un.1, x3.un.2.1.un.2.1, x3.un.2.1.un.2.2.1, x3.un.2.1.un.2.2.2), x3.un.2.2.1, x3.un.2.2.2.1, x3.un.2.2.2.2)] : List Tr37)), Tr37.of (3, Tr34.of (0, 0, 0, ([] : List Tr34)), 0, 0, ([Tr37.of (x3.un.1, Tr34.of (x3.un.2.1.un.1, x3.un.2.1.un.2.1, x3.un.2.1.un.2.2.1, x3.un.2.1.un.2.2.2), x3.un.2.2.1, x3.un.2.2.2.1, x3.un.2.2.2.2), Tr37.of (1, Tr34.of (2, 0, 0, ([] : List Tr34)), 0, 0, ([] : List Tr37))] : List Tr37))] : List Tr37), Ef v5 CC x3.un.2.1.un.2.2.2, Ef v6 De x3.un.2.2.2.2] w) ⟨W.ra Aa, F⟩ fun s o a w H L2 hR => ?_
  obtain ⟨x5, rfl⟩ : ∃ x, x = s := ⟨s, rfl⟩
  obtain ⟨W, F⟩ := hR
  have W : Fr 119 [] [(1, .int .i64 p1), (2, .int .i64 p2), (3, .int .i64 p3), (4, .int .i64 p4), (5, .int .i64 p5), (13, .pointer (some ⟨b2, 0, none⟩)), (14, .bool false), (18, v7), (19, v13), (20, .int .i64 x5)] a := W
  have F : Stw ⟨Y, [], w0⟩ [(b5, (GE)), (b4, (GI)), (b3, (CX x3 v5 v6)), (b2, (F8 p6)), (b1, (Fv p0 v1 v2))] [Ef v7 Bg x4, row v13 37 De ([Tr37.of (3, Tr34.of (0, 0, 0, ([] : List Tr34)), 0, 0, ([Tr37.of (1, Tr34.of (1, 0, 0, ([] : List Tr34)), 0, 0, ([] : List Tr37)), Tr37.of (x3.un.1, Tr34.of (x3.un.2.1.un.1, x3.un.2.1.un.2.1, x3.un.2.1.un.2.2.1, x3.un.2.1.un.2.2.2), x3.un.2.2.1, x3.un.2.2.2.1, x3.un.2.2.2.2)] : List Tr37)), Tr37.of (3, Tr34.of (0, 0, 0, ([] : List Tr34)), 0, 0, ([Tr37.of (x3.un.1, Tr34.of (x3.un.2.1.un.1, x3.un.2.1.un.2.1, x3.un.2.1.un.2.2.1, x3.un.2.1.un.2.2.2), x3.un.2.2.1, x3.un.2.2.2.1, x3.un.2.2.2.2), Tr37.of (1, Tr34.of (1, 0, 0, ([] : List Tr34)), 0, 0, ([] : List Tr37))] : List Tr37)), Tr37.of (4, Tr34.of (0, 0, 0, ([] : List Tr34)), 0, 0, ([Tr37.of (1, Tr34.of (2, 0, 0, ([] : List Tr34)), 0, 0, ([] : List Tr37)), Tr37.of (x3.un.1, Tr34.of (x3.un.2.1.un.1, x3.un.2.1.un.2.1, x3.un.2.1.un.2.2.1, x3.un.2.1.un.2.2.2), x3.un.2.2.1, x3.un.2.2.2.1, x3.un.2.2.2.2)] : List Tr37)), Tr37.of (3, Tr34.of (0, 0, 0, ([] : List Tr34)), 0, 0, ([Tr37.of (1, Tr34.of (2, 0, 0, ([] : List Tr34)), 0, 0, ([] : List Tr37)), Tr37.of (x3.un.1, Tr34.of (x3.un.2.1.un.1, x3.un.2.1.un.2.1, x3.un.2.1.un.2.2.1, x3.un.2.1.un.2.2.2), x3.un.2.2.1, x3.un.2.2.2.1, x3.un.2.2.2.2)] : List Tr37)), Tr37.of (3, Tr34.of (0, 0, 0, ([] : List Tr34)), 0, 0, ([Tr37.of (x3.un.1, Tr34.of (x3.un.2.1.un.1, x3.un.2.1.un.2.1, x3.un.2.1.un.2.2.1, x3.un.2.1.un.2.2.2), x3.un.2.2.1, x3.un.2.2.2.1, x3.un.2.2.2.2), Tr37.of (1, Tr34.of (2, 0, 0, ([] : List Tr34)), 0, 0, ([] : List Tr37))] : List Tr37))] : List Tr37), Ef v5 CC x3.un.2.1.un.2.2.2, Ef v6 De x3.un.2.2.2.2] w := F
  rw [Cf] at H
  refine vc tk 5 W F fun a w W F => ?_
  refine ls W F Aa (CS (r := De) (l := ([Tr37.of (3, Tr34.of (0, 0, 0, ([] : List Tr34)), 0, 0, ([Tr37.of (1, Tr34.of (1, 0, 0, ([] : List Tr34)), 0, 0, ([] : List Tr37)), Tr37.of (x3.un.1, Tr34.of (x3.un.2.1.un.1, x3.un.2.1.un.2.1, x3.un.2.1.un.2.2.1, x3.un.2.1.un.2.2.2), x3.un.2.2.1, x3.un.2.2.2.1, x3.un.2.2.2.2)] : List Tr37)), Tr37.of (3, Tr34.of (0, 0, 0, ([] : List Tr34)), 0, 0, ([Tr37.of (x3.un.1, Tr34.of (x3.un.2.1.un.1, x3.un.2.1.un.2.1, x3.un.2.1.un.2.2.1, x3.un.2.1.un.2.2.2), x3.un.2.2.1, x3.un.2.2.2.1, x3.un.2.2.2.2), Tr37.of (1, Tr34.of (1, 0, 0, ([] : List Tr34)), 0, 0, ([] : List Tr37))] : List Tr37)), Tr37.of (4, Tr34.of (0, 0, 0, ([] : List Tr34)), 0, 0, ([Tr37.of (1, Tr34.of (2, 0, 0, ([] : List Tr34)), 0, 0, ([] : List Tr37)), Tr37.of (x3.un.1, Tr34.of (x3.un.2.1.un.1, x3.un.2.1.un.2.1, x3.un.2.1.un.2.2.1, x3.un.2.1.un.2.2.2), x3.un.2.2.1, x3.un.2.2.2.1, x3.un.2.2.2.2)] : List Tr37)), Tr37.of (3, Tr34.of (0, 0, 0, ([] : List Tr34)), 0, 0, ([Tr37.of (1, Tr34.of (2, 0, 0, ([] : List Tr34)), 0, 0, ([] : List Tr37)), Tr37.of (x3.un.1, Tr34.of (x3.un.2.1.un.1, x3.un.2.1.un.2.1, x3.un.2.1.un.2.2.1, x3.un.2.1.un.2.2.2), x3.un.2.2.1, x3.un.2.2.2.1, x3.un.2.2.2.2)] : List Tr37)), Tr37.of (3, Tr34.of (0, 0, 0, ([] : List Tr34)), 0, 0, ([Tr37.of (x3.un.1, Tr34.of (x3.un.2.1.un.1, x3.un.2.1.un.2.1, x3.un.2.1.un.2.2.1, x3.un.2.1.un.2.2.2), x3.un.2.2.1, x3.un.2.2.2.1, x3.un.2.2.2.2), Tr37.of (1, Tr34.of (2, 0, 0, ([] : List Tr34)), 0, 0, ([] : List Tr37))] : List Tr37))] : List Tr37)) Kq Aa W Aa (Aj 1 Aa)).q fun a w W F => ?_
  refine Cl tk 3 W F fun a w W F => ?_
  refine BJ W Aa H (fun W H => ?_) fun W H => ?_
  ·
   refine FL tk 10 W F fun a w W F => ?_
   obtain ⟨o3, G3, K3⟩ := Ad H
   refine Ax (fun a w => ∃ x6 : List (Int × (Int × Int × Int × Int)), ∃ v14 : Value, some (x6) = some o3 ∧ Fr 119 [] [(1, .int .i64 p1), (2, .int .i64 p2), (3, .int .i64 p3), (4, .int .i64 p4), (5, .int .i64 p5), (13, .pointer (some ⟨b2, 0, none⟩)), (14, .bool false), (18, v7), (19, v13), (20, .int .i64 x5), (21, v14)] a ∧ Stw ⟨Y, [], w0⟩ [(b5, (GE)), (b4, (GI)), (b3, (CX x3 v5 v6)), (b2, (F8 p6)), (b1, (Fv p0 v1 v2))] [Ef v7 Bg x4, row v13 37 De ([Tr37.of (3, Tr34.of (0, 0, 0, ([] : List Tr34)), 0, 0, ([Tr37.of (1, Tr34.of (1, 0, 0, ([] : List Tr34)), 0, 0, ([] : List Tr37)), Tr37.of (x3.un.1, Tr34.of (x3.un.2.1.un.1, x3.un.2.1.un.2.1, x3.un.2.1.un.2.2.1, x3.un.2.1.un.2.2.2), x3.un.2.2.1, x3.un.2.2.2.1, x3.un.2.2.2.2)] : List Tr37)), Tr37.of (3, Tr34.of (0, 0, 0, ([] : List Tr34)), 0, 0, ([Tr37.of (x3.un.1, Tr34.of (x3.un.2.1.un.1, x3.un.2.1.un.2.1, x3.un.2.1.un.2.2.1, x3.un.2.1.un.2.2.2), x3.un.2.2.1, x3.un.2.2.2.1, x3.un.2.2.2.2), Tr37.of (1, Tr34.of (1, 0, 0, ([] : List Tr34)), 0, 0, ([] : List Tr37))] : List Tr37)), Tr37.of (4, Tr34.of (0, 0, 0, ([] : List Tr34)), 0, 0, ([Tr37.of (1, Tr34.of (2, 0, 0, ([] : List Tr34)), 0, 0, ([] : List Tr37)), Tr37.of (x3.un.1, Tr34.of (x3.un.2.1.un.1, x3.un.2.1.un.2.1, x3.un.2.1.un.2.2.1, x3.un.2.1.un.2.2.2), x3.un.2.2.1, x3.un.2.2.2.1, x3.un.2.2.2.2)] : List Tr37)), Tr37.of (3, Tr34.of (0, 0, 0, ([] : List Tr34)), 0, 0, ([Tr37.of (1, Tr34.of (2, 0, 0, ([] : List Tr34)), 0, 0, ([] : List Tr37)), Tr37.of (x3.un.1, Tr34.of (x3.un.2.1.un.1, x3.un.2.1.un.2.1, x3.un.2.1.un.2.2.1, x3.un.2.1.un.2.2.2), x3.un.2.2.1, x3.un.2.2.2.1, x3.un.2.2.2.2)] : List Tr37)), Tr37.of (3, Tr34.of (0, 0, 0, ([] : List Tr34)), 0, 0, ([Tr37.of (x3.un.1, Tr34.of (x3.un.2.1.un.1, x3.un.2.1.un.2.1, x3.un.2.1.un.2.2.1, x3.un.2.1.un.2.2.2), x3.un.2.2.1, x3.un.2.2.2.1, x3.un.2.2.2.2), Tr37.of (1, Tr34.of (2, 0, 0, ([] : List Tr34)), 0, 0, ([] : List Tr37))] : List Tr37))] : List Tr37), Ef v14 Bg x6, Ef v5 CC x3.un.2.1.un.2.2.2, Ef v6 De x3.un.2.2.2.2] w) ?_ ?_
   ·
    have H := G3
    clear G3 K3
    refine vc tk 6 W F fun a w W F => ?_
    refine BJ W Aa H (fun W H => ?_) fun W H => ?_
    ·
     refine vc tk 3 W F fun a w W F => ?_
     refine Ac ?_
     have F := F.note (Sl.nil (r := Bg))
     have F := F.frontZ (i := 4) Aa Aa
     have F := F.frontZ (i := 4) Aa Aa
     have F := F.frontZ (i := 2) Aa Aa
     have F := F.frontZ (i := 4) Aa Aa
     have F := F.frontZ (i := 4) Aa Aa
     have F := F.frontM (i := 4) Aa Aa
     have F := F.frontM (i := 4) Aa Aa
     have F := F.frontM (i := 4) Aa Aa
     have F := F.frontM (i := 4) Aa Aa
     have F := F.frontM (i := 4) Aa Aa
     exact ⟨_, (Value.slice none 0 0), H, W.ra Aa, F⟩
    refine AX (Ac ?_)
    have F := F.note (F.item (i := 0) Aa)
    have F := F.frontZ (i := 4) Aa Aa
    have F := F.frontZ (i := 4) Aa Aa
    have F := F.frontZ (i := 2) Aa Aa
    have F := F.frontZ (i := 4) Aa Aa
    have F := F.frontZ (i := 4) Aa Aa
    have F := F.frontM (i := 4) Aa Aa
    have F := F.frontM (i := 4) Aa Aa
    have F := F.frontM (i := 4) Aa Aa
    have F := F.frontM (i := 4) Aa Aa
    have F := F.frontM (i := 4) Aa Aa
    exact ⟨_, (v7), H, W.ra Aa, F⟩
   rintro a w ⟨x6, v14, hj, W, F⟩
   have hj := AA hj
   subst hj
   have H := K3
   clear G3 K3
   obtain ⟨o4, G4, K4⟩ := Ad H
   refine Ax (fun a w => ∃ x7 : Bool, some (x7) = some o4 ∧ Fr 119 [] [(1, .int .i64 p1), (2, .int .i64 p2), (3, .int .i64 p3), (4, .int .i64 p4), (5, .int .i64 p5), (13, .pointer (some ⟨b2, 0, none⟩)), (14, .bool false), (18, v7), (19, v13), (20, .int .i64 x5), (88, .bool x7)] a ∧ Stw ⟨Y, [], w0⟩ [(b5, (GE)), (b4, (GI)), (b3, (CX x3 v5 v6)), (b2, (F8 p6)), (b1, (Fv p0 v1 v2))] [Ef v7 Bg x4, row v13 37 De ([Tr37.of (3, Tr34.of (0, 0, 0, ([] : List Tr34)), 0, 0, ([Tr37.of (1, Tr34.of (1, 0, 0, ([] : List Tr34)), 0, 0, ([] : List Tr37)), Tr37.of (x3.un.1, Tr34.of (x3.un.2.1.un.1, x3.un.2.1.un.2.1, x3.un.2.1.un.2.2.1, x3.un.2.1.un.2.2.2), x3.un.2.2.1, x3.un.2.2.2.1, x3.un.2.2.2.2)] : List Tr37)), Tr37.of (3, Tr34.of (0, 0, 0, ([] : List Tr34)), 0, 0, ([Tr37.of (x3.un.1, Tr34.of (x3.un.2.1.un.1, x3.un.2.1.un.2.1, x3.un.2.1.un.2.2.1, x3.un.2.1.un.2.2.2), x3.un.2.2.1, x3.un.2.2.2.1, x3.un.2.2.2.2), Tr37.of (1, Tr34.of (1, 0, 0, ([] : List Tr34)), 0, 0, ([] : List Tr37))] : List Tr37)), Tr37.of (4, Tr34.of (0, 0, 0, ([] : List Tr34)), 0, 0, ([Tr37.of (1, Tr34.of (2, 0, 0, ([] : List Tr34)), 0, 0, ([] : List Tr37)), Tr37.of (x3.un.1, Tr34.of (x3.un.2.1.un.1, x3.un.2.1.un.2.1, x3.un.2.1.un.2.2.1, x3.un.2.1.un.2.2.2), x3.un.2.2.1, x3.un.2.2.2.1, x3.un.2.2.2.2)] : List Tr37)), Tr37.of (3, Tr34.of (0, 0, 0, ([] : List Tr34)), 0, 0, ([Tr37.of (1, Tr34.of (2, 0, 0, ([] : List Tr34)), 0, 0, ([] : List Tr37)), Tr37.of (x3.un.1, Tr34.of (x3.un.2.1.un.1, x3.un.2.1.un.2.1, x3.un.2.1.un.2.2.1, x3.un.2.1.un.2.2.2), x3.un.2.2.1, x3.un.2.2.2.1, x3.un.2.2.2.2)] : List Tr37)), Tr37.of (3, Tr34.of (0, 0, 0, ([] : List Tr34)), 0, 0, ([Tr37.of (x3.un.1, Tr34.of (x3.un.2.1.un.1, x3.un.2.1.un.2.1, x3.un.2.1.un.2.2.1, x3.un.2.1.un.2.2.2), x3.un.2.2.1, x3.un.2.2.2.1, x3.un.2.2.2.2), Tr37.of (1, Tr34.of (2, 0, 0, ([] : List Tr34)), 0, 0, ([] : List Tr37))] : List Tr37))] : List Tr37), Ef v5 CC x3.un.2.1.un.2.2.2, Ef v6 De x3.un.2.2.2.2] w) ?_ ?_
   ·
    have H := G4
    clear G4 K4
    have F := F.frontZ (i := 1) Aa Aa
    obtain ⟨v15, h7, F⟩ := F.exR EE
    have F := F.frontZ (i := 3) Aa Aa
    obtain ⟨v16, h8, F⟩ := F.exF CG
    have F := F.frontZ (i := 4) Aa Aa
    obtain ⟨v17, h9, F⟩ := F.exF EE
    refine D6 [(true, 0), (true, 1), (true, 2), (true, 3), (false, 4), (false, 5), (true, 6), (true, 7), (true, 8), (true, 9), (true, 10), (true, 11), (true, 12), (true, 13), (true, 15), (false, 14), (false, 16), (true, 17), (true, 18)] (CN ⟨Y, [], w0⟩ [] [(some 4, row v13 37 FW v15)]) (fun ch a d v w h => by cases d <;> exact h) MO (by kernel_rfl) F (fun w F => ⟨_, _, F, Ag, (all_cons (fun _ => (.tail _ (.tail _ (.head _)))) Ag)⟩) fun w F => ?_
    iterate 2 refine Bo (R := []) W Aa Aa (yC fun M Z hN hZ => An W Aa) Aa Aa fun a W => ?_
    obtain ⟨x8, h10, H⟩ := Ad H
    obtain ⟨v18, h11, h12⟩ := DM h7 h10
    have h13 : HK v18 = [.int .i64 x8.un.1, .int .i64 x8.un.2.1.un.1, .int .i64 x8.un.2.1.un.2.1, .int .i64 x8.un.2.1.un.2.2.1, (v18.2.1.2.2.2.1), .int .i64 x8.un.2.2.1, .int .i64 x8.un.2.2.2.1, (v18.2.2.2.2.1)] := congrArg (fun q : Tr37 => ([.int .i64 q.un.1, .int .i64 q.un.2.1.un.1, .int .i64 q.un.2.1.un.2.1, .int .i64 q.un.2.1.un.2.2.1, (v18.2.1.2.2.2.1), .int .i64 q.un.2.2.1, .int .i64 q.un.2.2.2.1, (v18.2.2.2.2.1)] : List Value)) h12
    refine Bo (R := []) W Aa Aa (yC fun M Z hN hZ => Cn (r := FW) O0 W Aa Aa (Eh F (Aj 2 Aa)) h11) Aa Aa fun a W => ?_
    refine Bo (R := [4]) W Aa Aa (yC fun M Z hN hZ => Al (y := Value.agg #[.int .i64 x8.un.1, .int .i64 x8.un.2.1.un.1, .int .i64 x8.un.2.1.un.2.1, .int .i64 x8.un.2.1.un.2.2.1, (v18.2.1.2.2.2.1), .int .i64 x8.un.2.2.1, .int .i64 x8.un.2.2.2.1, (v18.2.2.2.2.1)]) (j := 0) (i := x5) (enc := HK) W Aa Aa (DL (hZ ((some 4), row v13 37 FW v15) (.head _) Aa)) h11 NN II (by rw [h13]; rfl)) (by kernel_rfl) Aa fun a W => ?_
    refine Dr Aa ?_
    obtain ⟨x9, h14, H⟩ := Ad H
    refine Bv (Ml := []) (Zl := []) (β := Value × Value) (rv := fun x => .agg #[.int .i64 x9.un.1, .int .i64 x9.un.2.1.un.1, .int .i64 x9.un.2.1.un.2.1, .int .i64 x9.un.2.1.un.2.2.1, x.1, .int .i64 x9.un.2.2.1, .int .i64 x9.un.2.2.2.1, x.2]) (MM := fun x => []) (ZZ := fun x => [row x.1 24 DO x9.un.2.1.un.2.2.2, row x.2 27 GN x9.un.2.2.2.2]) W F XO Aa Aa (fun hL => LE _ w ((v18.2.1.2.2.2.1)) ((v18.2.2.2.2.1)) (Tr37.of (x8.un.1, Tr34.of (x8.un.2.1.un.1, x8.un.2.1.un.2.1, x8.un.2.1.un.2.2.1, x8.un.2.1.un.2.2.2), x8.un.2.2.1, x8.un.2.2.2.1, x8.un.2.2.2.2)) _ h14 ((BE (Aj 2 Aa) h11 (Ai.snd (Ai.fst (Ai.snd (Ai.snd (Ai.snd Ai.here))))) (congrArg (fun q : Tr37 => q.un.2.1.un.2.2.2) h12)) w F).nx ((BE (Aj 2 Aa) h11 (Ai.snd (Ai.snd (Ai.snd (Ai.snd Ai.here)))) (congrArg (fun q : Tr37 => q.un.2.2.2.2) h12)) w F).nx) fun x a w W F => ?_
    obtain ⟨v19, v20⟩ := x
    have F : Stw ⟨Y, [], w0⟩ [(b5, (GE)), (b4, (GI)), (b3, (CX x3 v5 v6)), (b2, (F8 p6)), (b1, (Fv p0 v1 v2))] [row v19 24 DO x9.un.2.1.un.2.2.2, row v20 27 GN x9.un.2.2.2.2, Ef v6 FW v17, Ef v5 Kb v16, row v13 37 FW v15, Ef v7 Bg x4, Ef v14 Bg x6] w := F
    refine Bl (N2 := []) (NZ2 := []) (N3 := []) (NZ3 := [(some 4, row v13 37 FW v15)]) F Aa Aa Ag (all_cons (fun h => Ah (by kernel_rfl) h) Ag) ?_
    refine Dr Aa ?_
    obtain ⟨x10, h15, H⟩ := Ad H
    refine ls W F Aa (AK (v := Value.bool x10) W Xr Aa (fun w F => J8 any w (v19) (v20) (Tr27.of (x9.un.1, Tr24.of (x9.un.2.1.un.1, x9.un.2.1.un.2.1, x9.un.2.1.un.2.2.1, x9.un.2.1.un.2.2.2), x9.un.2.2.1, x9.un.2.2.2.1, x9.un.2.2.2.2)) _ h15 (Ek (Aj 0 Aa) F) (Ek (Aj 1 Aa) F))) fun a w W F => ?_
    refine Bl (N2 := [(some 14, b2, [.int .i64 p6.1, .int .i64 p6.2.1, .int .i64 p6.2.2.1, .int .i64 p6.2.2.2])]) (NZ2 := [(some 14, row v13 37 FW v15)]) (N3 := [(some 14, b2, [.int .i64 p6.1, .int .i64 p6.2.1, .int .i64 p6.2.2.1, .int .i64 p6.2.2.2])]) (NZ3 := [(some 4, row v13 37 FW v15), (some 14, row v13 37 FW v15)]) F Aa Aa (all_cons (fun _ => (.tail _ (.tail _ (.tail _ (.head _))))) Ag) (all_cons (fun h => Ah (by kernel_rfl) h) (all_cons (fun _ => (.tail _ (.tail _ (.tail _ (.tail _ (.head _)))))) Ag)) ?_
    refine Bo (R := []) W Aa Aa (yC fun M Z hN hZ => An W Aa) Aa Aa fun a W => ?_
    rcases Bool.eq_false_or_eq_true x10 with hb | hb
    ·
     have H := B8 hb H
     rw [hb] at W
     clear hb
     iterate 2 refine Mm (R := []) W Aa (Ab W Aa Aa Aa Aa) Aa Aa (yC fun M Z hN hZ => An W Aa) Aa Aa fun a W => ?_
     obtain ⟨x11, h16, H⟩ := Ad H
     obtain ⟨v21, h17, h18⟩ := DM h7 h16
     have h19 : HK v21 = [.int .i64 x11.un.1, .int .i64 x11.un.2.1.un.1, .int .i64 x11.un.2.1.un.2.1, .int .i64 x11.un.2.1.un.2.2.1, (v21.2.1.2.2.2.1), .int .i64 x11.un.2.2.1, .int .i64 x11.un.2.2.2.1, (v21.2.2.2.2.1)] := congrArg (fun q : Tr37 => ([.int .i64 q.un.1, .int .i64 q.un.2.1.un.1, .int .i64 q.un.2.1.un.2.1, .int .i64 q.un.2.1.un.2.2.1, (v21.2.1.2.2.2.1), .int .i64 q.un.2.2.1, .int .i64 q.un.2.2.2.1, (v21.2.2.2.2.1)] : List Value)) h18
     refine Mm (R := []) W Aa (Ab W Aa Aa Aa Aa) Aa Aa (yC fun M Z hN hZ => Cn (r := FW) O0 W Aa Aa (Eh F (Aj 4 Aa)) h17) Aa Aa fun a W => ?_
     refine Mm (R := [14]) W Aa (Ab W Aa Aa Aa Aa) Aa Aa (yC fun M Z hN hZ => Al (y := Value.agg #[.int .i64 x11.un.1, .int .i64 x11.un.2.1.un.1, .int .i64 x11.un.2.1.un.2.1, .int .i64 x11.un.2.1.un.2.2.1, (v21.2.1.2.2.2.1), .int .i64 x11.un.2.2.1, .int .i64 x11.un.2.2.2.1, (v21.2.2.2.2.1)]) (j := 0) (i := x5) (enc := HK) W Aa Aa (DL (hZ ((some 14), row v13 37 FW v15) (.tail _ (.head _)) Aa)) h17 NN II (by rw [h19]; rfl)) (by kernel_rfl) Aa fun a W => ?_
     iterate 2 refine Mm (R := []) W Aa (Ab W Aa Aa Aa Aa) Aa Aa (yC fun M Z hN hZ => An W Aa) Aa Aa fun a W => ?_
     refine Mm (R := [14]) W Aa (Ab W Aa Aa Aa Aa) Aa Aa (yC fun M Z hN hZ => CF (cs := (F8 p6)) (v := Value.agg #[.int .i64 p6.1, .int .i64 p6.2.1, .int .i64 p6.2.2.1, .int .i64 p6.2.2.2]) W Aa (hN ((some 14), b2, (F8 p6)) (.head _) Aa) SR Aa) (by kernel_rfl) Aa fun a W => ?_
     refine Mm (R := []) W Aa (Ab W Aa Aa Aa Aa) Aa Aa (yC fun M Z hN hZ => An W Aa) Aa Aa fun a W => ?_
     refine Dr Aa ?_
     refine HB (Ab W Aa Aa Aa Aa) ?_
     obtain ⟨x12, h20, H⟩ := Ad H
     refine Bv (Ml := []) (Zl := []) (β := Value) (rv := fun x => x) (MM := fun x => []) (ZZ := fun x => [row x 63 Bg x12]) W F Wk Aa Aa (fun hL => GH _ w ((v21.2.1.2.2.2.1)) ((v21.2.2.2.2.1)) (Tr37.of (x11.un.1, Tr34.of (x11.un.2.1.un.1, x11.un.2.1.un.2.1, x11.un.2.1.un.2.2.1, x11.un.2.1.un.2.2.2), x11.un.2.2.1, x11.un.2.2.2.1, x11.un.2.2.2.2)) p4 p5 p6 _ h20 ((BE (Aj 4 Aa) h17 (Ai.snd (Ai.fst (Ai.snd (Ai.snd (Ai.snd Ai.here))))) (congrArg (fun q : Tr37 => q.un.2.1.un.2.2.2) h18)) w F).nx (F.rowAt (k := 4) Aa h17 (Ai.snd (Ai.snd (Ai.snd (Ai.snd Ai.here)))) (congrArg (fun q : Tr37 => q.un.2.2.2.2) h18))) fun x a w W F => ?_
     obtain ⟨v22, rfl⟩ : ∃ y, y = x := ⟨x, rfl⟩
     have F : Stw ⟨Y, [], w0⟩ [(b5, (GE)), (b4, (GI)), (b3, (CX x3 v5 v6)), (b2, (F8 p6)), (b1, (Fv p0 v1 v2))] [row v22 63 Bg x12, row v19 24 DO x9.un.2.1.un.2.2.2, row v20 27 GN x9.un.2.2.2.2, Ef v6 FW v17, Ef v5 Kb v16, row v13 37 FW v15, Ef v7 Bg x4, Ef v14 Bg x6] w := F
     refine Bl (N2 := []) (NZ2 := []) (N3 := [(some 14, b2, [.int .i64 p6.1, .int .i64 p6.2.1, .int .i64 p6.2.2.1, .int .i64 p6.2.2.2])]) (NZ3 := [(some 4, row v13 37 FW v15), (some 14, row v13 37 FW v15)]) F Aa Aa (all_cons (fun h => Ah (by kernel_rfl) h) Ag) (all_cons (fun h => Ah (by kernel_rfl) h) (all_cons (fun h => Ah (by kernel_rfl) h) Ag)) ?_
     refine Dr Aa ?_
     refine HB (Ab W Aa Aa Aa Aa) ?_
     obtain ⟨x13, h21, H⟩ := Ad H
     refine ls W F Aa (AK (v := Value.bool x13) W XW Aa (fun w F => Oz any w (v22) (v14) x12 x6 _ h21 (Ek (Aj 0 Aa) F) (Ek (LJ 7 Aa) F))) fun a w W F => ?_
     refine Bl (N2 := []) (NZ2 := []) (N3 := [(some 14, b2, [.int .i64 p6.1, .int .i64 p6.2.1, .int .i64 p6.2.2.1, .int .i64 p6.2.2.2])]) (NZ3 := [(some 4, row v13 37 FW v15), (some 14, row v13 37 FW v15)]) F Aa Aa (all_cons (fun h => Ah (by kernel_rfl) h) Ag) (all_cons (fun h => Ah (by kernel_rfl) h) (all_cons (fun h => Ah (by kernel_rfl) h) Ag)) ?_
     refine Mm (R := []) W Aa (Ab W Aa Aa Aa Aa) Aa Aa (yC fun M Z hN hZ => Js W Aa) Aa Aa fun a W => ?_
     refine Bo (R := []) W Aa Aa (yC fun M Z hN hZ => Bq W Aa Aa Aa) Aa Aa fun a W => ?_
     refine Fw ?_
     have F := F.note (F.rowAt (k := 5) Aa h11 (Ai.snd (Ai.fst (Ai.snd (Ai.snd (Ai.snd Ai.here))))) (congrArg (fun q : Tr37 => q.un.2.1.un.2.2.2) h12))
     have F := F.note (F.rowAt (k := 6) Aa h11 (Ai.snd (Ai.snd (Ai.snd (Ai.snd Ai.here)))) (congrArg (fun q : Tr37 => q.un.2.2.2.2) h12))
     have F := F.note (F.rowAt (k := 7) Aa h17 (Ai.snd (Ai.fst (Ai.snd (Ai.snd (Ai.snd Ai.here))))) (congrArg (fun q : Tr37 => q.un.2.1.un.2.2.2) h18))
     have F := F.note (F.rowAt (k := 8) Aa h17 (Ai.snd (Ai.snd (Ai.snd (Ai.snd Ai.here)))) (congrArg (fun q : Tr37 => q.un.2.2.2.2) h18))
     refine Ac ?_
     have F := F.frontZ (i := 9) Aa Aa
     have F := F.hideR EE h7
     have F := F.frontZ (i := 9) Aa Aa
     have F := F.hideF CG h8
     have F := F.frontZ (i := 9) Aa Aa
     have F := F.hideF EE h9
     have F := F.frontZ (i := 1) Aa Aa
     have F := F.frontZ (i := 2) Aa Aa
     have F := F.frontZ (i := 10) Aa Aa
     have F := F.frontM (i := 4) Aa Aa
     have F := F.frontM (i := 4) Aa Aa
     have F := F.frontM (i := 4) Aa Aa
     have F := F.frontM (i := 4) Aa Aa
     have F := F.frontM (i := 4) Aa Aa
     have F := F.sub (M' := [(b5, (GE)), (b4, (GI)), (b3, (CX x3 v5 v6)), (b2, (F8 p6)), (b1, (Fv p0 v1 v2))]) (Z' := [Ef v7 Bg x4, row v13 37 De ([Tr37.of (3, Tr34.of (0, 0, 0, ([] : List Tr34)), 0, 0, ([Tr37.of (1, Tr34.of (1, 0, 0, ([] : List Tr34)), 0, 0, ([] : List Tr37)), Tr37.of (x3.un.1, Tr34.of (x3.un.2.1.un.1, x3.un.2.1.un.2.1, x3.un.2.1.un.2.2.1, x3.un.2.1.un.2.2.2), x3.un.2.2.1, x3.un.2.2.2.1, x3.un.2.2.2.2)] : List Tr37)), Tr37.of (3, Tr34.of (0, 0, 0, ([] : List Tr34)), 0, 0, ([Tr37.of (x3.un.1, Tr34.of (x3.un.2.1.un.1, x3.un.2.1.un.2.1, x3.un.2.1.un.2.2.1, x3.un.2.1.un.2.2.2), x3.un.2.2.1, x3.un.2.2.2.1, x3.un.2.2.2.2), Tr37.of (1, Tr34.of (1, 0, 0, ([] : List Tr34)), 0, 0, ([] : List Tr37))] : List Tr37)), Tr37.of (4, Tr34.of (0, 0, 0, ([] : List Tr34)), 0, 0, ([Tr37.of (1, Tr34.of (2, 0, 0, ([] : List Tr34)), 0, 0, ([] : List Tr37)), Tr37.of (x3.un.1, Tr34.of (x3.un.2.1.un.1, x3.un.2.1.un.2.1, x3.un.2.1.un.2.2.1, x3.un.2.1.un.2.2.2), x3.un.2.2.1, x3.un.2.2.2.1, x3.un.2.2.2.2)] : List Tr37)), Tr37.of (3, Tr34.of (0, 0, 0, ([] : List Tr34)), 0, 0, ([Tr37.of (1, Tr34.of (2, 0, 0, ([] : List Tr34)), 0, 0, ([] : List Tr37)), Tr37.of (x3.un.1, Tr34.of (x3.un.2.1.un.1, x3.un.2.1.un.2.1, x3.un.2.1.un.2.2.1, x3.un.2.1.un.2.2.2), x3.un.2.2.1, x3.un.2.2.2.1, x3.un.2.2.2.2)] : List Tr37)), Tr37.of (3, Tr34.of (0, 0, 0, ([] : List Tr34)), 0, 0, ([Tr37.of (x3.un.1, Tr34.of (x3.un.2.1.un.1, x3.un.2.1.un.2.1, x3.un.2.1.un.2.2.1, x3.un.2.1.un.2.2.2), x3.un.2.2.1, x3.un.2.2.2.1, x3.un.2.2.2.2), Tr37.of (1, Tr34.of (2, 0, 0, ([] : List Tr34)), 0, 0, ([] : List Tr37))] : List Tr37))] : List Tr37), Ef v5 CC x3.un.2.1.un.2.2.2, Ef v6 De x3.un.2.2.2.2]) (List.Sublist.refl _) (List.Sublist.cons_cons _ (List.Sublist.cons_cons _ (List.Sublist.cons_cons _ (List.Sublist.cons_cons _ (List.nil_sublist _)))))
     exact ⟨_, H, W.ra Aa, F⟩
    have H := B7 (by rw [hb]; decide) H
    rw [hb] at W
    clear hb
    iterate 8 refine PO W Aa (A7 W Aa Aa Aa Aa Aa) Aa Aa Aa fun a W => ?_
    refine Dr Aa ?_
    refine VR W Aa Aa Aa Aa Aa Aa Aa fun a W => ?_
    refine Bl (N2 := []) (NZ2 := []) (N3 := [(some 14, b2, [.int .i64 p6.1, .int .i64 p6.2.1, .int .i64 p6.2.2.1, .int .i64 p6.2.2.2])]) (NZ3 := [(some 4, row v13 37 FW v15), (some 14, row v13 37 FW v15)]) F Aa Aa (all_cons (fun h => Ah (by kernel_rfl) h) Ag) (all_cons (fun h => Ah (by kernel_rfl) h) (all_cons (fun h => Ah (by kernel_rfl) h) Ag)) ?_
    refine Dr Aa ?_
    refine VR W Aa Aa Aa Aa Aa Aa Aa fun a W => ?_
    refine Bl (N2 := []) (NZ2 := []) (N3 := [(some 14, b2, [.int .i64 p6.1, .int .i64 p6.2.1, .int .i64 p6.2.2.1, .int .i64 p6.2.2.2])]) (NZ3 := [(some 4, row v13 37 FW v15), (some 14, row v13 37 FW v15)]) F Aa Aa (all_cons (fun h => Ah (by kernel_rfl) h) Ag) (all_cons (fun h => Ah (by kernel_rfl) h) (all_cons (fun h => Ah (by kernel_rfl) h) Ag)) ?_
    refine PO W Aa (A7 W Aa Aa Aa Aa Aa) Aa Aa Aa fun a W => ?_
    refine Bo (R := []) W Aa Aa (yC fun M Z hN hZ => Br W Aa Aa Aa) Aa Aa fun a W => ?_
    refine Fw ?_
    have F := F.note (F.rowAt (k := 4) Aa h11 (Ai.snd (Ai.fst (Ai.snd (Ai.snd (Ai.snd Ai.here))))) (congrArg (fun q : Tr37 => q.un.2.1.un.2.2.2) h12))
    have F := F.note (F.rowAt (k := 5) Aa h11 (Ai.snd (Ai.snd (Ai.snd (Ai.snd Ai.here)))) (congrArg (fun q : Tr37 => q.un.2.2.2.2) h12))
    refine Ac ?_
    have F := F.frontZ (i := 6) Aa Aa
    have F := F.hideR EE h7
    have F := F.frontZ (i := 6) Aa Aa
    have F := F.hideF CG h8
    have F := F.frontZ (i := 6) Aa Aa
    have F := F.hideF EE h9
    have F := F.frontZ (i := 1) Aa Aa
    have F := F.frontZ (i := 2) Aa Aa
    have F := F.frontZ (i := 7) Aa Aa
    have F := F.frontM (i := 4) Aa Aa
    have F := F.frontM (i := 4) Aa Aa
    have F := F.frontM (i := 4) Aa Aa
    have F := F.frontM (i := 4) Aa Aa
    have F := F.frontM (i := 4) Aa Aa
    have F := F.sub (M' := [(b5, (GE)), (b4, (GI)), (b3, (CX x3 v5 v6)), (b2, (F8 p6)), (b1, (Fv p0 v1 v2))]) (Z' := [Ef v7 Bg x4, row v13 37 De ([Tr37.of (3, Tr34.of (0, 0, 0, ([] : List Tr34)), 0, 0, ([Tr37.of (1, Tr34.of (1, 0, 0, ([] : List Tr34)), 0, 0, ([] : List Tr37)), Tr37.of (x3.un.1, Tr34.of (x3.un.2.1.un.1, x3.un.2.1.un.2.1, x3.un.2.1.un.2.2.1, x3.un.2.1.un.2.2.2), x3.un.2.2.1, x3.un.2.2.2.1, x3.un.2.2.2.2)] : List Tr37)), Tr37.of (3, Tr34.of (0, 0, 0, ([] : List Tr34)), 0, 0, ([Tr37.of (x3.un.1, Tr34.of (x3.un.2.1.un.1, x3.un.2.1.un.2.1, x3.un.2.1.un.2.2.1, x3.un.2.1.un.2.2.2), x3.un.2.2.1, x3.un.2.2.2.1, x3.un.2.2.2.2), Tr37.of (1, Tr34.of (1, 0, 0, ([] : List Tr34)), 0, 0, ([] : List Tr37))] : List Tr37)), Tr37.of (4, Tr34.of (0, 0, 0, ([] : List Tr34)), 0, 0, ([Tr37.of (1, Tr34.of (2, 0, 0, ([] : List Tr34)), 0, 0, ([] : List Tr37)), Tr37.of (x3.un.1, Tr34.of (x3.un.2.1.un.1, x3.un.2.1.un.2.1, x3.un.2.1.un.2.2.1, x3.un.2.1.un.2.2.2), x3.un.2.2.1, x3.un.2.2.2.1, x3.un.2.2.2.2)] : List Tr37)), Tr37.of (3, Tr34.of (0, 0, 0, ([] : List Tr34)), 0, 0, ([Tr37.of (1, Tr34.of (2, 0, 0, ([] : List Tr34)), 0, 0, ([] : List Tr37)), Tr37.of (x3.un.1, Tr34.of (x3.un.2.1.un.1, x3.un.2.1.un.2.1, x3.un.2.1.un.2.2.1, x3.un.2.1.un.2.2.2), x3.un.2.2.1, x3.un.2.2.2.1, x3.un.2.2.2.2)] : List Tr37)), Tr37.of (3, Tr34.of (0, 0, 0, ([] : List Tr34)), 0, 0, ([Tr37.of (x3.un.1, Tr34.of (x3.un.2.1.un.1, x3.un.2.1.un.2.1, x3.un.2.1.un.2.2.1, x3.un.2.1.un.2.2.2), x3.un.2.2.1, x3.un.2.2.2.1, x3.un.2.2.2.2), Tr37.of (1, Tr34.of (2, 0, 0, ([] : List Tr34)), 0, 0, ([] : List Tr37))] : List Tr37))] : List Tr37), Ef v5 CC x3.un.2.1.un.2.2.2, Ef v6 De x3.un.2.2.2.2]) (List.Sublist.refl _) (List.Sublist.cons_cons _ (List.Sublist.cons_cons _ (List.Sublist.cons_cons _ (List.Sublist.cons_cons _ (List.nil_sublist _)))))
    exact ⟨_, H, W.ra Aa, F⟩
   rintro a w ⟨x7, hj, W, F⟩
   have hj := AA hj
   subst hj
   have H := K4
   clear G4 K4
   refine Cz W Aa H (fun W H => ?_) fun W H => ?_
   ·
    refine vc tk 5 W F fun a w W F => ?_
    refine Ak (AD ?_)
    iterate 2 refine Ay ?_
    refine AD (Ay ?_)
    have H := L2 _ H
    have H := L1 _ H
    have H := AA H
    subst H
    refine Au (.inl Aa) W F Aa (Am W Aa) ?_
    exact ⟨rfl, F.done⟩
   refine AX (AG ?_)
   refine vn tk 5 W F fun a w W F => ?_
   refine Ac ?_
   have F := F.frontZ (i := 3) Aa Aa
   have F := F.frontZ (i := 3) Aa Aa
   have F := F.frontZ (i := 3) Aa Aa
   have F := F.frontZ (i := 3) Aa Aa
   have F := F.frontM (i := 4) Aa Aa
   have F := F.frontM (i := 4) Aa Aa
   have F := F.frontM (i := 4) Aa Aa
   have F := F.frontM (i := 4) Aa Aa
   have F := F.frontM (i := 4) Aa Aa
   exact ⟨_, H, W.ra Aa, F⟩
  refine Bu ?_
  iterate 2 refine BL ?_
  refine Bp (Ac ?_)
  have F := F.frontZ (i := 3) Aa Aa
  have F := F.frontZ (i := 3) Aa Aa
  have F := F.frontM (i := 4) Aa Aa
  have F := F.frontM (i := 4) Aa Aa
  have F := F.frontM (i := 4) Aa Aa
  have F := F.frontM (i := 4) Aa Aa
  have F := F.frontM (i := 4) Aa Aa
  have F := F.sub (M' := [(b5, (GE)), (b4, (GI)), (b3, (CX x3 v5 v6)), (b2, (F8 p6)), (b1, (Fv p0 v1 v2))]) (Z' := [Ef v5 CC x3.un.2.1.un.2.2.2, Ef v6 De x3.un.2.2.2.2]) (List.Sublist.refl _) (List.Sublist.cons_cons _ (List.Sublist.cons_cons _ (List.nil_sublist _)))
  have H := L2 _ H
  exact ⟨H, W.ra Aa, F⟩
 rintro a w ⟨hj, W, F⟩
 have H := K1 _ hj
 clear hj G1 K1 L1
 refine vc tk 4 W F fun a w W F => ?_
 refine ls W F Aa (CB (v := Value.agg #[.int .i64 2, .int .i64 0, .int .i64 0, .int .i64 0, .slice none 0 0, .int .i64 p1, .int .i64 p2, .slice none 0 0]) Q8 W Aa Aa Aa).q fun a w W F => ?_
 refine vl tk 2 W F fun a w W F => ?_
 refine ls W F Aa (CB (v := Value.agg #[.int .i64 2, .int .i64 0, .int .i64 0, .int .i64 0, .slice none 0 0, .int .i64 p1, .int .i64 p3, .slice none 0 0]) Q8 W Aa Aa Aa).q fun a w W F => ?_
 refine B9 (cs := (F6)) W F Aa Mc Aa fun b6 a w W F => ?_
 refine B9 (cs := (F6)) W F Aa Mc Aa fun b7 a w W F => ?_
 refine Ed 1 W F Aa Aa Aa II Aa Aa Aa fun w F => ?_
 refine Ed 0 W F Aa Aa Aa II Aa Aa Aa fun w F => ?_
 refine FC tk 6 [1, 0] W F (ai (ai fun a w W F => ?_))
 refine Ht (z := Value.agg #[.int .i64 0, .int .i64 0, .int .i64 0, .int .i64 0, .slice none 0 0, .int .i64 0, .int .i64 0, .slice none 0 0]) (cs := [.int .i64 2, .int .i64 0, .int .i64 0, .int .i64 0, .slice none 0 0, .int .i64 p1, .int .i64 p2, .slice none 0 0, .int .i64 2, .int .i64 0, .int .i64 0, .int .i64 0, .slice none 0 0, .int .i64 p1, .int .i64 p3, .slice none 0 0]) De ([Tr37.of (2, Tr34.of (0, 0, 0, ([] : List Tr34)), p1, p2, ([] : List Tr37)), Tr37.of (2, Tr34.of (0, 0, 0, ([] : List Tr34)), p1, p3, ([] : List Tr37))] : List Tr37) W F Aa O0 Mc Aa Aa Aa (A8 Aa Aa Aa (A8 Aa Aa Aa C5)) Aa Aa ⟨[Value.int .i64 2, Value.int .i64 0, Value.int .i64 0, Value.int .i64 0, Value.slice none 0 0, Value.int .i64 p1, Value.int .i64 p2, Value.slice none 0 0], _, Aa, (IZ.2 ⟨[Value.int .i64 2], [Value.int .i64 0, Value.int .i64 0, Value.int .i64 0, Value.slice none 0 0, Value.int .i64 p1, Value.int .i64 p2, Value.slice none 0 0], Aa, Aa, ⟨[Value.int .i64 0, Value.int .i64 0, Value.int .i64 0, Value.slice none 0 0], [Value.int .i64 p1, Value.int .i64 p2, Value.slice none 0 0], Aa, (IF.2 ⟨[Value.int .i64 0], [Value.int .i64 0, Value.int .i64 0, Value.slice none 0 0], Aa, Aa, ⟨[Value.int .i64 0], [Value.int .i64 0, Value.slice none 0 0], Aa, Aa, ⟨[Value.int .i64 0], [Value.slice none 0 0], Aa, Aa, ⟨_, Aa, (Sl.nil (r := CC))⟩⟩⟩⟩), ⟨[Value.int .i64 p1], [Value.int .i64 p2, Value.slice none 0 0], Aa, Aa, ⟨[Value.int .i64 p2], [Value.slice none 0 0], Aa, Aa, ⟨_, Aa, (Sl.nil (r := De))⟩⟩⟩⟩⟩), ⟨[Value.int .i64 2, Value.int .i64 0, Value.int .i64 0, Value.int .i64 0, Value.slice none 0 0, Value.int .i64 p1, Value.int .i64 p3, Value.slice none 0 0], _, Aa, (IZ.2 ⟨[Value.int .i64 2], [Value.int .i64 0, Value.int .i64 0, Value.int .i64 0, Value.slice none 0 0, Value.int .i64 p1, Value.int .i64 p3, Value.slice none 0 0], Aa, Aa, ⟨[Value.int .i64 0, Value.int .i64 0, Value.int .i64 0, Value.slice none 0 0], [Value.int .i64 p1, Value.int .i64 p3, Value.slice none 0 0], Aa, (IF.2 ⟨[Value.int .i64 0], [Value.int .i64 0, Value.int .i64 0, Value.slice none 0 0], Aa, Aa, ⟨[Value.int .i64 0], [Value.int .i64 0, Value.slice none 0 0], Aa, Aa, ⟨[Value.int .i64 0], [Value.slice none 0 0], Aa, Aa, ⟨_, Aa, (Sl.nil (r := CC))⟩⟩⟩⟩), ⟨[Value.int .i64 p1], [Value.int .i64 p3, Value.slice none 0 0], Aa, Aa, ⟨[Value.int .i64 p3], [Value.slice none 0 0], Aa, Aa, ⟨_, Aa, (Sl.nil (r := De))⟩⟩⟩⟩⟩), Aa⟩⟩ fun v23 a w W F => ?_
 refine ls W F Aa (CB (v := Value.agg #[.int .i64 3, .int .i64 0, .int .i64 0, .int .i64 0, .slice none 0 0, .int .i64 0, .int .i64 0, v23]) Q8 W Aa (A8 Aa Aa Aa (A8 Aa (Gr (F.one (k := 0) Aa)) Aa C5)) Aa).q fun a w W F => ?_
 refine B9 (cs := (F6)) W F Aa Mc Aa fun b8 a w W F => ?_
 refine Ed 0 W F Aa Aa Aa II Aa Aa (Ae Aa (Ae Aa (Ae Aa (Ae Aa (Ae Aa (Ae Aa (Ae Aa (Ae (F.one (k := 0) Aa) Df)))))))) fun w F => ?_
 refine Ew (Ac ?_)
 obtain ⟨o5, G5, K5⟩ := Ad H
 refine Ax (fun a w => ∃ x14 : Bool, ∃ x15 : List Tr37, some ((x14, x15)) = some o5 ∧ Fr 119 [] [(14, .bool x14)] a ∧ Stw ⟨Y, [], w0⟩ [(b8, (JA v23)), (b7, (Hu p1 p3)), (b6, (Hu p1 p2)), (b5, (GE)), (b4, (GI)), (b3, (CX x3 v5 v6)), (b2, (F8 p6)), (b1, (Fv p0 v1 v2))] [Ef v23 De x15, Ef v5 CC x3.un.2.1.un.2.2.2, Ef v6 De x3.un.2.2.2.2] w) ?_ ?_
 ·
  have H := G5
  clear G5 K5
  refine D6 [(true, 0), (false, 1), (false, 2), (true, 3), (true, 4), (true, 5), (true, 6), (true, 7), (true, 8), (true, 10), (true, 11), (true, 12), (true, 13), (false, 9), (false, 14), (false, 15), (true, 16), (true, 17), (false, 18), (true, 19), (false, 20)] (CN ⟨Y, [], w0⟩ [(some 1, b8, [.int .i64 3, .int .i64 0, .int .i64 0, .int .i64 0, .slice none 0 0, .int .i64 0, .int .i64 0, v23])] []) (fun ch a d v w h => by cases d <;> exact h) MO (by kernel_rfl) F (fun w F => ⟨_, _, F, (all_cons (fun _ => (.head _)) Ag), Ag⟩) fun w F => ?_
  refine Bo (R := [1]) W Aa Aa (yC fun M Z hN hZ => CF (cs := (JA v23)) (v := Value.agg #[.int .i64 3, .int .i64 0, .int .i64 0, .int .i64 0, .slice none 0 0, .int .i64 0, .int .i64 0, v23]) W Aa (hN ((some 1), b8, (JA v23)) (.head _) Aa) II Aa) (by kernel_rfl) Aa fun a W => ?_
  refine Dr Aa ?_
  obtain ⟨x16, h22, H⟩ := Ad H
  refine Bv (Ml := []) (Zl := []) (β := Value × Value) (rv := fun x => .agg #[.int .i64 x16.un.1, .int .i64 x16.un.2.1.un.1, .int .i64 x16.un.2.1.un.2.1, .int .i64 x16.un.2.1.un.2.2.1, x.1, .int .i64 x16.un.2.2.1, .int .i64 x16.un.2.2.2.1, x.2]) (MM := fun x => []) (ZZ := fun x => [row x.1 24 DO x16.un.2.1.un.2.2.2, row x.2 27 GN x16.un.2.2.2.2]) W F XO Aa Aa (fun hL => LE _ w (Value.slice none 0 0) (v23) (Tr37.of (3, Tr34.of (0, 0, 0, ([] : List Tr34)), 0, 0, ([Tr37.of (2, Tr34.of (0, 0, 0, ([] : List Tr34)), p1, p2, ([] : List Tr37)), Tr37.of (2, Tr34.of (0, 0, 0, ([] : List Tr34)), p1, p3, ([] : List Tr37))] : List Tr37))) _ h22 Sl.nil ((Aj 0 Aa) w F).nx) fun x a w W F => ?_
  obtain ⟨v24, v25⟩ := x
  have F : Stw ⟨Y, [], w0⟩ [(b8, (JA v23)), (b7, (Hu p1 p3)), (b6, (Hu p1 p2)), (b5, (GE)), (b4, (GI)), (b3, (CX x3 v5 v6)), (b2, (F8 p6)), (b1, (Fv p0 v1 v2))] [row v24 24 DO x16.un.2.1.un.2.2.2, row v25 27 GN x16.un.2.2.2.2, row v23 37 De ([Tr37.of (2, Tr34.of (0, 0, 0, ([] : List Tr34)), p1, p2, ([] : List Tr37)), Tr37.of (2, Tr34.of (0, 0, 0, ([] : List Tr34)), p1, p3, ([] : List Tr37))] : List Tr37), Ef v5 CC x3.un.2.1.un.2.2.2, Ef v6 De x3.un.2.2.2.2] w := F
  refine Bl (N2 := []) (NZ2 := []) (N3 := [(some 1, b8, [.int .i64 3, .int .i64 0, .int .i64 0, .int .i64 0, .slice none 0 0, .int .i64 0, .int .i64 0, v23])]) (NZ3 := []) F Aa Aa (all_cons (fun h => Ah (by kernel_rfl) h) Ag) Ag ?_
  refine Dr Aa ?_
  obtain ⟨x17, h23, H⟩ := Ad H
  refine ls W F Aa (AK (v := Value.bool x17) W Xr Aa (fun w F => J8 any w (v24) (v25) (Tr27.of (x16.un.1, Tr24.of (x16.un.2.1.un.1, x16.un.2.1.un.2.1, x16.un.2.1.un.2.2.1, x16.un.2.1.un.2.2.2), x16.un.2.2.1, x16.un.2.2.2.1, x16.un.2.2.2.2)) _ h23 (Ek (Aj 0 Aa) F) (Ek (Aj 1 Aa) F))) fun a w W F => ?_
  refine Bl (N2 := [(some 9, b8, [.int .i64 3, .int .i64 0, .int .i64 0, .int .i64 0, .slice none 0 0, .int .i64 0, .int .i64 0, v23]), (some 9, b2, [.int .i64 p6.1, .int .i64 p6.2.1, .int .i64 p6.2.2.1, .int .i64 p6.2.2.2]), (some 14, b7, [.int .i64 2, .int .i64 0, .int .i64 0, .int .i64 0, .slice none 0 0, .int .i64 p1, .int .i64 p3, .slice none 0 0]), (some 14, b2, [.int .i64 p6.1, .int .i64 p6.2.1, .int .i64 p6.2.2.1, .int .i64 p6.2.2.2])]) (NZ2 := []) (N3 := [(some 1, b8, [.int .i64 3, .int .i64 0, .int .i64 0, .int .i64 0, .slice none 0 0, .int .i64 0, .int .i64 0, v23]), (some 9, b8, [.int .i64 3, .int .i64 0, .int .i64 0, .int .i64 0, .slice none 0 0, .int .i64 0, .int .i64 0, v23]), (some 9, b2, [.int .i64 p6.1, .int .i64 p6.2.1, .int .i64 p6.2.2.1, .int .i64 p6.2.2.2]), (some 14, b7, [.int .i64 2, .int .i64 0, .int .i64 0, .int .i64 0, .slice none 0 0, .int .i64 p1, .int .i64 p3, .slice none 0 0]), (some 14, b2, [.int .i64 p6.1, .int .i64 p6.2.1, .int .i64 p6.2.2.1, .int .i64 p6.2.2.2])]) (NZ3 := []) F Aa Aa (all_cons (fun h => Ah (by kernel_rfl) h) (all_cons (fun _ => (.head _)) (all_cons (fun _ => (.tail _ (.tail _ (.tail _ (.tail _ (.tail _ (.tail _ (.head _)))))))) (all_cons (fun _ => (.tail _ (.head _))) (all_cons (fun _ => (.tail _ (.tail _ (.tail _ (.tail _ (.tail _ (.tail _ (.head _)))))))) Ag))))) Ag ?_
  refine Bo (R := []) W Aa Aa (yC fun M Z hN hZ => Js W Aa) Aa Aa fun a W => ?_
  refine Bo (R := []) W Aa Aa (yC fun M Z hN hZ => An W Aa) Aa Aa fun a W => ?_
  rcases Bool.eq_false_or_eq_true (!x17) with hb | hb
  ·
   have H := B8 hb H
   rw [hb] at W
   clear hb
   iterate 8 refine PO W Aa (A7 W Aa Aa Aa Aa Aa) Aa Aa Aa fun a W => ?_
   refine Dr Aa ?_
   refine VR W Aa Aa Aa Aa Aa Aa Aa fun a W => ?_
   refine Bl (N2 := []) (NZ2 := []) (N3 := [(some 1, b8, [.int .i64 3, .int .i64 0, .int .i64 0, .int .i64 0, .slice none 0 0, .int .i64 0, .int .i64 0, v23]), (some 9, b8, [.int .i64 3, .int .i64 0, .int .i64 0, .int .i64 0, .slice none 0 0, .int .i64 0, .int .i64 0, v23]), (some 9, b2, [.int .i64 p6.1, .int .i64 p6.2.1, .int .i64 p6.2.2.1, .int .i64 p6.2.2.2]), (some 14, b7, [.int .i64 2, .int .i64 0, .int .i64 0, .int .i64 0, .slice none 0 0, .int .i64 p1, .int .i64 p3, .slice none 0 0]), (some 14, b2, [.int .i64 p6.1, .int .i64 p6.2.1, .int .i64 p6.2.2.1, .int .i64 p6.2.2.2])]) (NZ3 := []) F Aa Aa (all_cons (fun h => Ah (by kernel_rfl) h) (all_cons (fun h => Ah (by kernel_rfl) h) (all_cons (fun h => Ah (by kernel_rfl) h) (all_cons (fun _ => (.tail _ (.head _))) (all_cons (fun _ => (.tail _ (.tail _ (.tail _ (.tail _ (.tail _ (.tail _ (.head _)))))))) Ag))))) Ag ?_
   refine Dr Aa ?_
   refine VR W Aa Aa Aa Aa Aa Aa Aa fun a W => ?_
   refine Bl (N2 := []) (NZ2 := []) (N3 := [(some 1, b8, [.int .i64 3, .int .i64 0, .int .i64 0, .int .i64 0, .slice none 0 0, .int .i64 0, .int .i64 0, v23]), (some 9, b8, [.int .i64 3, .int .i64 0, .int .i64 0, .int .i64 0, .slice none 0 0, .int .i64 0, .int .i64 0, v23]), (some 9, b2, [.int .i64 p6.1, .int .i64 p6.2.1, .int .i64 p6.2.2.1, .int .i64 p6.2.2.2]), (some 14, b7, [.int .i64 2, .int .i64 0, .int .i64 0, .int .i64 0, .slice none 0 0, .int .i64 p1, .int .i64 p3, .slice none 0 0]), (some 14, b2, [.int .i64 p6.1, .int .i64 p6.2.1, .int .i64 p6.2.2.1, .int .i64 p6.2.2.2])]) (NZ3 := []) F Aa Aa (all_cons (fun h => Ah (by kernel_rfl) h) (all_cons (fun h => Ah (by kernel_rfl) h) (all_cons (fun h => Ah (by kernel_rfl) h) (all_cons (fun h => Ah (by kernel_rfl) h) (all_cons (fun h => Ah (by kernel_rfl) h) Ag))))) Ag ?_
   refine Dr Aa ?_
   refine VR W Aa Aa Aa Aa Aa Aa Aa fun a W => ?_
   refine Bl (N2 := []) (NZ2 := []) (N3 := [(some 1, b8, [.int .i64 3, .int .i64 0, .int .i64 0, .int .i64 0, .slice none 0 0, .int .i64 0, .int .i64 0, v23]), (some 9, b8, [.int .i64 3, .int .i64 0, .int .i64 0, .int .i64 0, .slice none 0 0, .int .i64 0, .int .i64 0, v23]), (some 9, b2, [.int .i64 p6.1, .int .i64 p6.2.1, .int .i64 p6.2.2.1, .int .i64 p6.2.2.2]), (some 14, b7, [.int .i64 2, .int .i64 0, .int .i64 0, .int .i64 0, .slice none 0 0, .int .i64 p1, .int .i64 p3, .slice none 0 0]), (some 14, b2, [.int .i64 p6.1, .int .i64 p6.2.1, .int .i64 p6.2.2.1, .int .i64 p6.2.2.2])]) (NZ3 := []) F Aa Aa (all_cons (fun h => Ah (by kernel_rfl) h) (all_cons (fun h => Ah (by kernel_rfl) h) (all_cons (fun h => Ah (by kernel_rfl) h) (all_cons (fun h => Ah (by kernel_rfl) h) (all_cons (fun h => Ah (by kernel_rfl) h) Ag))))) Ag ?_
   refine Bo (R := []) W Aa Aa (yC fun M Z hN hZ => Bq W Aa Aa Aa) Aa Aa fun a W => ?_
   refine Bo (R := []) W Aa Aa (yC fun M Z hN hZ => An W Aa) Aa Aa fun a W => ?_
   refine Dr Aa ?_
   refine HB (Ab W Aa Aa Aa Aa) ?_
   obtain ⟨x18, h24, H⟩ := Ad H
   refine ls W F Aa (AK (v := Value.bool x18) W H7 Aa (fun w F => JI any w _ h24 (hG.go0 F))) fun a w W F => ?_
   refine Bl (N2 := []) (NZ2 := []) (N3 := [(some 1, b8, [.int .i64 3, .int .i64 0, .int .i64 0, .int .i64 0, .slice none 0 0, .int .i64 0, .int .i64 0, v23]), (some 9, b8, [.int .i64 3, .int .i64 0, .int .i64 0, .int .i64 0, .slice none 0 0, .int .i64 0, .int .i64 0, v23]), (some 9, b2, [.int .i64 p6.1, .int .i64 p6.2.1, .int .i64 p6.2.2.1, .int .i64 p6.2.2.2]), (some 14, b7, [.int .i64 2, .int .i64 0, .int .i64 0, .int .i64 0, .slice none 0 0, .int .i64 p1, .int .i64 p3, .slice none 0 0]), (some 14, b2, [.int .i64 p6.1, .int .i64 p6.2.1, .int .i64 p6.2.2.1, .int .i64 p6.2.2.2])]) (NZ3 := []) F Aa Aa (all_cons (fun h => Ah (by kernel_rfl) h) (all_cons (fun h => Ah (by kernel_rfl) h) (all_cons (fun h => Ah (by kernel_rfl) h) (all_cons (fun h => Ah (by kernel_rfl) h) (all_cons (fun h => Ah (by kernel_rfl) h) Ag))))) Ag ?_
   refine Bo (R := []) W Aa Aa (yC fun M Z hN hZ => Bq W Aa Aa Aa) Aa Aa fun a W => ?_
   refine Dr Aa ?_
   refine ls W F Aa (Bk W Aa).q fun a w W F => ?_
   refine Bl (N2 := []) (NZ2 := []) (N3 := [(some 1, b8, [.int .i64 3, .int .i64 0, .int .i64 0, .int .i64 0, .slice none 0 0, .int .i64 0, .int .i64 0, v23]), (some 9, b8, [.int .i64 3, .int .i64 0, .int .i64 0, .int .i64 0, .slice none 0 0, .int .i64 0, .int .i64 0, v23]), (some 9, b2, [.int .i64 p6.1, .int .i64 p6.2.1, .int .i64 p6.2.2.1, .int .i64 p6.2.2.2]), (some 14, b7, [.int .i64 2, .int .i64 0, .int .i64 0, .int .i64 0, .slice none 0 0, .int .i64 p1, .int .i64 p3, .slice none 0 0]), (some 14, b2, [.int .i64 p6.1, .int .i64 p6.2.1, .int .i64 p6.2.2.1, .int .i64 p6.2.2.2])]) (NZ3 := []) F Aa Aa (all_cons (fun h => Ah (by kernel_rfl) h) (all_cons (fun h => Ah (by kernel_rfl) h) (all_cons (fun h => Ah (by kernel_rfl) h) (all_cons (fun h => Ah (by kernel_rfl) h) (all_cons (fun h => Ah (by kernel_rfl) h) Ag))))) Ag ?_
   refine Fw (Ac ?_)
   have F := F.frontZ (i := 2) Aa Aa
   have F := F.freeze
   have F := F.frontZ (i := 4) Aa Aa
   have F := F.frontZ (i := 4) Aa Aa
   have F := F.frontZ (i := 2) Aa Aa
   have F := F.frontM (i := 7) Aa Aa
   have F := F.frontM (i := 7) Aa Aa
   have F := F.frontM (i := 7) Aa Aa
   have F := F.frontM (i := 7) Aa Aa
   have F := F.frontM (i := 7) Aa Aa
   have F := F.frontM (i := 7) Aa Aa
   have F := F.frontM (i := 7) Aa Aa
   have F := F.frontM (i := 7) Aa Aa
   have F := F.sub (M' := [(b8, (JA v23)), (b7, (Hu p1 p3)), (b6, (Hu p1 p2)), (b5, (GE)), (b4, (GI)), (b3, (CX x3 v5 v6)), (b2, (F8 p6)), (b1, (Fv p0 v1 v2))]) (Z' := [Ef v23 De ([Tr37.of (2, Tr34.of (0, 0, 0, ([] : List Tr34)), p1, p2, ([] : List Tr37)), Tr37.of (2, Tr34.of (0, 0, 0, ([] : List Tr34)), p1, p3, ([] : List Tr37))] : List Tr37), Ef v5 CC x3.un.2.1.un.2.2.2, Ef v6 De x3.un.2.2.2.2]) (List.Sublist.refl _) (List.Sublist.cons_cons _ (List.Sublist.cons_cons _ (List.Sublist.cons_cons _ (List.nil_sublist _))))
   exact ⟨_, _, H, W.ra Aa, F⟩
  have H := B7 (by rw [hb]; decide) H
  rw [hb] at W
  clear hb
  refine Mm (R := [9]) W Aa (Ab W Aa Aa Aa Aa) Aa Aa (yC fun M Z hN hZ => CF (cs := (JA v23)) (v := Value.agg #[.int .i64 3, .int .i64 0, .int .i64 0, .int .i64 0, .slice none 0 0, .int .i64 0, .int .i64 0, v23]) W Aa (hN ((some 9), b8, (JA v23)) (.tail _ (.head _)) Aa) II Aa) (by kernel_rfl) Aa fun a W => ?_
  iterate 2 refine Mm (R := []) W Aa (Ab W Aa Aa Aa Aa) Aa Aa (yC fun M Z hN hZ => An W Aa) Aa Aa fun a W => ?_
  refine Mm (R := [9]) W Aa (Ab W Aa Aa Aa Aa) Aa Aa (yC fun M Z hN hZ => CF (cs := (F8 p6)) (v := Value.agg #[.int .i64 p6.1, .int .i64 p6.2.1, .int .i64 p6.2.2.1, .int .i64 p6.2.2.2]) W Aa (hN ((some 9), b2, (F8 p6)) (.tail _ (.tail _ (.head _))) Aa) SR Aa) (by kernel_rfl) Aa fun a W => ?_
  refine Mm (R := [14]) W Aa (Ab W Aa Aa Aa Aa) Aa Aa (yC fun M Z hN hZ => CF (cs := (Hu p1 p3)) (v := Value.agg #[.int .i64 2, .int .i64 0, .int .i64 0, .int .i64 0, .slice none 0 0, .int .i64 p1, .int .i64 p3, .slice none 0 0]) W Aa (hN ((some 14), b7, (Hu p1 p3)) (.tail _ (.tail _ (.tail _ (.head _)))) Aa) II Aa) (by kernel_rfl) Aa fun a W => ?_
  iterate 2 refine Mm (R := []) W Aa (Ab W Aa Aa Aa Aa) Aa Aa (yC fun M Z hN hZ => An W Aa) Aa Aa fun a W => ?_
  refine Mm (R := [14]) W Aa (Ab W Aa Aa Aa Aa) Aa Aa (yC fun M Z hN hZ => CF (cs := (F8 p6)) (v := Value.agg #[.int .i64 p6.1, .int .i64 p6.2.1, .int .i64 p6.2.2.1, .int .i64 p6.2.2.2]) W Aa (hN ((some 14), b2, (F8 p6)) (.tail _ (.tail _ (.tail _ (.tail _ (.head _))))) Aa) SR Aa) (by kernel_rfl) Aa fun a W => ?_
  refine Dr Aa ?_
  refine HB (Ab W Aa Aa Aa Aa) ?_
  obtain ⟨x19, h25, H⟩ := Ad H
  have F := F.frontZ (i := 2) Aa Aa
  have F := F.freeze
  refine Bv (Ml := []) (Zl := []) (β := Value) (rv := fun x => x) (MM := fun x => []) (ZZ := fun x => [row x 63 Bg x19]) W F Wk Aa Aa (fun hL => GH _ w (Value.slice none 0 0) (v23) (Tr37.of (3, Tr34.of (0, 0, 0, ([] : List Tr34)), 0, 0, ([Tr37.of (2, Tr34.of (0, 0, 0, ([] : List Tr34)), p1, p2, ([] : List Tr37)), Tr37.of (2, Tr34.of (0, 0, 0, ([] : List Tr34)), p1, p3, ([] : List Tr37))] : List Tr37))) p4 p5 p6 _ h25 Sl.nil (F.item (i := 0) Aa)) fun x a w W F => ?_
  obtain ⟨v26, rfl⟩ : ∃ y, y = x := ⟨x, rfl⟩
  have F : Stw ⟨Y, [], w0⟩ [(b8, (JA v23)), (b7, (Hu p1 p3)), (b6, (Hu p1 p2)), (b5, (GE)), (b4, (GI)), (b3, (CX x3 v5 v6)), (b2, (F8 p6)), (b1, (Fv p0 v1 v2))] [row v26 63 Bg x19, Ef v23 De ([Tr37.of (2, Tr34.of (0, 0, 0, ([] : List Tr34)), p1, p2, ([] : List Tr37)), Tr37.of (2, Tr34.of (0, 0, 0, ([] : List Tr34)), p1, p3, ([] : List Tr37))] : List Tr37), row v24 24 DO x16.un.2.1.un.2.2.2, row v25 27 GN x16.un.2.2.2.2, Ef v5 CC x3.un.2.1.un.2.2.2, Ef v6 De x3.un.2.2.2.2] w := F
  refine Bl (N2 := []) (NZ2 := []) (N3 := [(some 1, b8, [.int .i64 3, .int .i64 0, .int .i64 0, .int .i64 0, .slice none 0 0, .int .i64 0, .int .i64 0, v23]), (some 9, b8, [.int .i64 3, .int .i64 0, .int .i64 0, .int .i64 0, .slice none 0 0, .int .i64 0, .int .i64 0, v23]), (some 9, b2, [.int .i64 p6.1, .int .i64 p6.2.1, .int .i64 p6.2.2.1, .int .i64 p6.2.2.2]), (some 14, b7, [.int .i64 2, .int .i64 0, .int .i64 0, .int .i64 0, .slice none 0 0, .int .i64 p1, .int .i64 p3, .slice none 0 0]), (some 14, b2, [.int .i64 p6.1, .int .i64 p6.2.1, .int .i64 p6.2.2.1, .int .i64 p6.2.2.2])]) (NZ3 := []) F Aa Aa (all_cons (fun h => Ah (by kernel_rfl) h) (all_cons (fun h => Ah (by kernel_rfl) h) (all_cons (fun h => Ah (by kernel_rfl) h) (all_cons (fun _ => (.tail _ (.head _))) (all_cons (fun _ => (.tail _ (.tail _ (.tail _ (.tail _ (.tail _ (.tail _ (.head _)))))))) Ag))))) Ag ?_
  refine Dr Aa ?_
  refine HB (Ab W Aa Aa Aa Aa) ?_
  obtain ⟨x20, h26, H⟩ := Ad H
  refine Bv (Ml := []) (Zl := []) (β := Value) (rv := fun x => x) (MM := fun x => []) (ZZ := fun x => [row x 63 Bg x20]) W F Wk Aa Aa (fun hL => GH _ w (Value.slice none 0 0) (Value.slice none 0 0) (Tr37.of (2, Tr34.of (0, 0, 0, ([] : List Tr34)), p1, p3, ([] : List Tr37))) p4 p5 p6 _ h26 Sl.nil Sl.nil) fun x a w W F => ?_
  obtain ⟨v27, rfl⟩ : ∃ y, y = x := ⟨x, rfl⟩
  have F : Stw ⟨Y, [], w0⟩ [(b8, (JA v23)), (b7, (Hu p1 p3)), (b6, (Hu p1 p2)), (b5, (GE)), (b4, (GI)), (b3, (CX x3 v5 v6)), (b2, (F8 p6)), (b1, (Fv p0 v1 v2))] [row v27 63 Bg x20, row v26 63 Bg x19, Ef v23 De ([Tr37.of (2, Tr34.of (0, 0, 0, ([] : List Tr34)), p1, p2, ([] : List Tr37)), Tr37.of (2, Tr34.of (0, 0, 0, ([] : List Tr34)), p1, p3, ([] : List Tr37))] : List Tr37), row v24 24 DO x16.un.2.1.un.2.2.2, row v25 27 GN x16.un.2.2.2.2, Ef v5 CC x3.un.2.1.un.2.2.2, Ef v6 De x3.un.2.2.2.2] w := F
  refine Bl (N2 := []) (NZ2 := []) (N3 := [(some 1, b8, [.int .i64 3, .int .i64 0, .int .i64 0, .int .i64 0, .slice none 0 0, .int .i64 0, .int .i64 0, v23]), (some 9, b8, [.int .i64 3, .int .i64 0, .int .i64 0, .int .i64 0, .slice none 0 0, .int .i64 0, .int .i64 0, v23]), (some 9, b2, [.int .i64 p6.1, .int .i64 p6.2.1, .int .i64 p6.2.2.1, .int .i64 p6.2.2.2]), (some 14, b7, [.int .i64 2, .int .i64 0, .int .i64 0, .int .i64 0, .slice none 0 0, .int .i64 p1, .int .i64 p3, .slice none 0 0]), (some 14, b2, [.int .i64 p6.1, .int .i64 p6.2.1, .int .i64 p6.2.2.1, .int .i64 p6.2.2.2])]) (NZ3 := []) F Aa Aa (all_cons (fun h => Ah (by kernel_rfl) h) (all_cons (fun h => Ah (by kernel_rfl) h) (all_cons (fun h => Ah (by kernel_rfl) h) (all_cons (fun h => Ah (by kernel_rfl) h) (all_cons (fun h => Ah (by kernel_rfl) h) Ag))))) Ag ?_
  refine Dr Aa ?_
  refine HB (Ab W Aa Aa Aa Aa) ?_
  obtain ⟨x21, h27, H⟩ := Ad H
  refine ls W F Aa (AK (v := Value.bool x21) W XW Aa (fun w F => Oz any w (v26) (v27) x19 x20 _ h27 (Ek (Aj 1 Aa) F) (Ek (Aj 0 Aa) F))) fun a w W F => ?_
  refine Bl (N2 := []) (NZ2 := []) (N3 := [(some 1, b8, [.int .i64 3, .int .i64 0, .int .i64 0, .int .i64 0, .slice none 0 0, .int .i64 0, .int .i64 0, v23]), (some 9, b8, [.int .i64 3, .int .i64 0, .int .i64 0, .int .i64 0, .slice none 0 0, .int .i64 0, .int .i64 0, v23]), (some 9, b2, [.int .i64 p6.1, .int .i64 p6.2.1, .int .i64 p6.2.2.1, .int .i64 p6.2.2.2]), (some 14, b7, [.int .i64 2, .int .i64 0, .int .i64 0, .int .i64 0, .slice none 0 0, .int .i64 p1, .int .i64 p3, .slice none 0 0]), (some 14, b2, [.int .i64 p6.1, .int .i64 p6.2.1, .int .i64 p6.2.2.1, .int .i64 p6.2.2.2])]) (NZ3 := []) F Aa Aa (all_cons (fun h => Ah (by kernel_rfl) h) (all_cons (fun h => Ah (by kernel_rfl) h) (all_cons (fun h => Ah (by kernel_rfl) h) (all_cons (fun h => Ah (by kernel_rfl) h) (all_cons (fun h => Ah (by kernel_rfl) h) Ag))))) Ag ?_
  refine Bo (R := []) W Aa Aa (yC fun M Z hN hZ => Br W Aa Aa Aa) Aa Aa fun a W => ?_
  refine Bo (R := []) W Aa Aa (yC fun M Z hN hZ => An W Aa) Aa Aa fun a W => ?_
  rcases Bool.eq_false_or_eq_true x21 with hb | hb
  ·
   have H := B8 hb H
   rw [hb] at W
   clear hb
   refine Dr Aa ?_
   refine HB (Ab W Aa Aa Aa Aa) ?_
   obtain ⟨x22, h28, H⟩ := Ad H
   refine ls W F Aa (AK (v := Value.bool x22) W H7 Aa (fun w F => JI any w _ h28 (hG.go0 F))) fun a w W F => ?_
   refine Bl (N2 := []) (NZ2 := []) (N3 := [(some 1, b8, [.int .i64 3, .int .i64 0, .int .i64 0, .int .i64 0, .slice none 0 0, .int .i64 0, .int .i64 0, v23]), (some 9, b8, [.int .i64 3, .int .i64 0, .int .i64 0, .int .i64 0, .slice none 0 0, .int .i64 0, .int .i64 0, v23]), (some 9, b2, [.int .i64 p6.1, .int .i64 p6.2.1, .int .i64 p6.2.2.1, .int .i64 p6.2.2.2]), (some 14, b7, [.int .i64 2, .int .i64 0, .int .i64 0, .int .i64 0, .slice none 0 0, .int .i64 p1, .int .i64 p3, .slice none 0 0]), (some 14, b2, [.int .i64 p6.1, .int .i64 p6.2.1, .int .i64 p6.2.2.1, .int .i64 p6.2.2.2])]) (NZ3 := []) F Aa Aa (all_cons (fun h => Ah (by kernel_rfl) h) (all_cons (fun h => Ah (by kernel_rfl) h) (all_cons (fun h => Ah (by kernel_rfl) h) (all_cons (fun h => Ah (by kernel_rfl) h) (all_cons (fun h => Ah (by kernel_rfl) h) Ag))))) Ag ?_
   refine Bo (R := []) W Aa Aa (yC fun M Z hN hZ => Bq W Aa Aa Aa) Aa Aa fun a W => ?_
   refine Dr Aa ?_
   refine ls W F Aa (Bk W Aa).q fun a w W F => ?_
   refine Bl (N2 := []) (NZ2 := []) (N3 := [(some 1, b8, [.int .i64 3, .int .i64 0, .int .i64 0, .int .i64 0, .slice none 0 0, .int .i64 0, .int .i64 0, v23]), (some 9, b8, [.int .i64 3, .int .i64 0, .int .i64 0, .int .i64 0, .slice none 0 0, .int .i64 0, .int .i64 0, v23]), (some 9, b2, [.int .i64 p6.1, .int .i64 p6.2.1, .int .i64 p6.2.2.1, .int .i64 p6.2.2.2]), (some 14, b7, [.int .i64 2, .int .i64 0, .int .i64 0, .int .i64 0, .slice none 0 0, .int .i64 p1, .int .i64 p3, .slice none 0 0]), (some 14, b2, [.int .i64 p6.1, .int .i64 p6.2.1, .int .i64 p6.2.2.1, .int .i64 p6.2.2.2])]) (NZ3 := []) F Aa Aa (all_cons (fun h => Ah (by kernel_rfl) h) (all_cons (fun h => Ah (by kernel_rfl) h) (all_cons (fun h => Ah (by kernel_rfl) h) (all_cons (fun h => Ah (by kernel_rfl) h) (all_cons (fun h => Ah (by kernel_rfl) h) Ag))))) Ag ?_
   refine Fw (Ac ?_)
   have F := F.frontZ (i := 6) Aa Aa
   have F := F.frontZ (i := 6) Aa Aa
   have F := F.frontZ (i := 4) Aa Aa
   have F := F.frontM (i := 7) Aa Aa
   have F := F.frontM (i := 7) Aa Aa
   have F := F.frontM (i := 7) Aa Aa
   have F := F.frontM (i := 7) Aa Aa
   have F := F.frontM (i := 7) Aa Aa
   have F := F.frontM (i := 7) Aa Aa
   have F := F.frontM (i := 7) Aa Aa
   have F := F.frontM (i := 7) Aa Aa
   have F := F.sub (M' := [(b8, (JA v23)), (b7, (Hu p1 p3)), (b6, (Hu p1 p2)), (b5, (GE)), (b4, (GI)), (b3, (CX x3 v5 v6)), (b2, (F8 p6)), (b1, (Fv p0 v1 v2))]) (Z' := [Ef v23 De ([Tr37.of (2, Tr34.of (0, 0, 0, ([] : List Tr34)), p1, p2, ([] : List Tr37)), Tr37.of (2, Tr34.of (0, 0, 0, ([] : List Tr34)), p1, p3, ([] : List Tr37))] : List Tr37), Ef v5 CC x3.un.2.1.un.2.2.2, Ef v6 De x3.un.2.2.2.2]) (List.Sublist.refl _) (List.Sublist.cons_cons _ (List.Sublist.cons_cons _ (List.Sublist.cons_cons _ (List.nil_sublist _))))
   exact ⟨_, _, H, W.ra Aa, F⟩
  have H := B7 (by rw [hb]; decide) H
  rw [hb] at W
  clear hb
  refine Dr Aa ?_
  refine VR W Aa Aa Aa Aa Aa Aa Aa fun a W => ?_
  refine Bl (N2 := []) (NZ2 := []) (N3 := [(some 1, b8, [.int .i64 3, .int .i64 0, .int .i64 0, .int .i64 0, .slice none 0 0, .int .i64 0, .int .i64 0, v23]), (some 9, b8, [.int .i64 3, .int .i64 0, .int .i64 0, .int .i64 0, .slice none 0 0, .int .i64 0, .int .i64 0, v23]), (some 9, b2, [.int .i64 p6.1, .int .i64 p6.2.1, .int .i64 p6.2.2.1, .int .i64 p6.2.2.2]), (some 14, b7, [.int .i64 2, .int .i64 0, .int .i64 0, .int .i64 0, .slice none 0 0, .int .i64 p1, .int .i64 p3, .slice none 0 0]), (some 14, b2, [.int .i64 p6.1, .int .i64 p6.2.1, .int .i64 p6.2.2.1, .int .i64 p6.2.2.2])]) (NZ3 := []) F Aa Aa (all_cons (fun h => Ah (by kernel_rfl) h) (all_cons (fun h => Ah (by kernel_rfl) h) (all_cons (fun h => Ah (by kernel_rfl) h) (all_cons (fun h => Ah (by kernel_rfl) h) (all_cons (fun h => Ah (by kernel_rfl) h) Ag))))) Ag ?_
  refine Bo (R := []) W Aa Aa (yC fun M Z hN hZ => Br W Aa Aa Aa) Aa Aa fun a W => ?_
  refine Dr Aa ?_
  refine ls W F Aa (Bk W Aa).q fun a w W F => ?_
  refine Bl (N2 := []) (NZ2 := []) (N3 := [(some 1, b8, [.int .i64 3, .int .i64 0, .int .i64 0, .int .i64 0, .slice none 0 0, .int .i64 0, .int .i64 0, v23]), (some 9, b8, [.int .i64 3, .int .i64 0, .int .i64 0, .int .i64 0, .slice none 0 0, .int .i64 0, .int .i64 0, v23]), (some 9, b2, [.int .i64 p6.1, .int .i64 p6.2.1, .int .i64 p6.2.2.1, .int .i64 p6.2.2.2]), (some 14, b7, [.int .i64 2, .int .i64 0, .int .i64 0, .int .i64 0, .slice none 0 0, .int .i64 p1, .int .i64 p3, .slice none 0 0]), (some 14, b2, [.int .i64 p6.1, .int .i64 p6.2.1, .int .i64 p6.2.2.1, .int .i64 p6.2.2.2])]) (NZ3 := []) F Aa Aa (all_cons (fun h => Ah (by kernel_rfl) h) (all_cons (fun h => Ah (by kernel_rfl) h) (all_cons (fun h => Ah (by kernel_rfl) h) (all_cons (fun h => Ah (by kernel_rfl) h) (all_cons (fun h => Ah (by kernel_rfl) h) Ag))))) Ag ?_
  refine Fw (Ac ?_)
  have F := F.frontZ (i := 6) Aa Aa
  have F := F.frontZ (i := 6) Aa Aa
  have F := F.frontZ (i := 4) Aa Aa
  have F := F.frontM (i := 7) Aa Aa
  have F := F.frontM (i := 7) Aa Aa
  have F := F.frontM (i := 7) Aa Aa
  have F := F.frontM (i := 7) Aa Aa
  have F := F.frontM (i := 7) Aa Aa
  have F := F.frontM (i := 7) Aa Aa
  have F := F.frontM (i := 7) Aa Aa
  have F := F.frontM (i := 7) Aa Aa
  have F := F.sub (M' := [(b8, (JA v23)), (b7, (Hu p1 p3)), (b6, (Hu p1 p2)), (b5, (GE)), (b4, (GI)), (b3, (CX x3 v5 v6)), (b2, (F8 p6)), (b1, (Fv p0 v1 v2))]) (Z' := [Ef v23 De ([Tr37.of (2, Tr34.of (0, 0, 0, ([] : List Tr34)), p1, p2, ([] : List Tr37)), Tr37.of (2, Tr34.of (0, 0, 0, ([] : List Tr34)), p1, p3, ([] : List Tr37))] : List Tr37), Ef v5 CC x3.un.2.1.un.2.2.2, Ef v6 De x3.un.2.2.2.2]) (List.Sublist.refl _) (List.Sublist.cons_cons _ (List.Sublist.cons_cons _ (List.Sublist.cons_cons _ (List.nil_sublist _))))
  exact ⟨_, _, H, W.ra Aa, F⟩
 rintro a w ⟨x14, x15, hj, W, F⟩
 have hj := AA hj
 subst hj
 have H := K5
 clear G5 K5
 refine Ak ?_
 have H := AA H
 subst H
 refine Au (.inl Aa) W F Aa (Am W Aa) ?_
 exact ⟨rfl, F.done⟩
end Go.Proofs.YtpckgggmgijiiaaGreatDoor
