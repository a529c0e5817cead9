/- The functions of layer 27, IC. Conditions: none. -/
import Derived.Test.YtpckgggmgijiiaaGreatDoorbA6
namespace Go.Proofs.YtpckgggmgijiiaaGreatDoor
open Go Go.RowKit
set_option linter.unusedVariables false
set_option linter.unusedSimpArgs false
set_option maxRecDepth 20000
set_option maxHeartbeats 1600000
theorem YD : Has Tryz.prog 19 := CF Tryz.func19
abbrev WP (a0 : Nat) (a1 : Int × Int × Int × Int) (a2 : Nat) (a3 : Tr27) (a4 : Value) (a5 : Value) : List (Nat × List Value) := [(a0, [.int .i64 a1.1, .int .i64 a1.2.1, .int .i64 a1.2.2.1, .int .i64 a1.2.2.2]), (a2, [.int .i64 a3.un.1, .int .i64 a3.un.2.1.un.1, .int .i64 a3.un.2.1.un.2.1, .int .i64 a3.un.2.1.un.2.2.1, a4, .int .i64 a3.un.2.2.1, .int .i64 a3.un.2.2.2.1, a5])]
abbrev GC  : List Value := [.int .i64 1, .int .i64 1, .int .i64 0, .int .i64 0, .slice none 0 0, .int .i64 0, .int .i64 0, .slice none 0 0]
abbrev GA  : List Value := [.int .i64 1, .int .i64 2, .int .i64 0, .int .i64 0, .slice none 0 0, .int .i64 0, .int .i64 0, .slice none 0 0]
abbrev U6 (a0 : Tr37) (a1 : Value) (a2 : Value) : List Value := [.int .i64 1, .int .i64 2, .int .i64 0, .int .i64 0, .slice none 0 0, .int .i64 0, .int .i64 0, .slice none 0 0, .int .i64 a0.un.1, .int .i64 a0.un.2.1.un.1, .int .i64 a0.un.2.1.un.2.1, .int .i64 a0.un.2.1.un.2.2.1, a1, .int .i64 a0.un.2.2.1, .int .i64 a0.un.2.2.2.1, a2]
abbrev Hq (a0 : Int) (a1 : Int) : List Value := [.int .i64 2, .int .i64 0, .int .i64 0, .int .i64 0, .slice none 0 0, .int .i64 a0, .int .i64 a1, .slice none 0 0]
noncomputable def Ce (p4 : Int) (p5 : Int) (p6 : Int × Int × Int × Int) (x3 : Tr37) (x4 : (List (Int × (Int × Int × Int × Int)))) : Int → Option (Int ⊕ (Unit ⊕ Bool))
  | x5 => (if x5 < (([Tr37.of (3, Tr34.of (0, 0, 0, ([] : List Tr34)), 0, 0, ([Tr37.of (1, Tr34.of (1, 0, 0, ([] : List Tr34)), 0, 0, ([] : List Tr37)), Tr37.of (x3.un.1, Tr34.of (x3.un.2.1.un.1, x3.un.2.1.un.2.1, x3.un.2.1.un.2.2.1, x3.un.2.1.un.2.2.2), x3.un.2.2.1, x3.un.2.2.2.1, x3.un.2.2.2.2)] : List Tr37)), Tr37.of (3, Tr34.of (0, 0, 0, ([] : List Tr34)), 0, 0, ([Tr37.of (x3.un.1, Tr34.of (x3.un.2.1.un.1, x3.un.2.1.un.2.1, x3.un.2.1.un.2.2.1, x3.un.2.1.un.2.2.2), x3.un.2.2.1, x3.un.2.2.2.1, x3.un.2.2.2.2), Tr37.of (1, Tr34.of (1, 0, 0, ([] : List Tr34)), 0, 0, ([] : List Tr37))] : List Tr37)), Tr37.of (4, Tr34.of (0, 0, 0, ([] : List Tr34)), 0, 0, ([Tr37.of (1, Tr34.of (2, 0, 0, ([] : List Tr34)), 0, 0, ([] : List Tr37)), Tr37.of (x3.un.1, Tr34.of (x3.un.2.1.un.1, x3.un.2.1.un.2.1, x3.un.2.1.un.2.2.1, x3.un.2.1.un.2.2.2), x3.un.2.2.1, x3.un.2.2.2.1, x3.un.2.2.2.2)] : List Tr37)), Tr37.of (3, Tr34.of (0, 0, 0, ([] : List Tr34)), 0, 0, ([Tr37.of (1, Tr34.of (2, 0, 0, ([] : List Tr34)), 0, 0, ([] : List Tr37)), Tr37.of (x3.un.1, Tr34.of (x3.un.2.1.un.1, x3.un.2.1.un.2.1, x3.un.2.1.un.2.2.1, x3.un.2.1.un.2.2.2), x3.un.2.2.1, x3.un.2.2.2.1, x3.un.2.2.2.2)] : List Tr37)), Tr37.of (3, Tr34.of (0, 0, 0, ([] : List Tr34)), 0, 0, ([Tr37.of (x3.un.1, Tr34.of (x3.un.2.1.un.1, x3.un.2.1.un.2.1, x3.un.2.1.un.2.2.1, x3.un.2.1.un.2.2.2), x3.un.2.2.1, x3.un.2.2.2.1, x3.un.2.2.2.2), Tr37.of (1, Tr34.of (2, 0, 0, ([] : List Tr34)), 0, 0, ([] : List Tr37))] : List Tr37))] : List Tr37).length : Int) then (if 3 ≤ x5 then some ([]) else some x4).bind fun x6 => ((ix ([Tr37.of (3, Tr34.of (0, 0, 0, ([] : List Tr34)), 0, 0, ([Tr37.of (1, Tr34.of (1, 0, 0, ([] : List Tr34)), 0, 0, ([] : List Tr37)), Tr37.of (x3.un.1, Tr34.of (x3.un.2.1.un.1, x3.un.2.1.un.2.1, x3.un.2.1.un.2.2.1, x3.un.2.1.un.2.2.2), x3.un.2.2.1, x3.un.2.2.2.1, x3.un.2.2.2.2)] : List Tr37)), Tr37.of (3, Tr34.of (0, 0, 0, ([] : List Tr34)), 0, 0, ([Tr37.of (x3.un.1, Tr34.of (x3.un.2.1.un.1, x3.un.2.1.un.2.1, x3.un.2.1.un.2.2.1, x3.un.2.1.un.2.2.2), x3.un.2.2.1, x3.un.2.2.2.1, x3.un.2.2.2.2), Tr37.of (1, Tr34.of (1, 0, 0, ([] : List Tr34)), 0, 0, ([] : List Tr37))] : List Tr37)), Tr37.of (4, Tr34.of (0, 0, 0, ([] : List Tr34)), 0, 0, ([Tr37.of (1, Tr34.of (2, 0, 0, ([] : List Tr34)), 0, 0, ([] : List Tr37)), Tr37.of (x3.un.1, Tr34.of (x3.un.2.1.un.1, x3.un.2.1.un.2.1, x3.un.2.1.un.2.2.1, x3.un.2.1.un.2.2.2), x3.un.2.2.1, x3.un.2.2.2.1, x3.un.2.2.2.2)] : List Tr37)), Tr37.of (3, Tr34.of (0, 0, 0, ([] : List Tr34)), 0, 0, ([Tr37.of (1, Tr34.of (2, 0, 0, ([] : List Tr34)), 0, 0, ([] : List Tr37)), Tr37.of (x3.un.1, Tr34.of (x3.un.2.1.un.1, x3.un.2.1.un.2.1, x3.un.2.1.un.2.2.1, x3.un.2.1.un.2.2.2), x3.un.2.2.1, x3.un.2.2.2.1, x3.un.2.2.2.2)] : List Tr37)), Tr37.of (3, Tr34.of (0, 0, 0, ([] : List Tr34)), 0, 0, ([Tr37.of (x3.un.1, Tr34.of (x3.un.2.1.un.1, x3.un.2.1.un.2.1, x3.un.2.1.un.2.2.1, x3.un.2.1.un.2.2.2), x3.un.2.2.1, x3.un.2.2.2.1, x3.un.2.2.2.2), Tr37.of (1, Tr34.of (2, 0, 0, ([] : List Tr34)), 0, 0, ([] : List Tr37))] : List Tr37))] : List Tr37) x5).bind fun x8 => (GN (Tr37.of (x8.un.1, Tr34.of (x8.un.2.1.un.1, x8.un.2.1.un.2.1, x8.un.2.1.un.2.2.1, x8.un.2.1.un.2.2.2), x8.un.2.2.1, x8.un.2.2.2.1, x8.un.2.2.2.2))).bind fun x9 => (Gt (Tr27.of (x9.un.1, Tr24.of (x9.un.2.1.un.1, x9.un.2.1.un.2.1, x9.un.2.1.un.2.2.1, x9.un.2.1.un.2.2.2), x9.un.2.2.1, x9.un.2.2.2.1, x9.un.2.2.2.2))).bind fun x10 => (if x10 = true then (ix ([Tr37.of (3, Tr34.of (0, 0, 0, ([] : List Tr34)), 0, 0, ([Tr37.of (1, Tr34.of (1, 0, 0, ([] : List Tr34)), 0, 0, ([] : List Tr37)), Tr37.of (x3.un.1, Tr34.of (x3.un.2.1.un.1, x3.un.2.1.un.2.1, x3.un.2.1.un.2.2.1, x3.un.2.1.un.2.2.2), x3.un.2.2.1, x3.un.2.2.2.1, x3.un.2.2.2.2)] : List Tr37)), Tr37.of (3, Tr34.of (0, 0, 0, ([] : List Tr34)), 0, 0, ([Tr37.of (x3.un.1, Tr34.of (x3.un.2.1.un.1, x3.un.2.1.un.2.1, x3.un.2.1.un.2.2.1, x3.un.2.1.un.2.2.2), x3.un.2.2.1, x3.un.2.2.2.1, x3.un.2.2.2.2), Tr37.of (1, Tr34.of (1, 0, 0, ([] : List Tr34)), 0, 0, ([] : List Tr37))] : List Tr37)), Tr37.of (4, Tr34.of (0, 0, 0, ([] : List Tr34)), 0, 0, ([Tr37.of (1, Tr34.of (2, 0, 0, ([] : List Tr34)), 0, 0, ([] : List Tr37)), Tr37.of (x3.un.1, Tr34.of (x3.un.2.1.un.1, x3.un.2.1.un.2.1, x3.un.2.1.un.2.2.1, x3.un.2.1.un.2.2.2), x3.un.2.2.1, x3.un.2.2.2.1, x3.un.2.2.2.2)] : List Tr37)), Tr37.of (3, Tr34.of (0, 0, 0, ([] : List Tr34)), 0, 0, ([Tr37.of (1, Tr34.of (2, 0, 0, ([] : List Tr34)), 0, 0, ([] : List Tr37)), Tr37.of (x3.un.1, Tr34.of (x3.un.2.1.un.1, x3.un.2.1.un.2.1, x3.un.2.1.un.2.2.1, x3.un.2.1.un.2.2.2), x3.un.2.2.1, x3.un.2.2.2.1, x3.un.2.2.2.2)] : List Tr37)), Tr37.of (3, Tr34.of (0, 0, 0, ([] : List Tr34)), 0, 0, ([Tr37.of (x3.un.1, Tr34.of (x3.un.2.1.un.1, x3.un.2.1.un.2.1, x3.un.2.1.un.2.2.1, x3.un.2.1.un.2.2.2), x3.un.2.2.1, x3.un.2.2.2.1, x3.un.2.2.2.2), Tr37.of (1, Tr34.of (2, 0, 0, ([] : List Tr34)), 0, 0, ([] : List Tr37))] : List Tr37))] : List Tr37) x5).bind fun x11 => (Ct (Tr37.of (x11.un.1, Tr34.of (x11.un.2.1.un.1, x11.un.2.1.un.2.1, x11.un.2.1.un.2.2.1, x11.un.2.1.un.2.2.2), x11.un.2.2.1, x11.un.2.2.2.1, x11.un.2.2.2.2)) p4 p5 p6).bind fun x12 => (IG x12 x6).bind fun x13 => some (!x13) else some false)).bind fun x7 => (if x7 = true then some (.inr (.inr false)) else some (.inl (AO (x5 + 1)))) else some (.inr (.inl ())))
noncomputable def F8 (p0 : Tr27) (p1 : Int) (p2 : Int) (p3 : Int) (p4 : Int) (p5 : Int) (p6 : Int × Int × Int × Int) : Option Bool := (Gt (Tr27.of (p0.un.1, Tr24.of (p0.un.2.1.un.1, p0.un.2.1.un.2.1, p0.un.2.1.un.2.2.1, p0.un.2.1.un.2.2.2), p0.un.2.2.1, p0.un.2.2.2.1, p0.un.2.2.2.2))).bind fun x1 => (if (!x1) = true then (GU).bind fun x2 => some x2 else (NV (Tr27.of (p0.un.1, Tr24.of (p0.un.2.1.un.1, p0.un.2.1.un.2.1, p0.un.2.1.un.2.2.1, p0.un.2.1.un.2.2.2), p0.un.2.2.1, p0.un.2.2.2.1, p0.un.2.2.2.2))).bind fun x3 => (Ct (Tr37.of (x3.un.1, Tr34.of (x3.un.2.1.un.1, x3.un.2.1.un.2.1, x3.un.2.1.un.2.2.1, x3.un.2.1.un.2.2.2), x3.un.2.2.1, x3.un.2.2.2.1, x3.un.2.2.2.2)) p4 p5 p6).bind fun x4 => Kq (AY (Ce p4 p5 p6 x3 x4) 0) fun _ => ((GN (Tr37.of (3, Tr34.of (0, 0, 0, ([] : List Tr34)), 0, 0, ([Tr37.of (2, Tr34.of (0, 0, 0, ([] : List Tr34)), p1, p2, ([] : List Tr37)), Tr37.of (2, Tr34.of (0, 0, 0, ([] : List Tr34)), p1, p3, ([] : List Tr37))] : List Tr37)))).bind fun x16 => (Gt (Tr27.of (x16.un.1, Tr24.of (x16.un.2.1.un.1, x16.un.2.1.un.2.1, x16.un.2.1.un.2.2.1, x16.un.2.1.un.2.2.2), x16.un.2.2.1, x16.un.2.2.2.1, x16.un.2.2.2.2))).bind fun x17 => (if (!x17) = true then (GU).bind fun x18 => some (x18, ([Tr37.of (2, Tr34.of (0, 0, 0, ([] : List Tr34)), p1, p2, ([] : List Tr37)), Tr37.of (2, Tr34.of (0, 0, 0, ([] : List Tr34)), p1, p3, ([] : List Tr37))] : List Tr37)) else (Ct (Tr37.of (3, Tr34.of (0, 0, 0, ([] : List Tr34)), 0, 0, ([Tr37.of (2, Tr34.of (0, 0, 0, ([] : List Tr34)), p1, p2, ([] : List Tr37)), Tr37.of (2, Tr34.of (0, 0, 0, ([] : List Tr34)), p1, p3, ([] : List Tr37))] : List Tr37))) p4 p5 p6).bind fun x19 => (Ct (Tr37.of (2, Tr34.of (0, 0, 0, ([] : List Tr34)), p1, p3, ([] : List Tr37))) p4 p5 p6).bind fun x20 => (IG x19 x20).bind fun x21 => (if x21 = true then (GU).bind fun x22 => some (x22, ([Tr37.of (2, Tr34.of (0, 0, 0, ([] : List Tr34)), p1, p2, ([] : List Tr37)), Tr37.of (2, Tr34.of (0, 0, 0, ([] : List Tr34)), p1, p3, ([] : List Tr37))] : List Tr37)) else some (false, ([Tr37.of (2, Tr34.of (0, 0, 0, ([] : List Tr34)), p1, p2, ([] : List Tr37)), Tr37.of (2, Tr34.of (0, 0, 0, ([] : List Tr34)), p1, p3, ([] : List Tr37))] : List Tr37))))).bind fun (x14, x15) => some x14)
theorem LE (Y : Nat → Prop) (w0 : World) (v1 : Value) (v2 : Value) (p0 : Tr27) (p1 : Int) (p2 : Int) (p3 : Int) (p4 : Int) (p5 : Int) (p6 : Int × Int × Int × Int) (r : Bool) (H : F8 p0 p1 p2 p3 p4 p5 p6 = some r) (h_v1 : Sl w0 (NX []) DL v1 p0.un.2.1.un.2.2.2) (h_v2 : Sl w0 (NX []) GL v2 p0.un.2.2.2.2) (hG : Gk [] w0) :
    Calls Tryz.prog 5 #[.agg #[.int .i64 p0.un.1, .int .i64 p0.un.2.1.un.1, .int .i64 p0.un.2.1.un.2.1, .int .i64 p0.un.2.1.un.2.2.1, v1, .int .i64 p0.un.2.2.1, .int .i64 p0.un.2.2.2.1, v2], .int .i64 p1, .int .i64 p2, .int .i64 p3, .int .i64 p4, .int .i64 p5, .agg #[.int .i64 p6.1, .int .i64 p6.2.1, .int .i64 p6.2.2.1, .int .i64 p6.2.2.2]] w0 fun e w' => e = .returned (.bool r) ∧ Below w0.heap.size w0 w' := by
 refine enter Tryz.func5 Aa Tryz.ntmps5 Aa fun a W => ?_
 have F := Stw.start Y w0
 obtain ⟨v3, h1, h_v1⟩ := h_v1.ex EI
 obtain ⟨v4, h2, h_v2⟩ := h_v2.ex Iw
 unfold F8 at H
 refine vc tk 2 W F fun a w W F => ?_
 refine CU (cs := (Fu p0 v1 v2)) W F Aa Aa Aa fun b1 a w W F => ?_
 refine CU (cs := (F0 p6)) W F Aa Aa Aa fun b2 a w W F => ?_
 refine FA tk 7 [1] W F (ai fun a w W F => ?_)
 obtain ⟨x1, h3, H⟩ := Ad H
 refine ls W F Aa (AL (v := Value.bool x1) W XK Aa (fun w F => Ke any w (v1) (v2) (Tr27.of (p0.un.1, Tr24.of (p0.un.2.1.un.1, p0.un.2.1.un.2.1, p0.un.2.1.un.2.2.1, p0.un.2.1.un.2.2.2), p0.un.2.2.1, p0.un.2.2.2.1, p0.un.2.2.2.2)) _ h3 (Ef (Aq EI h1 (Af h_v1)) F) (Ef (Aq Iw h2 (Af h_v2)) F))) fun a w W F => ?_
 refine Ck tk 3 W F fun a w W F => ?_
 refine Cv W Aa H (fun W H => ?_) fun W H => ?_
 ·
  refine vc tk 2 W F fun a w W F => ?_
  obtain ⟨x2, h4, H⟩ := Ad H
  refine ls W F Aa (AL (v := Value.bool x2) W H7 Aa (fun w F => Kd any w _ h4 (hG.go0 F))) fun a w W F => ?_
  refine Ck tk 3 W F fun a w W F => ?_
  refine Ak (Ax ?_)
  have H := AA H
  subst H
  refine Au (.inl Aa) W F Aa (Am W Aa) ?_
  exact ⟨rfl, F.done⟩
 refine PY tk 5 [1] W F (ai fun a w W F => ?_)
 obtain ⟨x3, h5, H⟩ := Ad H
 refine Bu (Ml := []) (Zl := []) (β := Value × Value) (rv := fun x => .agg #[.int .i64 x3.un.1, .int .i64 x3.un.2.1.un.1, .int .i64 x3.un.2.1.un.2.1, .int .i64 x3.un.2.1.un.2.2.1, x.1, .int .i64 x3.un.2.2.1, .int .i64 x3.un.2.2.2.1, x.2]) (MM := fun x => []) (ZZ := fun x => [row x.1 34 CA x3.un.2.1.un.2.2.2, row x.2 37 C9 x3.un.2.2.2.2]) W F H8 Aa Aa (fun hL => Re _ w (v1) (v2) (Tr27.of (p0.un.1, Tr24.of (p0.un.2.1.un.1, p0.un.2.1.un.2.1, p0.un.2.1.un.2.2.1, p0.un.2.1.un.2.2.2), p0.un.2.2.1, p0.un.2.2.2.1, p0.un.2.2.2.2)) _ h5 ((Aq EI h1 (Af h_v1)) w F).nx ((Aq Iw h2 (Af h_v2)) w F).nx) fun x a w W F => ?_
 obtain ⟨v5, v6⟩ := x
 have F : Stw ⟨Y, [], w0⟩ (WP b2 p6 b1 p0 v1 v2) [row v5 34 CA x3.un.2.1.un.2.2.2, row v6 37 C9 x3.un.2.2.2.2] w := F
 refine B8 (cs := (F4)) W F Aa Mk Aa fun b3 a w W F => ?_
 refine D2 0 W F Aa Aa Aa IF Aa Aa (Ae Aa (Ae Aa (Ae Aa (Ae Aa (Ae (F.one (k := 0) Aa) (Ae Aa (Ae Aa (Ae (F.one (k := 1) Aa) Da)))))))) fun w F => ?_
 refine Ck tk 4 W F fun a w W F => ?_
 refine ls W F Aa (Cz (v := Value.agg #[.int .i64 1, .int .i64 0, .int .i64 0, .slice none 0 0]) Xq W Aa Aa Aa).q fun a w W F => ?_
 refine ls W F Aa (Cz (v := Value.agg #[.int .i64 1, .int .i64 1, .int .i64 0, .int .i64 0, .slice none 0 0, .int .i64 0, .int .i64 0, .slice none 0 0]) Q8 W Aa Aa Aa).q fun a w W F => ?_
 refine ls W F Aa (Cz (v := Value.agg #[.int .i64 2, .int .i64 0, .int .i64 0, .slice none 0 0]) Xq W Aa Aa Aa).q fun a w W F => ?_
 refine ls W F Aa (Cz (v := Value.agg #[.int .i64 1, .int .i64 2, .int .i64 0, .int .i64 0, .slice none 0 0, .int .i64 0, .int .i64 0, .slice none 0 0]) Q8 W Aa Aa Aa).q fun a w W F => ?_
 refine B8 (cs := (F4)) W F Aa Mk Aa fun b4 a w W F => ?_
 refine B8 (cs := (F4)) W F Aa Mk Aa fun b5 a w W F => ?_
 refine D2 1 W F Aa Aa Aa IF Aa Aa Aa fun w F => ?_
 refine D2 0 W F Aa Aa Aa IF Aa Aa Aa fun w F => ?_
 refine FA tk 8 [2, 3] W F (ai (ai fun a w W F => ?_))
 obtain ⟨x4, h6, H⟩ := Ad H
 have F := F.frontZ (i := 1) Aa Aa
 have F := F.freeze
 refine Bu (Ml := []) (Zl := []) (β := Value) (rv := fun x => x) (MM := fun x => []) (ZZ := fun x => [row x 63 Bf x4]) W F WO Aa Aa (fun hL => GB _ w (v5) (v6) (Tr37.of (x3.un.1, Tr34.of (x3.un.2.1.un.1, x3.un.2.1.un.2.1, x3.un.2.1.un.2.2.1, x3.un.2.1.un.2.2.2), x3.un.2.2.1, x3.un.2.2.2.1, x3.un.2.2.2.2)) p4 p5 p6 _ h6 ((Aj 1 Aa) w F).nx (F.item (i := 0) Aa)) fun x a w W F => ?_
 obtain ⟨v7, rfl⟩ : ∃ y, y = x := ⟨x, rfl⟩
 have F : Stw ⟨Y, [], w0⟩ [(b5, (GA)), (b4, (GC)), (b3, (CT x3 v5 v6)), (b2, (F0 p6)), (b1, (Fu p0 v1 v2))] [row v7 63 Bf x4, Ee v6 C9 x3.un.2.2.2.2, row v5 34 CA x3.un.2.1.un.2.2.2] w := F
 refine FA tk 7 [1, 2] W F (ai (ai fun a w W F => ?_))
 have F := F.frontZ (i := 2) Aa Aa
 have F := F.freeze
 refine Hr (z := Value.agg #[.int .i64 0, .int .i64 0, .int .i64 0, .int .i64 0, .slice none 0 0, .int .i64 0, .int .i64 0, .slice none 0 0]) (cs := [.int .i64 1, .int .i64 1, .int .i64 0, .int .i64 0, .slice none 0 0, .int .i64 0, .int .i64 0, .slice none 0 0, .int .i64 x3.un.1, .int .i64 x3.un.2.1.un.1, .int .i64 x3.un.2.1.un.2.1, .int .i64 x3.un.2.1.un.2.2.1, v5, .int .i64 x3.un.2.2.1, .int .i64 x3.un.2.2.2.1, v6]) C9 ([Tr37.of (1, Tr34.of (1, 0, 0, ([] : List Tr34)), 0, 0, ([] : List Tr37)), Tr37.of (x3.un.1, Tr34.of (x3.un.2.1.un.1, x3.un.2.1.un.2.1, x3.un.2.1.un.2.2.1, x3.un.2.1.un.2.2.2), x3.un.2.2.1, x3.un.2.2.2.1, x3.un.2.2.2.2)] : List Tr37) W F Aa OO Mk Aa Aa Aa (A7 Aa Aa Aa (A7 Aa Aa Aa C1)) Aa Aa ⟨[Value.int .i64 1, Value.int .i64 1, Value.int .i64 0, Value.int .i64 0, Value.slice none 0 0, Value.int .i64 0, Value.int .i64 0, Value.slice none 0 0], _, Aa, (IJ.2 ⟨[Value.int .i64 1], [Value.int .i64 1, Value.int .i64 0, Value.int .i64 0, Value.slice none 0 0, Value.int .i64 0, Value.int .i64 0, Value.slice none 0 0], Aa, Aa, ⟨[Value.int .i64 1, Value.int .i64 0, Value.int .i64 0, Value.slice none 0 0], [Value.int .i64 0, Value.int .i64 0, Value.slice none 0 0], Aa, (Ij.2 ⟨[Value.int .i64 1], [Value.int .i64 0, Value.int .i64 0, Value.slice none 0 0], Aa, Aa, ⟨[Value.int .i64 0], [Value.int .i64 0, Value.slice none 0 0], Aa, Aa, ⟨[Value.int .i64 0], [Value.slice none 0 0], Aa, Aa, ⟨_, Aa, (Sl.nil (r := CA))⟩⟩⟩⟩), ⟨[Value.int .i64 0], [Value.int .i64 0, Value.slice none 0 0], Aa, Aa, ⟨[Value.int .i64 0], [Value.slice none 0 0], Aa, Aa, ⟨_, Aa, (Sl.nil (r := C9))⟩⟩⟩⟩⟩), ⟨[Value.int .i64 x3.un.1, Value.int .i64 x3.un.2.1.un.1, Value.int .i64 x3.un.2.1.un.2.1, Value.int .i64 x3.un.2.1.un.2.2.1, v5, Value.int .i64 x3.un.2.2.1, Value.int .i64 x3.un.2.2.2.1, v6], _, Aa, (IJ.2 ⟨[Value.int .i64 x3.un.1], [Value.int .i64 x3.un.2.1.un.1, Value.int .i64 x3.un.2.1.un.2.1, Value.int .i64 x3.un.2.1.un.2.2.1, v5, Value.int .i64 x3.un.2.2.1, Value.int .i64 x3.un.2.2.2.1, v6], Aa, Aa, ⟨[Value.int .i64 x3.un.2.1.un.1, Value.int .i64 x3.un.2.1.un.2.1, Value.int .i64 x3.un.2.1.un.2.2.1, v5], [Value.int .i64 x3.un.2.2.1, Value.int .i64 x3.un.2.2.2.1, v6], Aa, (Ij.2 ⟨[Value.int .i64 x3.un.2.1.un.1], [Value.int .i64 x3.un.2.1.un.2.1, Value.int .i64 x3.un.2.1.un.2.2.1, v5], Aa, Aa, ⟨[Value.int .i64 x3.un.2.1.un.2.1], [Value.int .i64 x3.un.2.1.un.2.2.1, v5], Aa, Aa, ⟨[Value.int .i64 x3.un.2.1.un.2.2.1], [v5], Aa, Aa, ⟨_, Aa, (F.item (i := 0) Aa)⟩⟩⟩⟩), ⟨[Value.int .i64 x3.un.2.2.1], [Value.int .i64 x3.un.2.2.2.1, v6], Aa, Aa, ⟨[Value.int .i64 x3.un.2.2.2.1], [v6], Aa, Aa, ⟨_, Aa, (F.item (i := 2) Aa)⟩⟩⟩⟩⟩), Aa⟩⟩ fun v8 a w W F => ?_
 refine ls W F Aa (Cz (v := Value.agg #[.int .i64 3, .int .i64 0, .int .i64 0, .int .i64 0, .slice none 0 0, .int .i64 0, .int .i64 0, v8]) Q8 W Aa (A7 Aa Aa Aa (A7 Aa (Gj (F.one (k := 0) Aa)) Aa C1)) Aa).q fun a w W F => ?_
 refine GH tk 2 [2, 1] W F (ai (ai fun a w W F => ?_))
 refine Hr (z := Value.agg #[.int .i64 0, .int .i64 0, .int .i64 0, .int .i64 0, .slice none 0 0, .int .i64 0, .int .i64 0, .slice none 0 0]) (cs := [.int .i64 x3.un.1, .int .i64 x3.un.2.1.un.1, .int .i64 x3.un.2.1.un.2.1, .int .i64 x3.un.2.1.un.2.2.1, v5, .int .i64 x3.un.2.2.1, .int .i64 x3.un.2.2.2.1, v6, .int .i64 1, .int .i64 1, .int .i64 0, .int .i64 0, .slice none 0 0, .int .i64 0, .int .i64 0, .slice none 0 0]) C9 ([Tr37.of (x3.un.1, Tr34.of (x3.un.2.1.un.1, x3.un.2.1.un.2.1, x3.un.2.1.un.2.2.1, x3.un.2.1.un.2.2.2), x3.un.2.2.1, x3.un.2.2.2.1, x3.un.2.2.2.2), Tr37.of (1, Tr34.of (1, 0, 0, ([] : List Tr34)), 0, 0, ([] : List Tr37))] : List Tr37) W F Aa OO Mk Aa Aa Aa (A7 Aa Aa Aa (A7 Aa Aa Aa C1)) Aa Aa ⟨[Value.int .i64 x3.un.1, Value.int .i64 x3.un.2.1.un.1, Value.int .i64 x3.un.2.1.un.2.1, Value.int .i64 x3.un.2.1.un.2.2.1, v5, Value.int .i64 x3.un.2.2.1, Value.int .i64 x3.un.2.2.2.1, v6], _, Aa, (IJ.2 ⟨[Value.int .i64 x3.un.1], [Value.int .i64 x3.un.2.1.un.1, Value.int .i64 x3.un.2.1.un.2.1, Value.int .i64 x3.un.2.1.un.2.2.1, v5, Value.int .i64 x3.un.2.2.1, Value.int .i64 x3.un.2.2.2.1, v6], Aa, Aa, ⟨[Value.int .i64 x3.un.2.1.un.1, Value.int .i64 x3.un.2.1.un.2.1, Value.int .i64 x3.un.2.1.un.2.2.1, v5], [Value.int .i64 x3.un.2.2.1, Value.int .i64 x3.un.2.2.2.1, v6], Aa, (Ij.2 ⟨[Value.int .i64 x3.un.2.1.un.1], [Value.int .i64 x3.un.2.1.un.2.1, Value.int .i64 x3.un.2.1.un.2.2.1, v5], Aa, Aa, ⟨[Value.int .i64 x3.un.2.1.un.2.1], [Value.int .i64 x3.un.2.1.un.2.2.1, v5], Aa, Aa, ⟨[Value.int .i64 x3.un.2.1.un.2.2.1], [v5], Aa, Aa, ⟨_, Aa, (F.item (i := 1) Aa)⟩⟩⟩⟩), ⟨[Value.int .i64 x3.un.2.2.1], [Value.int .i64 x3.un.2.2.2.1, v6], Aa, Aa, ⟨[Value.int .i64 x3.un.2.2.2.1], [v6], Aa, Aa, ⟨_, Aa, (F.item (i := 3) Aa)⟩⟩⟩⟩⟩), ⟨[Value.int .i64 1, Value.int .i64 1, Value.int .i64 0, Value.int .i64 0, Value.slice none 0 0, Value.int .i64 0, Value.int .i64 0, Value.slice none 0 0], _, Aa, (IJ.2 ⟨[Value.int .i64 1], [Value.int .i64 1, Value.int .i64 0, Value.int .i64 0, Value.slice none 0 0, Value.int .i64 0, Value.int .i64 0, Value.slice none 0 0], Aa, Aa, ⟨[Value.int .i64 1, Value.int .i64 0, Value.int .i64 0, Value.slice none 0 0], [Value.int .i64 0, Value.int .i64 0, Value.slice none 0 0], Aa, (Ij.2 ⟨[Value.int .i64 1], [Value.int .i64 0, Value.int .i64 0, Value.slice none 0 0], Aa, Aa, ⟨[Value.int .i64 0], [Value.int .i64 0, Value.slice none 0 0], Aa, Aa, ⟨[Value.int .i64 0], [Value.slice none 0 0], Aa, Aa, ⟨_, Aa, (Sl.nil (r := CA))⟩⟩⟩⟩), ⟨[Value.int .i64 0], [Value.int .i64 0, Value.slice none 0 0], Aa, Aa, ⟨[Value.int .i64 0], [Value.slice none 0 0], Aa, Aa, ⟨_, Aa, (Sl.nil (r := C9))⟩⟩⟩⟩⟩), Aa⟩⟩ fun v9 a w W F => ?_
 refine ls W F Aa (Cz (v := Value.agg #[.int .i64 3, .int .i64 0, .int .i64 0, .int .i64 0, .slice none 0 0, .int .i64 0, .int .i64 0, v9]) Q8 W Aa (A7 Aa Aa Aa (A7 Aa (Gj (F.one (k := 0) Aa)) Aa C1)) Aa).q fun a w W F => ?_
 refine GH tk 2 [0, 2] W F (ai (ai fun a w W F => ?_))
 refine Hr (z := Value.agg #[.int .i64 0, .int .i64 0, .int .i64 0, .int .i64 0, .slice none 0 0, .int .i64 0, .int .i64 0, .slice none 0 0]) (cs := (U6 x3 v5 v6)) C9 ([Tr37.of (1, Tr34.of (2, 0, 0, ([] : List Tr34)), 0, 0, ([] : List Tr37)), Tr37.of (x3.un.1, Tr34.of (x3.un.2.1.un.1, x3.un.2.1.un.2.1, x3.un.2.1.un.2.2.1, x3.un.2.1.un.2.2.2), x3.un.2.2.1, x3.un.2.2.2.1, x3.un.2.2.2.2)] : List Tr37) W F Aa OO Mk Aa Aa Aa (A7 Aa Aa Aa (A7 Aa Aa Aa C1)) Aa Aa ⟨[Value.int .i64 1, Value.int .i64 2, Value.int .i64 0, Value.int .i64 0, Value.slice none 0 0, Value.int .i64 0, Value.int .i64 0, Value.slice none 0 0], _, Aa, (IJ.2 ⟨[Value.int .i64 1], [Value.int .i64 2, Value.int .i64 0, Value.int .i64 0, Value.slice none 0 0, Value.int .i64 0, Value.int .i64 0, Value.slice none 0 0], Aa, Aa, ⟨[Value.int .i64 2, Value.int .i64 0, Value.int .i64 0, Value.slice none 0 0], [Value.int .i64 0, Value.int .i64 0, Value.slice none 0 0], Aa, (Ij.2 ⟨[Value.int .i64 2], [Value.int .i64 0, Value.int .i64 0, Value.slice none 0 0], Aa, Aa, ⟨[Value.int .i64 0], [Value.int .i64 0, Value.slice none 0 0], Aa, Aa, ⟨[Value.int .i64 0], [Value.slice none 0 0], Aa, Aa, ⟨_, Aa, (Sl.nil (r := CA))⟩⟩⟩⟩), ⟨[Value.int .i64 0], [Value.int .i64 0, Value.slice none 0 0], Aa, Aa, ⟨[Value.int .i64 0], [Value.slice none 0 0], Aa, Aa, ⟨_, Aa, (Sl.nil (r := C9))⟩⟩⟩⟩⟩), ⟨[Value.int .i64 x3.un.1, Value.int .i64 x3.un.2.1.un.1, Value.int .i64 x3.un.2.1.un.2.1, Value.int .i64 x3.un.2.1.un.2.2.1, v5, Value.int .i64 x3.un.2.2.1, Value.int .i64 x3.un.2.2.2.1, v6], _, Aa, (IJ.2 ⟨[Value.int .i64 x3.un.1], [Value.int .i64 x3.un.2.1.un.1, Value.int .i64 x3.un.2.1.un.2.1, Value.int .i64 x3.un.2.1.un.2.2.1, v5, Value.int .i64 x3.un.2.2.1, Value.int .i64 x3.un.2.2.2.1, v6], Aa, Aa, ⟨[Value.int .i64 x3.un.2.1.un.1, Value.int .i64 x3.un.2.1.un.2.1, Value.int .i64 x3.un.2.1.un.2.2.1, v5], [Value.int .i64 x3.un.2.2.1, Value.int .i64 x3.un.2.2.2.1, v6], Aa, (Ij.2 ⟨[Value.int .i64 x3.un.2.1.un.1], [Value.int .i64 x3.un.2.1.un.2.1, Value.int .i64 x3.un.2.1.un.2.2.1, v5], Aa, Aa, ⟨[Value.int .i64 x3.un.2.1.un.2.1], [Value.int .i64 x3.un.2.1.un.2.2.1, v5], Aa, Aa, ⟨[Value.int .i64 x3.un.2.1.un.2.2.1], [v5], Aa, Aa, ⟨_, Aa, (F.item (i := 2) Aa)⟩⟩⟩⟩), ⟨[Value.int .i64 x3.un.2.2.1], [Value.int .i64 x3.un.2.2.2.1, v6], Aa, Aa, ⟨[Value.int .i64 x3.un.2.2.2.1], [v6], Aa, Aa, ⟨_, Aa, (F.item (i := 4) Aa)⟩⟩⟩⟩⟩), Aa⟩⟩ fun v10 a w W F => ?_
 refine ls W F Aa (Cz (v := Value.agg #[.int .i64 4, .int .i64 0, .int .i64 0, .int .i64 0, .slice none 0 0, .int .i64 0, .int .i64 0, v10]) Q8 W Aa (A7 Aa Aa Aa (A7 Aa (Gj (F.one (k := 0) Aa)) Aa C1)) Aa).q fun a w W F => ?_
 refine GH tk 2 [0, 2] W F (ai (ai fun a w W F => ?_))
 refine Hr (z := Value.agg #[.int .i64 0, .int .i64 0, .int .i64 0, .int .i64 0, .slice none 0 0, .int .i64 0, .int .i64 0, .slice none 0 0]) (cs := (U6 x3 v5 v6)) C9 ([Tr37.of (1, Tr34.of (2, 0, 0, ([] : List Tr34)), 0, 0, ([] : List Tr37)), Tr37.of (x3.un.1, Tr34.of (x3.un.2.1.un.1, x3.un.2.1.un.2.1, x3.un.2.1.un.2.2.1, x3.un.2.1.un.2.2.2), x3.un.2.2.1, x3.un.2.2.2.1, x3.un.2.2.2.2)] : List Tr37) W F Aa OO Mk Aa Aa Aa (A7 Aa Aa Aa (A7 Aa Aa Aa C1)) Aa Aa ⟨[Value.int .i64 1, Value.int .i64 2, Value.int .i64 0, Value.int .i64 0, Value.slice none 0 0, Value.int .i64 0, Value.int .i64 0, Value.slice none 0 0], _, Aa, (IJ.2 ⟨[Value.int .i64 1], [Value.int .i64 2, Value.int .i64 0, Value.int .i64 0, Value.slice none 0 0, Value.int .i64 0, Value.int .i64 0, Value.slice none 0 0], Aa, Aa, ⟨[Value.int .i64 2, Value.int .i64 0, Value.int .i64 0, Value.slice none 0 0], [Value.int .i64 0, Value.int .i64 0, Value.slice none 0 0], Aa, (Ij.2 ⟨[Value.int .i64 2], [Value.int .i64 0, Value.int .i64 0, Value.slice none 0 0], Aa, Aa, ⟨[Value.int .i64 0], [Value.int .i64 0, Value.slice none 0 0], Aa, Aa, ⟨[Value.int .i64 0], [Value.slice none 0 0], Aa, Aa, ⟨_, Aa, (Sl.nil (r := CA))⟩⟩⟩⟩), ⟨[Value.int .i64 0], [Value.int .i64 0, Value.slice none 0 0], Aa, Aa, ⟨[Value.int .i64 0], [Value.slice none 0 0], Aa, Aa, ⟨_, Aa, (Sl.nil (r := C9))⟩⟩⟩⟩⟩), ⟨[Value.int .i64 x3.un.1, Value.int .i64 x3.un.2.1.un.1, Value.int .i64 x3.un.2.1.un.2.1, Value.int .i64 x3.un.2.1.un.2.2.1, v5, Value.int .i64 x3.un.2.2.1, Value.int .i64 x3.un.2.2.2.1, v6], _, Aa, (IJ.2 ⟨[Value.int .i64 x3.un.1], [Value.int .i64 x3.un.2.1.un.1, Value.int .i64 x3.un.2.1.un.2.1, Value.int .i64 x3.un.2.1.un.2.2.1, v5, Value.int .i64 x3.un.2.2.1, Value.int .i64 x3.un.2.2.2.1, v6], Aa, Aa, ⟨[Value.int .i64 x3.un.2.1.un.1, Value.int .i64 x3.un.2.1.un.2.1, Value.int .i64 x3.un.2.1.un.2.2.1, v5], [Value.int .i64 x3.un.2.2.1, Value.int .i64 x3.un.2.2.2.1, v6], Aa, (Ij.2 ⟨[Value.int .i64 x3.un.2.1.un.1], [Value.int .i64 x3.un.2.1.un.2.1, Value.int .i64 x3.un.2.1.un.2.2.1, v5], Aa, Aa, ⟨[Value.int .i64 x3.un.2.1.un.2.1], [Value.int .i64 x3.un.2.1.un.2.2.1, v5], Aa, Aa, ⟨[Value.int .i64 x3.un.2.1.un.2.2.1], [v5], Aa, Aa, ⟨_, Aa, (F.item (i := 3) Aa)⟩⟩⟩⟩), ⟨[Value.int .i64 x3.un.2.2.1], [Value.int .i64 x3.un.2.2.2.1, v6], Aa, Aa, ⟨[Value.int .i64 x3.un.2.2.2.1], [v6], Aa, Aa, ⟨_, Aa, (F.item (i := 5) Aa)⟩⟩⟩⟩⟩), Aa⟩⟩ fun v11 a w W F => ?_
 refine ls W F Aa (Cz (v := Value.agg #[.int .i64 3, .int .i64 0, .int .i64 0, .int .i64 0, .slice none 0 0, .int .i64 0, .int .i64 0, v11]) Q8 W Aa (A7 Aa Aa Aa (A7 Aa (Gj (F.one (k := 0) Aa)) Aa C1)) Aa).q fun a w W F => ?_
 refine GH tk 2 [2, 0] W F (ai (ai fun a w W F => ?_))
 refine Hr (z := Value.agg #[.int .i64 0, .int .i64 0, .int .i64 0, .int .i64 0, .slice none 0 0, .int .i64 0, .int .i64 0, .slice none 0 0]) (cs := [.int .i64 x3.un.1, .int .i64 x3.un.2.1.un.1, .int .i64 x3.un.2.1.un.2.1, .int .i64 x3.un.2.1.un.2.2.1, v5, .int .i64 x3.un.2.2.1, .int .i64 x3.un.2.2.2.1, v6, .int .i64 1, .int .i64 2, .int .i64 0, .int .i64 0, .slice none 0 0, .int .i64 0, .int .i64 0, .slice none 0 0]) C9 ([Tr37.of (x3.un.1, Tr34.of (x3.un.2.1.un.1, x3.un.2.1.un.2.1, x3.un.2.1.un.2.2.1, x3.un.2.1.un.2.2.2), x3.un.2.2.1, x3.un.2.2.2.1, x3.un.2.2.2.2), Tr37.of (1, Tr34.of (2, 0, 0, ([] : List Tr34)), 0, 0, ([] : List Tr37))] : List Tr37) W F Aa OO Mk Aa Aa Aa (A7 Aa Aa Aa (A7 Aa Aa Aa C1)) Aa Aa ⟨[Value.int .i64 x3.un.1, Value.int .i64 x3.un.2.1.un.1, Value.int .i64 x3.un.2.1.un.2.1, Value.int .i64 x3.un.2.1.un.2.2.1, v5, Value.int .i64 x3.un.2.2.1, Value.int .i64 x3.un.2.2.2.1, v6], _, Aa, (IJ.2 ⟨[Value.int .i64 x3.un.1], [Value.int .i64 x3.un.2.1.un.1, Value.int .i64 x3.un.2.1.un.2.1, Value.int .i64 x3.un.2.1.un.2.2.1, v5, Value.int .i64 x3.un.2.2.1, Value.int .i64 x3.un.2.2.2.1, v6], Aa, Aa, ⟨[Value.int .i64 x3.un.2.1.un.1, Value.int .i64 x3.un.2.1.un.2.1, Value.int .i64 x3.un.2.1.un.2.2.1, v5], [Value.int .i64 x3.un.2.2.1, Value.int .i64 x3.un.2.2.2.1, v6], Aa, (Ij.2 ⟨[Value.int .i64 x3.un.2.1.un.1], [Value.int .i64 x3.un.2.1.un.2.1, Value.int .i64 x3.un.2.1.un.2.2.1, v5], Aa, Aa, ⟨[Value.int .i64 x3.un.2.1.un.2.1], [Value.int .i64 x3.un.2.1.un.2.2.1, v5], Aa, Aa, ⟨[Value.int .i64 x3.un.2.1.un.2.2.1], [v5], Aa, Aa, ⟨_, Aa, (F.item (i := 4) Aa)⟩⟩⟩⟩), ⟨[Value.int .i64 x3.un.2.2.1], [Value.int .i64 x3.un.2.2.2.1, v6], Aa, Aa, ⟨[Value.int .i64 x3.un.2.2.2.1], [v6], Aa, Aa, ⟨_, Aa, (F.item (i := 6) Aa)⟩⟩⟩⟩⟩), ⟨[Value.int .i64 1, Value.int .i64 2, Value.int .i64 0, Value.int .i64 0, Value.slice none 0 0, Value.int .i64 0, Value.int .i64 0, Value.slice none 0 0], _, Aa, (IJ.2 ⟨[Value.int .i64 1], [Value.int .i64 2, Value.int .i64 0, Value.int .i64 0, Value.slice none 0 0, Value.int .i64 0, Value.int .i64 0, Value.slice none 0 0], Aa, Aa, ⟨[Value.int .i64 2, Value.int .i64 0, Value.int .i64 0, Value.slice none 0 0], [Value.int .i64 0, Value.int .i64 0, Value.slice none 0 0], Aa, (Ij.2 ⟨[Value.int .i64 2], [Value.int .i64 0, Value.int .i64 0, Value.slice none 0 0], Aa, Aa, ⟨[Value.int .i64 0], [Value.int .i64 0, Value.slice none 0 0], Aa, Aa, ⟨[Value.int .i64 0], [Value.slice none 0 0], Aa, Aa, ⟨_, Aa, (Sl.nil (r := CA))⟩⟩⟩⟩), ⟨[Value.int .i64 0], [Value.int .i64 0, Value.slice none 0 0], Aa, Aa, ⟨[Value.int .i64 0], [Value.slice none 0 0], Aa, Aa, ⟨_, Aa, (Sl.nil (r := C9))⟩⟩⟩⟩⟩), Aa⟩⟩ fun v12 a w W F => ?_
 refine ls W F Aa (Cz (v := Value.agg #[.int .i64 3, .int .i64 0, .int .i64 0, .int .i64 0, .slice none 0 0, .int .i64 0, .int .i64 0, v12]) Q8 W Aa (A7 Aa Aa Aa (A7 Aa (Gj (F.one (k := 0) Aa)) Aa C1)) Aa).q fun a w W F => ?_
 have F := F.frontZ (i := 4) Aa Aa
 have F := F.freeze
 have F := F.frontZ (i := 4) Aa Aa
 have F := F.freeze
 have F := F.frontZ (i := 4) Aa Aa
 have F := F.freeze
 have F := F.frontZ (i := 4) Aa Aa
 have F := F.freeze
 have F := F.frontZ (i := 4) Aa Aa
 have F := F.freeze
 refine Hr (z := Value.agg #[.int .i64 0, .int .i64 0, .int .i64 0, .int .i64 0, .slice none 0 0, .int .i64 0, .int .i64 0, .slice none 0 0]) (cs := [.int .i64 3, .int .i64 0, .int .i64 0, .int .i64 0, .slice none 0 0, .int .i64 0, .int .i64 0, v8, .int .i64 3, .int .i64 0, .int .i64 0, .int .i64 0, .slice none 0 0, .int .i64 0, .int .i64 0, v9, .int .i64 4, .int .i64 0, .int .i64 0, .int .i64 0, .slice none 0 0, .int .i64 0, .int .i64 0, v10, .int .i64 3, .int .i64 0, .int .i64 0, .int .i64 0, .slice none 0 0, .int .i64 0, .int .i64 0, v11, .int .i64 3, .int .i64 0, .int .i64 0, .int .i64 0, .slice none 0 0, .int .i64 0, .int .i64 0, v12]) C9 ([Tr37.of (3, Tr34.of (0, 0, 0, ([] : List Tr34)), 0, 0, ([Tr37.of (1, Tr34.of (1, 0, 0, ([] : List Tr34)), 0, 0, ([] : List Tr37)), Tr37.of (x3.un.1, Tr34.of (x3.un.2.1.un.1, x3.un.2.1.un.2.1, x3.un.2.1.un.2.2.1, x3.un.2.1.un.2.2.2), x3.un.2.2.1, x3.un.2.2.2.1, x3.un.2.2.2.2)] : List Tr37)), Tr37.of (3, Tr34.of (0, 0, 0, ([] : List Tr34)), 0, 0, ([Tr37.of (x3.un.1, Tr34.of (x3.un.2.1.un.1, x3.un.2.1.un.2.1, x3.un.2.1.un.2.2.1, x3.un.2.1.un.2.2.2), x3.un.2.2.1, x3.un.2.2.2.1, x3.un.2.2.2.2), Tr37.of (1, Tr34.of (1, 0, 0, ([] : List Tr34)), 0, 0, ([] : List Tr37))] : List Tr37)), Tr37.of (4, Tr34.of (0, 0, 0, ([] : List Tr34)), 0, 0, ([Tr37.of (1, Tr34.of (2, 0, 0, ([] : List Tr34)), 0, 0, ([] : List Tr37)), Tr37.of (x3.un.1, Tr34.of (x3.un.2.1.un.1, x3.un.2.1.un.2.1, x3.un.2.1.un.2.2.1, x3.un.2.1.un.2.2.2), x3.un.2.2.1, x3.un.2.2.2.1, x3.un.2.2.2.2)] : List Tr37)), Tr37.of (3, Tr34.of (0, 0, 0, ([] : List Tr34)), 0, 0, ([Tr37.of (1, Tr34.of (2, 0, 0, ([] : List Tr34)), 0, 0, ([] : List Tr37)), Tr37.of (x3.un.1, Tr34.of (x3.un.2.1.un.1, x3.un.2.1.un.2.1, x3.un.2.1.un.2.2.1, x3.un.2.1.un.2.2.2), x3.un.2.2.1, x3.un.2.2.2.1, x3.un.2.2.2.2)] : List Tr37)), Tr37.of (3, Tr34.of (0, 0, 0, ([] : List Tr34)), 0, 0, ([Tr37.of (x3.un.1, Tr34.of (x3.un.2.1.un.1, x3.un.2.1.un.2.1, x3.un.2.1.un.2.2.1, x3.un.2.1.un.2.2.2), x3.un.2.2.1, x3.un.2.2.2.1, x3.un.2.2.2.2), Tr37.of (1, Tr34.of (2, 0, 0, ([] : List Tr34)), 0, 0, ([] : List Tr37))] : List Tr37))] : List Tr37) W F Aa OO Mk Aa Aa Aa (by kernel_rfl) Aa Aa ⟨[Value.int .i64 3, Value.int .i64 0, Value.int .i64 0, Value.int .i64 0, Value.slice none 0 0, Value.int .i64 0, Value.int .i64 0, v8], _, Aa, (IJ.2 ⟨[Value.int .i64 3], [Value.int .i64 0, Value.int .i64 0, Value.int .i64 0, Value.slice none 0 0, Value.int .i64 0, Value.int .i64 0, v8], Aa, Aa, ⟨[Value.int .i64 0, Value.int .i64 0, Value.int .i64 0, Value.slice none 0 0], [Value.int .i64 0, Value.int .i64 0, v8], Aa, (Ij.2 ⟨[Value.int .i64 0], [Value.int .i64 0, Value.int .i64 0, Value.slice none 0 0], Aa, Aa, ⟨[Value.int .i64 0], [Value.int .i64 0, Value.slice none 0 0], Aa, Aa, ⟨[Value.int .i64 0], [Value.slice none 0 0], Aa, Aa, ⟨_, Aa, (Sl.nil (r := CA))⟩⟩⟩⟩), ⟨[Value.int .i64 0], [Value.int .i64 0, v8], Aa, Aa, ⟨[Value.int .i64 0], [v8], Aa, Aa, ⟨_, Aa, (F.item (i := 4) Aa)⟩⟩⟩⟩⟩), ⟨[Value.int .i64 3, Value.int .i64 0, Value.int .i64 0, Value.int .i64 0, Value.slice none 0 0, Value.int .i64 0, Value.int .i64 0, v9], _, Aa, (IJ.2 ⟨[Value.int .i64 3], [Value.int .i64 0, Value.int .i64 0, Value.int .i64 0, Value.slice none 0 0, Value.int .i64 0, Value.int .i64 0, v9], Aa, Aa, ⟨[Value.int .i64 0, Value.int .i64 0, Value.int .i64 0, Value.slice none 0 0], [Value.int .i64 0, Value.int .i64 0, v9], Aa, (Ij.2 ⟨[Value.int .i64 0], [Value.int .i64 0, Value.int .i64 0, Value.slice none 0 0], Aa, Aa, ⟨[Value.int .i64 0], [Value.int .i64 0, Value.slice none 0 0], Aa, Aa, ⟨[Value.int .i64 0], [Value.slice none 0 0], Aa, Aa, ⟨_, Aa, (Sl.nil (r := CA))⟩⟩⟩⟩), ⟨[Value.int .i64 0], [Value.int .i64 0, v9], Aa, Aa, ⟨[Value.int .i64 0], [v9], Aa, Aa, ⟨_, Aa, (F.item (i := 3) Aa)⟩⟩⟩⟩⟩), ⟨[Value.int .i64 4, Value.int .i64 0, Value.int .i64 0, Value.int .i64 0, Value.slice none 0 0, Value.int .i64 0, Value.int .i64 0, v10], _, Aa, (IJ.2 ⟨[Value.int .i64 4], [Value.int .i64 0, Value.int .i64 0, Value.int .i64 0, Value.slice none 0 0, Value.int .i64 0, Value.int .i64 0, v10], Aa, Aa, ⟨[Value.int .i64 0, Value.int .i64 0, Value.int .i64 0, Value.slice none 0 0], [Value.int .i64 0, Value.int .i64 0, v10], Aa, (Ij.2 ⟨[Value.int .i64 0], [Value.int .i64 0, Value.int .i64 0, Value.slice none 0 0], Aa, Aa, ⟨[Value.int .i64 0], [Value.int .i64 0, Value.slice none 0 0], Aa, Aa, ⟨[Value.int .i64 0], [Value.slice none 0 0], Aa, Aa, ⟨_, Aa, (Sl.nil (r := CA))⟩⟩⟩⟩), ⟨[Value.int .i64 0], [Value.int .i64 0, v10], Aa, Aa, ⟨[Value.int .i64 0], [v10], Aa, Aa, ⟨_, Aa, (F.item (i := 2) Aa)⟩⟩⟩⟩⟩), ⟨[Value.int .i64 3, Value.int .i64 0, Value.int .i64 0, Value.int .i64 0, Value.slice none 0 0, Value.int .i64 0, Value.int .i64 0, v11], _, Aa, (IJ.2 ⟨[Value.int .i64 3], [Value.int .i64 0, Value.int .i64 0, Value.int .i64 0, Value.slice none 0 0, Value.int .i64 0, Value.int .i64 0, v11], Aa, Aa, ⟨[Value.int .i64 0, Value.int .i64 0, Value.int .i64 0, Value.slice none 0 0], [Value.int .i64 0, Value.int .i64 0, v11], Aa, (Ij.2 ⟨[Value.int .i64 0], [Value.int .i64 0, Value.int .i64 0, Value.slice none 0 0], Aa, Aa, ⟨[Value.int .i64 0], [Value.int .i64 0, Value.slice none 0 0], Aa, Aa, ⟨[Value.int .i64 0], [Value.slice none 0 0], Aa, Aa, ⟨_, Aa, (Sl.nil (r := CA))⟩⟩⟩⟩), ⟨[Value.int .i64 0], [Value.int .i64 0, v11], Aa, Aa, ⟨[Value.int .i64 0], [v11], Aa, Aa, ⟨_, Aa, (F.item (i := 1) Aa)⟩⟩⟩⟩⟩), ⟨[Value.int .i64 3, Value.int .i64 0, Value.int .i64 0, Value.int .i64 0, Value.slice none 0 0, Value.int .i64 0, Value.int .i64 0, v12], _, Aa, (IJ.2 ⟨[Value.int .i64 3], [Value.int .i64 0, Value.int .i64 0, Value.int .i64 0, Value.slice none 0 0, Value.int .i64 0, Value.int .i64 0, v12], Aa, Aa, ⟨[Value.int .i64 0, Value.int .i64 0, Value.int .i64 0, Value.slice none 0 0], [Value.int .i64 0, Value.int .i64 0, v12], Aa, (Ij.2 ⟨[Value.int .i64 0], [Value.int .i64 0, Value.int .i64 0, Value.slice none 0 0], Aa, Aa, ⟨[Value.int .i64 0], [Value.int .i64 0, Value.slice none 0 0], Aa, Aa, ⟨[Value.int .i64 0], [Value.slice none 0 0], Aa, Aa, ⟨_, Aa, (Sl.nil (r := CA))⟩⟩⟩⟩), ⟨[Value.int .i64 0], [Value.int .i64 0, v12], Aa, Aa, ⟨[Value.int .i64 0], [v12], Aa, Aa, ⟨_, Aa, (F.item (i := 0) Aa)⟩⟩⟩⟩⟩), Aa⟩⟩⟩⟩⟩ fun v13 a w W F => ?_
 refine vl tk 2 W F fun a w W F => ?_
 refine Ac ?_
 obtain ⟨o1, G1, K1, L1⟩ := QO H
 refine Ay (fun a w => some (Sum.inl ()) = some o1 ∧ Fr 119 [] [(1, .int .i64 p1), (2, .int .i64 p2), (3, .int .i64 p3), (4, .int .i64 p4), (5, .int .i64 p5), (13, .pointer (some ⟨b2, 0, none⟩)), (14, .bool false)] a ∧ Stw ⟨Y, [], w0⟩ [(b5, (GA)), (b4, (GC)), (b3, (CT x3 v5 v6)), (b2, (F0 p6)), (b1, (Fu p0 v1 v2))] [Ee v5 CA x3.un.2.1.un.2.2.2, Ee v6 C9 x3.un.2.2.2.2] w) ?_ ?_
 ·
  have H := G1
  clear G1 K1
  refine vc tk 6 W F fun a w W F => ?_
  have F := F.frontZ (i := 7) Aa Aa
  have F := F.freeze
  have F := F.frontZ (i := 8) Aa Aa
  have F := F.frontZ (i := 8) Aa Aa
  have F := F.frontZ (i := 3) Aa Aa
  have F := F.frontZ (i := 3) Aa Aa
  have F := F.frontM (i := 4) Aa Aa
  have F := F.frontM (i := 4) Aa Aa
  have F := F.frontM (i := 4) Aa Aa
  have F := F.frontM (i := 4) Aa Aa
  have F := F.frontM (i := 4) Aa Aa
  have F := F.sub (M' := [(b5, (GA)), (b4, (GC)), (b3, (CT x3 v5 v6)), (b2, (F0 p6)), (b1, (Fu p0 v1 v2))]) (Z' := [Ee v7 Bf x4, row v13 37 C9 ([Tr37.of (3, Tr34.of (0, 0, 0, ([] : List Tr34)), 0, 0, ([Tr37.of (1, Tr34.of (1, 0, 0, ([] : List Tr34)), 0, 0, ([] : List Tr37)), Tr37.of (x3.un.1, Tr34.of (x3.un.2.1.un.1, x3.un.2.1.un.2.1, x3.un.2.1.un.2.2.1, x3.un.2.1.un.2.2.2), x3.un.2.2.1, x3.un.2.2.2.1, x3.un.2.2.2.2)] : List Tr37)), Tr37.of (3, Tr34.of (0, 0, 0, ([] : List Tr34)), 0, 0, ([Tr37.of (x3.un.1, Tr34.of (x3.un.2.1.un.1, x3.un.2.1.un.2.1, x3.un.2.1.un.2.2.1, x3.un.2.1.un.2.2.2), x3.un.2.2.1, x3.un.2.2.2.1, x3.un.2.2.2.2), Tr37.of (1, Tr34.of (1, 0, 0, ([] : List Tr34)), 0, 0, ([] : List Tr37))] : List Tr37)), Tr37.of (4, Tr34.of (0, 0, 0, ([] : List Tr34)), 0, 0, ([Tr37.of (1, Tr34.of (2, 0, 0, ([] : List Tr34)), 0, 0, ([] : List Tr37)), Tr37.of (x3.un.1, Tr34.of (x3.un.2.1.un.1, x3.un.2.1.un.2.1, x3.un.2.1.un.2.2.1, x3.un.2.1.un.2.2.2), x3.un.2.2.1, x3.un.2.2.2.1, x3.un.2.2.2.2)] : List Tr37)), Tr37.of (3, Tr34.of (0, 0, 0, ([] : List Tr34)), 0, 0, ([Tr37.of (1, Tr34.of (2, 0, 0, ([] : List Tr34)), 0, 0, ([] : List Tr37)), Tr37.of (x3.un.1, Tr34.of (x3.un.2.1.un.1, x3.un.2.1.un.2.1, x3.un.2.1.un.2.2.1, x3.un.2.1.un.2.2.2), x3.un.2.2.1, x3.un.2.2.2.1, x3.un.2.2.2.2)] : List Tr37)), Tr37.of (3, Tr34.of (0, 0, 0, ([] : List Tr34)), 0, 0, ([Tr37.of (x3.un.1, Tr34.of (x3.un.2.1.un.1, x3.un.2.1.un.2.1, x3.un.2.1.un.2.2.1, x3.un.2.1.un.2.2.2), x3.un.2.2.1, x3.un.2.2.2.1, x3.un.2.2.2.2), Tr37.of (1, Tr34.of (2, 0, 0, ([] : List Tr34)), 0, 0, ([] : List Tr37))] : List Tr37))] : List Tr37), Ee v5 CA x3.un.2.1.un.2.2.2, Ee v6 C9 x3.un.2.2.2.2]) (List.Sublist.refl _) (List.Sublist.cons_cons _ (List.Sublist.cons_cons _ (List.Sublist.cons_cons _ (List.Sublist.cons_cons _ (List.nil_sublist _)))))
  refine BE H (fun s a w => Fr 119 [] [(1, .int .i64 p1), (2, .int .i64 p2), (3, .int .i64 p3), (4, .int .i64 p4), (5, .int .i64 p5), (13, .pointer (some ⟨b2, 0, none⟩)), (14, .bool false), (18, v7), (19, v13), (20, .int .i64 s)] a ∧ Stw ⟨Y, [], w0⟩ [(b5, (GA)), (b4, (GC)), (b3, (CT x3 v5 v6)), (b2, (F0 p6)), (b1, (Fu p0 v1 v2))] [Ee v7 Bf x4, row v13 37 C9 ([Tr37.of (3, Tr34.of (0, 0, 0, ([] : List Tr34)), 0, 0, ([Tr37.of (1, Tr34.of (1, 0, 0, ([] : List Tr34)), 0, 0, ([] : List Tr37)), Tr37.of (x3.un.1, Tr34.of (x3.un.2.1.un.1, x3.un.2.1.un.2.1, x3.un.2.1.un.2.2.1, x3.un.2.1.un.2.2.2), x3.un.2.2.1, x3.un.2.2.2.1, x3.un.2.2.2.2)] : List Tr37)), Tr37.of (3, Tr34.of (0, 0, 0, ([] : List Tr34)), 0, 0, ([Tr37.of (x3.un.1, Tr34.of (x3.un.2.1.un.1, x3.un.2.1.un.2.1, x3.un.2.1.un.2.2.1, x3.un.2.1.un.2.2.2), x3.un.2.2.1, x3.un.2.2.2.1, x3.un.2.2.2.2), Tr37.of (1, Tr34.of (1, 0, 0, ([] : List Tr34)), 0, 0, ([] : List Tr37))] : List Tr37)), Tr37.of (4, Tr34.of (0, 0, 0, ([] : List Tr34)), 0, 0, ([Tr37.of (1, Tr34.of (2, 0, 0, ([] : List Tr34)), 0, 0, ([] : List Tr37)), Tr37.of (x3.un.1, Tr34.of (x3.un.2.1.un.1, x3.un.2.1.un.2.1, x3.un.2.1.un.2.2.1, x3.un.2.1.un.2.2.2), x3.un.2.2.1, x3.un.2.2.2.1, x3.un.2.2.2.2)] : List Tr37)), Tr37.of (3, Tr34.of (0, 0, 0, ([] : List Tr34)), 0, 0, ([Tr37.of (1, Tr34.of (2, 0, 0, ([] : List Tr34)), 0, 0, ([] : List Tr37)), Tr37.of (x3.un.1, Tr34.of (x3.un.2.1.un.1, x3.un.2.1.un.2.1, x3.un.2.1.un.2.2.1, x3.un.2.1.un.2.2.2), x3.un.2.2.1, x3.un.2.2.2.1, x3.un.2.2.2.2)] : List Tr37)), Tr37.of (3, Tr34.of (0, 0, 0, ([] : List Tr34)), 0, 0, ([Tr37.of (x3.un.1, Tr34.of (x3.un.2.1.un.1, x3.un.2.1.un.2.1, x3.un.2.1.un.2.2.1, x3.un.2.1.un.2.2.2), x3.un.2.2.1, x3.un.2.2.2.1, x3.un.2.2.2.2), Tr37.of (1, Tr34.of (2, 0, 0, ([] : List Tr34)), 0, 0, ([] : List Tr37))] : List Tr37))] : List Tr37), Ee v5 CA x3.un.2.1.un.2.2.2, Ee v6 C9 x3.un.2.2.2.2] w) ⟨W.ra Aa, F⟩ fun s o a w H L2 hR => ?_
  obtain ⟨x5, rfl⟩ : ∃ x, x = s := ⟨s, rfl⟩
  obtain ⟨W, F⟩ := hR
  have W : Fr 119 [] [(1, .int .i64 p1), (2, .int .i64 p2), (3, .int .i64 p3), (4, .int .i64 p4), (5, .int .i64 p5), (13, .pointer (some ⟨b2, 0, none⟩)), (14, .bool false), (18, v7), (19, v13), (20, .int .i64 x5)] a := W
  have F : Stw ⟨Y, [], w0⟩ [(b5, (GA)), (b4, (GC)), (b3, (CT x3 v5 v6)), (b2, (F0 p6)), (b1, (Fu p0 v1 v2))] [Ee v7 Bf x4, row v13 37 C9 ([Tr37.of (3, Tr34.of (0, 0, 0, ([] : List Tr34)), 0, 0, ([Tr37.of (1, Tr34.of (1, 0, 0, ([] : List Tr34)), 0, 0, ([] : List Tr37)), Tr37.of (x3.un.1, Tr34.of (x3.un.2.1.un.1, x3.un.2.1.un.2.1, x3.un.2.1.un.2.2.1, x3.un.2.1.un.2.2.2), x3.un.2.2.1, x3.un.2.2.2.1, x3.un.2.2.2.2)] : List Tr37)), Tr37.of (3, Tr34.of (0, 0, 0, ([] : List Tr34)), 0, 0, ([Tr37.of (x3.un.1, Tr34.of (x3.un.2.1.un.1, x3.un.2.1.un.2.1, x3.un.2.1.un.2.2.1, x3.un.2.1.un.2.2.2), x3.un.2.2.1, x3.un.2.2.2.1, x3.un.2.2.2.2), Tr37.of (1, Tr34.of (1, 0, 0, ([] : List Tr34)), 0, 0, ([] : List Tr37))] : List Tr37)), Tr37.of (4, Tr34.of (0, 0, 0, ([] : List Tr34)), 0, 0, ([Tr37.of (1, Tr34.of (2, 0, 0, ([] : List Tr34)), 0, 0, ([] : List Tr37)), Tr37.of (x3.un.1, Tr34.of (x3.un.2.1.un.1, x3.un.2.1.un.2.1, x3.un.2.1.un.2.2.1, x3.un.2.1.un.2.2.2), x3.un.2.2.1, x3.un.2.2.2.1, x3.un.2.2.2.2)] : List Tr37)), Tr37.of (3, Tr34.of (0, 0, 0, ([] : List Tr34)), 0, 0, ([Tr37.of (1, Tr34.of (2, 0, 0, ([] : List Tr34)), 0, 0, ([] : List Tr37)), Tr37.of (x3.un.1, Tr34.of (x3.un.2.1.un.1, x3.un.2.1.un.2.1, x3.un.2.1.un.2.2.1, x3.un.2.1.un.2.2.2), x3.un.2.2.1, x3.un.2.2.2.1, x3.un.2.2.2.2)] : List Tr37)), Tr37.of (3, Tr34.of (0, 0, 0, ([] : List Tr34)), 0, 0, ([Tr37.of (x3.un.1, Tr34.of (x3.un.2.1.un.1, x3.un.2.1.un.2.1, x3.un.2.1.un.2.2.1, x3.un.2.1.un.2.2.2), x3.un.2.2.1, x3.un.2.2.2.1, x3.un.2.2.2.2), Tr37.of (1, Tr34.of (2, 0, 0, ([] : List Tr34)), 0, 0, ([] : List Tr37))] : List Tr37))] : List Tr37), Ee v5 CA x3.un.2.1.un.2.2.2, Ee v6 C9 x3.un.2.2.2.2] w := F
  rw [Ce] at H
  refine vc tk 5 W F fun a w W F => ?_
  refine ls W F Aa (CP (r := C9) (l := ([Tr37.of (3, Tr34.of (0, 0, 0, ([] : List Tr34)), 0, 0, ([Tr37.of (1, Tr34.of (1, 0, 0, ([] : List Tr34)), 0, 0, ([] : List Tr37)), Tr37.of (x3.un.1, Tr34.of (x3.un.2.1.un.1, x3.un.2.1.un.2.1, x3.un.2.1.un.2.2.1, x3.un.2.1.un.2.2.2), x3.un.2.2.1, x3.un.2.2.2.1, x3.un.2.2.2.2)] : List Tr37)), Tr37.of (3, Tr34.of (0, 0, 0, ([] : List Tr34)), 0, 0, ([Tr37.of (x3.un.1, Tr34.of (x3.un.2.1.un.1, x3.un.2.1.un.2.1, x3.un.2.1.un.2.2.1, x3.un.2.1.un.2.2.2), x3.un.2.2.1, x3.un.2.2.2.1, x3.un.2.2.2.2), Tr37.of (1, Tr34.of (1, 0, 0, ([] : List Tr34)), 0, 0, ([] : List Tr37))] : List Tr37)), Tr37.of (4, Tr34.of (0, 0, 0, ([] : List Tr34)), 0, 0, ([Tr37.of (1, Tr34.of (2, 0, 0, ([] : List Tr34)), 0, 0, ([] : List Tr37)), Tr37.of (x3.un.1, Tr34.of (x3.un.2.1.un.1, x3.un.2.1.un.2.1, x3.un.2.1.un.2.2.1, x3.un.2.1.un.2.2.2), x3.un.2.2.1, x3.un.2.2.2.1, x3.un.2.2.2.2)] : List Tr37)), Tr37.of (3, Tr34.of (0, 0, 0, ([] : List Tr34)), 0, 0, ([Tr37.of (1, Tr34.of (2, 0, 0, ([] : List Tr34)), 0, 0, ([] : List Tr37)), Tr37.of (x3.un.1, Tr34.of (x3.un.2.1.un.1, x3.un.2.1.un.2.1, x3.un.2.1.un.2.2.1, x3.un.2.1.un.2.2.2), x3.un.2.2.1, x3.un.2.2.2.1, x3.un.2.2.2.2)] : List Tr37)), Tr37.of (3, Tr34.of (0, 0, 0, ([] : List Tr34)), 0, 0, ([Tr37.of (x3.un.1, Tr34.of (x3.un.2.1.un.1, x3.un.2.1.un.2.1, x3.un.2.1.un.2.2.1, x3.un.2.1.un.2.2.2), x3.un.2.2.1, x3.un.2.2.2.1, x3.un.2.2.2.2), Tr37.of (1, Tr34.of (2, 0, 0, ([] : List Tr34)), 0, 0, ([] : List Tr37))] : List Tr37))] : List Tr37)) Kr Aa W Aa (Aj 1 Aa)).q fun a w W F => ?_
  refine Ck tk 3 W F fun a w W F => ?_
  refine BI W Aa H (fun W H => ?_) fun W H => ?_
  ·
   refine FJ tk 10 W F fun a w W F => ?_
   obtain ⟨o3, G3, K3⟩ := Ad H
   refine Ay (fun a w => ∃ x6 : List (Int × (Int × Int × Int × Int)), ∃ v14 : Value, some (x6) = some o3 ∧ Fr 119 [] [(1, .int .i64 p1), (2, .int .i64 p2), (3, .int .i64 p3), (4, .int .i64 p4), (5, .int .i64 p5), (13, .pointer (some ⟨b2, 0, none⟩)), (14, .bool false), (18, v7), (19, v13), (20, .int .i64 x5), (21, v14)] a ∧ Stw ⟨Y, [], w0⟩ [(b5, (GA)), (b4, (GC)), (b3, (CT x3 v5 v6)), (b2, (F0 p6)), (b1, (Fu p0 v1 v2))] [Ee v7 Bf x4, row v13 37 C9 ([Tr37.of (3, Tr34.of (0, 0, 0, ([] : List Tr34)), 0, 0, ([Tr37.of (1, Tr34.of (1, 0, 0, ([] : List Tr34)), 0, 0, ([] : List Tr37)), Tr37.of (x3.un.1, Tr34.of (x3.un.2.1.un.1, x3.un.2.1.un.2.1, x3.un.2.1.un.2.2.1, x3.un.2.1.un.2.2.2), x3.un.2.2.1, x3.un.2.2.2.1, x3.un.2.2.2.2)] : List Tr37)), Tr37.of (3, Tr34.of (0, 0, 0, ([] : List Tr34)), 0, 0, ([Tr37.of (x3.un.1, Tr34.of (x3.un.2.1.un.1, x3.un.2.1.un.2.1, x3.un.2.1.un.2.2.1, x3.un.2.1.un.2.2.2), x3.un.2.2.1, x3.un.2.2.2.1, x3.un.2.2.2.2), Tr37.of (1, Tr34.of (1, 0, 0, ([] : List Tr34)), 0, 0, ([] : List Tr37))] : List Tr37)), Tr37.of (4, Tr34.of (0, 0, 0, ([] : List Tr34)), 0, 0, ([Tr37.of (1, Tr34.of (2, 0, 0, ([] : List Tr34)), 0, 0, ([] : List Tr37)), Tr37.of (x3.un.1, Tr34.of (x3.un.2.1.un.1, x3.un.2.1.un.2.1, x3.un.2.1.un.2.2.1, x3.un.2.1.un.2.2.2), x3.un.2.2.1, x3.un.2.2.2.1, x3.un.2.2.2.2)] : List Tr37)), Tr37.of (3, Tr34.of (0, 0, 0, ([] : List Tr34)), 0, 0, ([Tr37.of (1, Tr34.of (2, 0, 0, ([] : List Tr34)), 0, 0, ([] : List Tr37)), Tr37.of (x3.un.1, Tr34.of (x3.un.2.1.un.1, x3.un.2.1.un.2.1, x3.un.2.1.un.2.2.1, x3.un.2.1.un.2.2.2), x3.un.2.2.1, x3.un.2.2.2.1, x3.un.2.2.2.2)] : List Tr37)), Tr37.of (3, Tr34.of (0, 0, 0, ([] : List Tr34)), 0, 0, ([Tr37.of (x3.un.1, Tr34.of (x3.un.2.1.un.1, x3.un.2.1.un.2.1, x3.un.2.1.un.2.2.1, x3.un.2.1.un.2.2.2), x3.un.2.2.1, x3.un.2.2.2.1, x3.un.2.2.2.2), Tr37.of (1, Tr34.of (2, 0, 0, ([] : List Tr34)), 0, 0, ([] : List Tr37))] : List Tr37))] : List Tr37), Ee v14 Bf x6, Ee v5 CA x3.un.2.1.un.2.2.2, Ee v6 C9 x3.un.2.2.2.2] w) ?_ ?_
   ·
    have H := G3
    clear G3 K3
    refine vc tk 6 W F fun a w W F => ?_
    refine BI W Aa H (fun W H => ?_) fun W H => ?_
    ·
     refine vc tk 3 W F fun a w W F => ?_
     refine Ac ?_
     have F := F.note (Sl.nil (r := Bf))
     have F := F.frontZ (i := 4) Aa Aa
     have F := F.frontZ (i := 4) Aa Aa
     have F := F.frontZ (i := 2) Aa Aa
     have F := F.frontZ (i := 4) Aa Aa
     have F := F.frontZ (i := 4) Aa Aa
     have F := F.frontM (i := 4) Aa Aa
     have F := F.frontM (i := 4) Aa Aa
     have F := F.frontM (i := 4) Aa Aa
     have F := F.frontM (i := 4) Aa Aa
     have F := F.frontM (i := 4) Aa Aa
     exact ⟨_, (Value.slice none 0 0), H, W.ra Aa, F⟩
    refine AW (Ac ?_)
    have F := F.note (F.item (i := 0) Aa)
    have F := F.frontZ (i := 4) Aa Aa
    have F := F.frontZ (i := 4) Aa Aa
    have F := F.frontZ (i := 2) Aa Aa
    have F := F.frontZ (i := 4) Aa Aa
    have F := F.frontZ (i := 4) Aa Aa
    have F := F.frontM (i := 4) Aa Aa
    have F := F.frontM (i := 4) Aa Aa
    have F := F.frontM (i := 4) Aa Aa
    have F := F.frontM (i := 4) Aa Aa
    have F := F.frontM (i := 4) Aa Aa
    exact ⟨_, (v7), H, W.ra Aa, F⟩
   rintro a w ⟨x6, v14, hj, W, F⟩
   have hj := AA hj
   subst hj
   have H := K3
   clear G3 K3
   obtain ⟨o4, G4, K4⟩ := Ad H
   refine Ay (fun a w => ∃ x7 : Bool, some (x7) = some o4 ∧ Fr 119 [] [(1, .int .i64 p1), (2, .int .i64 p2), (3, .int .i64 p3), (4, .int .i64 p4), (5, .int .i64 p5), (13, .pointer (some ⟨b2, 0, none⟩)), (14, .bool false), (18, v7), (19, v13), (20, .int .i64 x5), (88, .bool x7)] a ∧ Stw ⟨Y, [], w0⟩ [(b5, (GA)), (b4, (GC)), (b3, (CT x3 v5 v6)), (b2, (F0 p6)), (b1, (Fu p0 v1 v2))] [Ee v7 Bf x4, row v13 37 C9 ([Tr37.of (3, Tr34.of (0, 0, 0, ([] : List Tr34)), 0, 0, ([Tr37.of (1, Tr34.of (1, 0, 0, ([] : List Tr34)), 0, 0, ([] : List Tr37)), Tr37.of (x3.un.1, Tr34.of (x3.un.2.1.un.1, x3.un.2.1.un.2.1, x3.un.2.1.un.2.2.1, x3.un.2.1.un.2.2.2), x3.un.2.2.1, x3.un.2.2.2.1, x3.un.2.2.2.2)] : List Tr37)), Tr37.of (3, Tr34.of (0, 0, 0, ([] : List Tr34)), 0, 0, ([Tr37.of (x3.un.1, Tr34.of (x3.un.2.1.un.1, x3.un.2.1.un.2.1, x3.un.2.1.un.2.2.1, x3.un.2.1.un.2.2.2), x3.un.2.2.1, x3.un.2.2.2.1, x3.un.2.2.2.2), Tr37.of (1, Tr34.of (1, 0, 0, ([] : List Tr34)), 0, 0, ([] : List Tr37))] : List Tr37)), Tr37.of (4, Tr34.of (0, 0, 0, ([] : List Tr34)), 0, 0, ([Tr37.of (1, Tr34.of (2, 0, 0, ([] : List Tr34)), 0, 0, ([] : List Tr37)), Tr37.of (x3.un.1, Tr34.of (x3.un.2.1.un.1, x3.un.2.1.un.2.1, x3.un.2.1.un.2.2.1, x3.un.2.1.un.2.2.2), x3.un.2.2.1, x3.un.2.2.2.1, x3.un.2.2.2.2)] : List Tr37)), Tr37.of (3, Tr34.of (0, 0, 0, ([] : List Tr34)), 0, 0, ([Tr37.of (1, Tr34.of (2, 0, 0, ([] : List Tr34)), 0, 0, ([] : List Tr37)), Tr37.of (x3.un.1, Tr34.of (x3.un.2.1.un.1, x3.un.2.1.un.2.1, x3.un.2.1.un.2.2.1, x3.un.2.1.un.2.2.2), x3.un.2.2.1, x3.un.2.2.2.1, x3.un.2.2.2.2)] : List Tr37)), Tr37.of (3, Tr34.of (0, 0, 0, ([] : List Tr34)), 0, 0, ([Tr37.of (x3.un.1, Tr34.of (x3.un.2.1.un.1, x3.un.2.1.un.2.1, x3.un.2.1.un.2.2.1, x3.un.2.1.un.2.2.2), x3.un.2.2.1, x3.un.2.2.2.1, x3.un.2.2.2.2), Tr37.of (1, Tr34.of (2, 0, 0, ([] : List Tr34)), 0, 0, ([] : List Tr37))] : List Tr37))] : List Tr37), Ee v5 CA x3.un.2.1.un.2.2.2, Ee v6 C9 x3.un.2.2.2.2] w) ?_ ?_
   ·
    have H := G4
    clear G4 K4
    have F := F.frontZ (i := 1) Aa Aa
    obtain ⟨v15, h7, F⟩ := F.exR ED
    have F := F.frontZ (i := 3) Aa Aa
    obtain ⟨v16, h8, F⟩ := F.exF CD
    have F := F.frontZ (i := 4) Aa Aa
    obtain ⟨v17, h9, F⟩ := F.exF ED
    refine D3 [(true, 0), (true, 1), (true, 2), (true, 3), (false, 4), (false, 5), (true, 6), (true, 7), (true, 8), (true, 9), (true, 10), (true, 11), (true, 12), (true, 13), (true, 15), (false, 14), (false, 16), (true, 17), (true, 18)] (CN ⟨Y, [], w0⟩ [] [(some 4, row v13 37 FV v15)]) (fun ch a d v w h => by cases d <;> exact h) MO (by kernel_rfl) F (fun w F => ⟨_, _, F, Ag, (all_cons (fun _ => (.tail _ (.tail _ (.head _)))) Ag)⟩) fun w F => ?_
    iterate 2 refine Bn (R := []) W Aa Aa (yC fun M Z hN hZ => An W Aa) Aa Aa fun a W => ?_
    obtain ⟨x8, h10, H⟩ := Ad H
    obtain ⟨v18, h11, h12⟩ := DH h7 h10
    have h13 : Hy v18 = [.int .i64 x8.un.1, .int .i64 x8.un.2.1.un.1, .int .i64 x8.un.2.1.un.2.1, .int .i64 x8.un.2.1.un.2.2.1, (v18.2.1.2.2.2.1), .int .i64 x8.un.2.2.1, .int .i64 x8.un.2.2.2.1, (v18.2.2.2.2.1)] := congrArg (fun q : Tr37 => ([.int .i64 q.un.1, .int .i64 q.un.2.1.un.1, .int .i64 q.un.2.1.un.2.1, .int .i64 q.un.2.1.un.2.2.1, (v18.2.1.2.2.2.1), .int .i64 q.un.2.2.1, .int .i64 q.un.2.2.2.1, (v18.2.2.2.2.1)] : List Value)) h12
    refine Bn (R := []) W Aa Aa (yC fun M Z hN hZ => Cl (r := FV) OO W Aa Aa (Eh F (Aj 2 Aa)) h11) Aa Aa fun a W => ?_
    refine Bn (R := [4]) W Aa Aa (yC fun M Z hN hZ => Al (y := Value.agg #[.int .i64 x8.un.1, .int .i64 x8.un.2.1.un.1, .int .i64 x8.un.2.1.un.2.1, .int .i64 x8.un.2.1.un.2.2.1, (v18.2.1.2.2.2.1), .int .i64 x8.un.2.2.1, .int .i64 x8.un.2.2.2.1, (v18.2.2.2.2.1)]) (j := 0) (i := x5) (enc := Hy) W Aa Aa (DJ (hZ ((some 4), row v13 37 FV v15) (.head _) Aa)) h11 NH IF (by rw [h13]; rfl)) (by kernel_rfl) Aa fun a W => ?_
    refine Dn Aa ?_
    obtain ⟨x9, h14, H⟩ := Ad H
    refine Bu (Ml := []) (Zl := []) (β := Value × Value) (rv := fun x => .agg #[.int .i64 x9.un.1, .int .i64 x9.un.2.1.un.1, .int .i64 x9.un.2.1.un.2.1, .int .i64 x9.un.2.1.un.2.2.1, x.1, .int .i64 x9.un.2.2.1, .int .i64 x9.un.2.2.2.1, x.2]) (MM := fun x => []) (ZZ := fun x => [row x.1 24 DL x9.un.2.1.un.2.2.2, row x.2 27 GL x9.un.2.2.2.2]) W F XP Aa Aa (fun hL => Lp _ w ((v18.2.1.2.2.2.1)) ((v18.2.2.2.2.1)) (Tr37.of (x8.un.1, Tr34.of (x8.un.2.1.un.1, x8.un.2.1.un.2.1, x8.un.2.1.un.2.2.1, x8.un.2.1.un.2.2.2), x8.un.2.2.1, x8.un.2.2.2.1, x8.un.2.2.2.2)) _ h14 ((BD (Aj 2 Aa) h11 (Ah.snd (Ah.fst (Ah.snd (Ah.snd (Ah.snd Ah.here))))) (congrArg (fun q : Tr37 => q.un.2.1.un.2.2.2) h12)) w F).nx ((BD (Aj 2 Aa) h11 (Ah.snd (Ah.snd (Ah.snd (Ah.snd Ah.here)))) (congrArg (fun q : Tr37 => q.un.2.2.2.2) h12)) w F).nx) fun x a w W F => ?_
    obtain ⟨v19, v20⟩ := x
    have F : Stw ⟨Y, [], w0⟩ [(b5, (GA)), (b4, (GC)), (b3, (CT x3 v5 v6)), (b2, (F0 p6)), (b1, (Fu p0 v1 v2))] [row v19 24 DL x9.un.2.1.un.2.2.2, row v20 27 GL x9.un.2.2.2.2, Ee v6 FV v17, Ee v5 JB v16, row v13 37 FV v15, Ee v7 Bf x4, Ee v14 Bf x6] w := F
    refine Bk (N2 := []) (NZ2 := []) (N3 := []) (NZ3 := [(some 4, row v13 37 FV v15)]) F Aa Aa Ag (all_cons (fun h => Ai (by kernel_rfl) h) Ag) ?_
    refine Dn Aa ?_
    obtain ⟨x10, h15, H⟩ := Ad H
    refine ls W F Aa (AL (v := Value.bool x10) W XK Aa (fun w F => Ke any w (v19) (v20) (Tr27.of (x9.un.1, Tr24.of (x9.un.2.1.un.1, x9.un.2.1.un.2.1, x9.un.2.1.un.2.2.1, x9.un.2.1.un.2.2.2), x9.un.2.2.1, x9.un.2.2.2.1, x9.un.2.2.2.2)) _ h15 (Ef (Aj 0 Aa) F) (Ef (Aj 1 Aa) F))) fun a w W F => ?_
    refine Bk (N2 := [(some 14, b2, [.int .i64 p6.1, .int .i64 p6.2.1, .int .i64 p6.2.2.1, .int .i64 p6.2.2.2])]) (NZ2 := [(some 14, row v13 37 FV v15)]) (N3 := [(some 14, b2, [.int .i64 p6.1, .int .i64 p6.2.1, .int .i64 p6.2.2.1, .int .i64 p6.2.2.2])]) (NZ3 := [(some 4, row v13 37 FV v15), (some 14, row v13 37 FV v15)]) F Aa Aa (all_cons (fun _ => (.tail _ (.tail _ (.tail _ (.head _))))) Ag) (all_cons (fun h => Ai (by kernel_rfl) h) (all_cons (fun _ => (.tail _ (.tail _ (.tail _ (.tail _ (.head _)))))) Ag)) ?_
    refine Bn (R := []) W Aa Aa (yC fun M Z hN hZ => An W Aa) Aa Aa fun a W => ?_
    rcases Bool.eq_false_or_eq_true x10 with hb | hb
    ·
     have H := B7 hb H
     rw [hb] at W
     clear hb
     iterate 2 refine Mu (R := []) W Aa (Ab W Aa Aa Aa Aa) Aa Aa (yC fun M Z hN hZ => An W Aa) Aa Aa fun a W => ?_
     obtain ⟨x11, h16, H⟩ := Ad H
     obtain ⟨v21, h17, h18⟩ := DH h7 h16
     have h19 : Hy v21 = [.int .i64 x11.un.1, .int .i64 x11.un.2.1.un.1, .int .i64 x11.un.2.1.un.2.1, .int .i64 x11.un.2.1.un.2.2.1, (v21.2.1.2.2.2.1), .int .i64 x11.un.2.2.1, .int .i64 x11.un.2.2.2.1, (v21.2.2.2.2.1)] := congrArg (fun q : Tr37 => ([.int .i64 q.un.1, .int .i64 q.un.2.1.un.1, .int .i64 q.un.2.1.un.2.1, .int .i64 q.un.2.1.un.2.2.1, (v21.2.1.2.2.2.1), .int .i64 q.un.2.2.1, .int .i64 q.un.2.2.2.1, (v21.2.2.2.2.1)] : List Value)) h18
     refine Mu (R := []) W Aa (Ab W Aa Aa Aa Aa) Aa Aa (yC fun M Z hN hZ => Cl (r := FV) OO W Aa Aa (Eh F (Aj 4 Aa)) h17) Aa Aa fun a W => ?_
     refine Mu (R := [14]) W Aa (Ab W Aa Aa Aa Aa) Aa Aa (yC fun M Z hN hZ => Al (y := Value.agg #[.int .i64 x11.un.1, .int .i64 x11.un.2.1.un.1, .int .i64 x11.un.2.1.un.2.1, .int .i64 x11.un.2.1.un.2.2.1, (v21.2.1.2.2.2.1), .int .i64 x11.un.2.2.1, .int .i64 x11.un.2.2.2.1, (v21.2.2.2.2.1)]) (j := 0) (i := x5) (enc := Hy) W Aa Aa (DJ (hZ ((some 14), row v13 37 FV v15) (.tail _ (.head _)) Aa)) h17 NH IF (by rw [h19]; rfl)) (by kernel_rfl) Aa fun a W => ?_
     iterate 2 refine Mu (R := []) W Aa (Ab W Aa Aa Aa Aa) Aa Aa (yC fun M Z hN hZ => An W Aa) Aa Aa fun a W => ?_
     refine Mu (R := [14]) W Aa (Ab W Aa Aa Aa Aa) Aa Aa (yC fun M Z hN hZ => CC (cs := (F0 p6)) (v := Value.agg #[.int .i64 p6.1, .int .i64 p6.2.1, .int .i64 p6.2.2.1, .int .i64 p6.2.2.2]) W Aa (hN ((some 14), b2, (F0 p6)) (.head _) Aa) S5 Aa) (by kernel_rfl) Aa fun a W => ?_
     refine Mu (R := []) W Aa (Ab W Aa Aa Aa Aa) Aa Aa (yC fun M Z hN hZ => An W Aa) Aa Aa fun a W => ?_
     refine Dn Aa ?_
     refine HJ (Ab W Aa Aa Aa Aa) ?_
     obtain ⟨x12, h20, H⟩ := Ad H
     refine Bu (Ml := []) (Zl := []) (β := Value) (rv := fun x => x) (MM := fun x => []) (ZZ := fun x => [row x 63 Bf x12]) W F WO Aa Aa (fun hL => GB _ w ((v21.2.1.2.2.2.1)) ((v21.2.2.2.2.1)) (Tr37.of (x11.un.1, Tr34.of (x11.un.2.1.un.1, x11.un.2.1.un.2.1, x11.un.2.1.un.2.2.1, x11.un.2.1.un.2.2.2), x11.un.2.2.1, x11.un.2.2.2.1, x11.un.2.2.2.2)) p4 p5 p6 _ h20 ((BD (Aj 4 Aa) h17 (Ah.snd (Ah.fst (Ah.snd (Ah.snd (Ah.snd Ah.here))))) (congrArg (fun q : Tr37 => q.un.2.1.un.2.2.2) h18)) w F).nx (F.rowAt (k := 4) Aa h17 (Ah.snd (Ah.snd (Ah.snd (Ah.snd Ah.here)))) (congrArg (fun q : Tr37 => q.un.2.2.2.2) h18))) fun x a w W F => ?_
     obtain ⟨v22, rfl⟩ : ∃ y, y = x := ⟨x, rfl⟩
     have F : Stw ⟨Y, [], w0⟩ [(b5, (GA)), (b4, (GC)), (b3, (CT x3 v5 v6)), (b2, (F0 p6)), (b1, (Fu p0 v1 v2))] [row v22 63 Bf x12, row v19 24 DL x9.un.2.1.un.2.2.2, row v20 27 GL x9.un.2.2.2.2, Ee v6 FV v17, Ee v5 JB v16, row v13 37 FV v15, Ee v7 Bf x4, Ee v14 Bf x6] w := F
     refine Bk (N2 := []) (NZ2 := []) (N3 := [(some 14, b2, [.int .i64 p6.1, .int .i64 p6.2.1, .int .i64 p6.2.2.1, .int .i64 p6.2.2.2])]) (NZ3 := [(some 4, row v13 37 FV v15), (some 14, row v13 37 FV v15)]) F Aa Aa (all_cons (fun h => Ai (by kernel_rfl) h) Ag) (all_cons (fun h => Ai (by kernel_rfl) h) (all_cons (fun h => Ai (by kernel_rfl) h) Ag)) ?_
     refine Dn Aa ?_
     refine HJ (Ab W Aa Aa Aa Aa) ?_
     obtain ⟨x13, h21, H⟩ := Ad H
     refine ls W F Aa (AL (v := Value.bool x13) W YD Aa (fun w F => NO any w (v22) (v14) x12 x6 _ h21 (Ef (Aj 0 Aa) F) (Ef (LD 7 Aa) F))) fun a w W F => ?_
     refine Bk (N2 := []) (NZ2 := []) (N3 := [(some 14, b2, [.int .i64 p6.1, .int .i64 p6.2.1, .int .i64 p6.2.2.1, .int .i64 p6.2.2.2])]) (NZ3 := [(some 4, row v13 37 FV v15), (some 14, row v13 37 FV v15)]) F Aa Aa (all_cons (fun h => Ai (by kernel_rfl) h) Ag) (all_cons (fun h => Ai (by kernel_rfl) h) (all_cons (fun h => Ai (by kernel_rfl) h) Ag)) ?_
     refine Mu (R := []) W Aa (Ab W Aa Aa Aa Aa) Aa Aa (yC fun M Z hN hZ => Js W Aa) Aa Aa fun a W => ?_
     refine Bn (R := []) W Aa Aa (yC fun M Z hN hZ => Bq W Aa Aa Aa) Aa Aa fun a W => ?_
     refine Ft ?_
     have F := F.note (F.rowAt (k := 5) Aa h11 (Ah.snd (Ah.fst (Ah.snd (Ah.snd (Ah.snd Ah.here))))) (congrArg (fun q : Tr37 => q.un.2.1.un.2.2.2) h12))
     have F := F.note (F.rowAt (k := 6) Aa h11 (Ah.snd (Ah.snd (Ah.snd (Ah.snd Ah.here)))) (congrArg (fun q : Tr37 => q.un.2.2.2.2) h12))
     have F := F.note (F.rowAt (k := 7) Aa h17 (Ah.snd (Ah.fst (Ah.snd (Ah.snd (Ah.snd Ah.here))))) (congrArg (fun q : Tr37 => q.un.2.1.un.2.2.2) h18))
     have F := F.note (F.rowAt (k := 8) Aa h17 (Ah.snd (Ah.snd (Ah.snd (Ah.snd Ah.here)))) (congrArg (fun q : Tr37 => q.un.2.2.2.2) h18))
     refine Ac ?_
     have F := F.frontZ (i := 9) Aa Aa
     have F := F.hideR ED h7
     have F := F.frontZ (i := 9) Aa Aa
     have F := F.hideF CD h8
     have F := F.frontZ (i := 9) Aa Aa
     have F := F.hideF ED h9
     have F := F.frontZ (i := 1) Aa Aa
     have F := F.frontZ (i := 2) Aa Aa
     have F := F.frontZ (i := 10) Aa Aa
     have F := F.frontM (i := 4) Aa Aa
     have F := F.frontM (i := 4) Aa Aa
     have F := F.frontM (i := 4) Aa Aa
     have F := F.frontM (i := 4) Aa Aa
     have F := F.frontM (i := 4) Aa Aa
     have F := F.sub (M' := [(b5, (GA)), (b4, (GC)), (b3, (CT x3 v5 v6)), (b2, (F0 p6)), (b1, (Fu p0 v1 v2))]) (Z' := [Ee v7 Bf x4, row v13 37 C9 ([Tr37.of (3, Tr34.of (0, 0, 0, ([] : List Tr34)), 0, 0, ([Tr37.of (1, Tr34.of (1, 0, 0, ([] : List Tr34)), 0, 0, ([] : List Tr37)), Tr37.of (x3.un.1, Tr34.of (x3.un.2.1.un.1, x3.un.2.1.un.2.1, x3.un.2.1.un.2.2.1, x3.un.2.1.un.2.2.2), x3.un.2.2.1, x3.un.2.2.2.1, x3.un.2.2.2.2)] : List Tr37)), Tr37.of (3, Tr34.of (0, 0, 0, ([] : List Tr34)), 0, 0, ([Tr37.of (x3.un.1, Tr34.of (x3.un.2.1.un.1, x3.un.2.1.un.2.1, x3.un.2.1.un.2.2.1, x3.un.2.1.un.2.2.2), x3.un.2.2.1, x3.un.2.2.2.1, x3.un.2.2.2.2), Tr37.of (1, Tr34.of (1, 0, 0, ([] : List Tr34)), 0, 0, ([] : List Tr37))] : List Tr37)), Tr37.of (4, Tr34.of (0, 0, 0, ([] : List Tr34)), 0, 0, ([Tr37.of (1, Tr34.of (2, 0, 0, ([] : List Tr34)), 0, 0, ([] : List Tr37)), Tr37.of (x3.un.1, Tr34.of (x3.un.2.1.un.1, x3.un.2.1.un.2.1, x3.un.2.1.un.2.2.1, x3.un.2.1.un.2.2.2), x3.un.2.2.1, x3.un.2.2.2.1, x3.un.2.2.2.2)] : List Tr37)), Tr37.of (3, Tr34.of (0, 0, 0, ([] : List Tr34)), 0, 0, ([Tr37.of (1, Tr34.of (2, 0, 0, ([] : List Tr34)), 0, 0, ([] : List Tr37)), Tr37.of (x3.un.1, Tr34.of (x3.un.2.1.un.1, x3.un.2.1.un.2.1, x3.un.2.1.un.2.2.1, x3.un.2.1.un.2.2.2), x3.un.2.2.1, x3.un.2.2.2.1, x3.un.2.2.2.2)] : List Tr37)), Tr37.of (3, Tr34.of (0, 0, 0, ([] : List Tr34)), 0, 0, ([Tr37.of (x3.un.1, Tr34.of (x3.un.2.1.un.1, x3.un.2.1.un.2.1, x3.un.2.1.un.2.2.1, x3.un.2.1.un.2.2.2), x3.un.2.2.1, x3.un.2.2.2.1, x3.un.2.2.2.2), Tr37.of (1, Tr34.of (2, 0, 0, ([] : List Tr34)), 0, 0, ([] : List Tr37))] : List Tr37))] : List Tr37), Ee v5 CA x3.un.2.1.un.2.2.2, Ee v6 C9 x3.un.2.2.2.2]) (List.Sublist.refl _) (List.Sublist.cons_cons _ (List.Sublist.cons_cons _ (List.Sublist.cons_cons _ (List.Sublist.cons_cons _ (List.nil_sublist _)))))
     exact ⟨_, H, W.ra Aa, F⟩
    have H := B6 (by rw [hb]; decide) H
    rw [hb] at W
    clear hb
    iterate 8 refine PJ W Aa (A0 W Aa Aa Aa Aa Aa) Aa Aa Aa fun a W => ?_
    refine Dn Aa ?_
    refine Wi W Aa Aa Aa Aa Aa Aa Aa fun a W => ?_
    refine Bk (N2 := []) (NZ2 := []) (N3 := [(some 14, b2, [.int .i64 p6.1, .int .i64 p6.2.1, .int .i64 p6.2.2.1, .int .i64 p6.2.2.2])]) (NZ3 := [(some 4, row v13 37 FV v15), (some 14, row v13 37 FV v15)]) F Aa Aa (all_cons (fun h => Ai (by kernel_rfl) h) Ag) (all_cons (fun h => Ai (by kernel_rfl) h) (all_cons (fun h => Ai (by kernel_rfl) h) Ag)) ?_
    refine Dn Aa ?_
    refine Wi W Aa Aa Aa Aa Aa Aa Aa fun a W => ?_
    refine Bk (N2 := []) (NZ2 := []) (N3 := [(some 14, b2, [.int .i64 p6.1, .int .i64 p6.2.1, .int .i64 p6.2.2.1, .int .i64 p6.2.2.2])]) (NZ3 := [(some 4, row v13 37 FV v15), (some 14, row v13 37 FV v15)]) F Aa Aa (all_cons (fun h => Ai (by kernel_rfl) h) Ag) (all_cons (fun h => Ai (by kernel_rfl) h) (all_cons (fun h => Ai (by kernel_rfl) h) Ag)) ?_
    refine PJ W Aa (A0 W Aa Aa Aa Aa Aa) Aa Aa Aa fun a W => ?_
    refine Bn (R := []) W Aa Aa (yC fun M Z hN hZ => Bp W Aa Aa Aa) Aa Aa fun a W => ?_
    refine Ft ?_
    have F := F.note (F.rowAt (k := 4) Aa h11 (Ah.snd (Ah.fst (Ah.snd (Ah.snd (Ah.snd Ah.here))))) (congrArg (fun q : Tr37 => q.un.2.1.un.2.2.2) h12))
    have F := F.note (F.rowAt (k := 5) Aa h11 (Ah.snd (Ah.snd (Ah.snd (Ah.snd Ah.here)))) (congrArg (fun q : Tr37 => q.un.2.2.2.2) h12))
    refine Ac ?_
    have F := F.frontZ (i := 6) Aa Aa
    have F := F.hideR ED h7
    have F := F.frontZ (i := 6) Aa Aa
    have F := F.hideF CD h8
    have F := F.frontZ (i := 6) Aa Aa
    have F := F.hideF ED h9
    have F := F.frontZ (i := 1) Aa Aa
    have F := F.frontZ (i := 2) Aa Aa
    have F := F.frontZ (i := 7) Aa Aa
    have F := F.frontM (i := 4) Aa Aa
    have F := F.frontM (i := 4) Aa Aa
    have F := F.frontM (i := 4) Aa Aa
    have F := F.frontM (i := 4) Aa Aa
    have F := F.frontM (i := 4) Aa Aa
    have F := F.sub (M' := [(b5, (GA)), (b4, (GC)), (b3, (CT x3 v5 v6)), (b2, (F0 p6)), (b1, (Fu p0 v1 v2))]) (Z' := [Ee v7 Bf x4, row v13 37 C9 ([Tr37.of (3, Tr34.of (0, 0, 0, ([] : List Tr34)), 0, 0, ([Tr37.of (1, Tr34.of (1, 0, 0, ([] : List Tr34)), 0, 0, ([] : List Tr37)), Tr37.of (x3.un.1, Tr34.of (x3.un.2.1.un.1, x3.un.2.1.un.2.1, x3.un.2.1.un.2.2.1, x3.un.2.1.un.2.2.2), x3.un.2.2.1, x3.un.2.2.2.1, x3.un.2.2.2.2)] : List Tr37)), Tr37.of (3, Tr34.of (0, 0, 0, ([] : List Tr34)), 0, 0, ([Tr37.of (x3.un.1, Tr34.of (x3.un.2.1.un.1, x3.un.2.1.un.2.1, x3.un.2.1.un.2.2.1, x3.un.2.1.un.2.2.2), x3.un.2.2.1, x3.un.2.2.2.1, x3.un.2.2.2.2), Tr37.of (1, Tr34.of (1, 0, 0, ([] : List Tr34)), 0, 0, ([] : List Tr37))] : List Tr37)), Tr37.of (4, Tr34.of (0, 0, 0, ([] : List Tr34)), 0, 0, ([Tr37.of (1, Tr34.of (2, 0, 0, ([] : List Tr34)), 0, 0, ([] : List Tr37)), Tr37.of (x3.un.1, Tr34.of (x3.un.2.1.un.1, x3.un.2.1.un.2.1, x3.un.2.1.un.2.2.1, x3.un.2.1.un.2.2.2), x3.un.2.2.1, x3.un.2.2.2.1, x3.un.2.2.2.2)] : List Tr37)), Tr37.of (3, Tr34.of (0, 0, 0, ([] : List Tr34)), 0, 0, ([Tr37.of (1, Tr34.of (2, 0, 0, ([] : List Tr34)), 0, 0, ([] : List Tr37)), Tr37.of (x3.un.1, Tr34.of (x3.un.2.1.un.1, x3.un.2.1.un.2.1, x3.un.2.1.un.2.2.1, x3.un.2.1.un.2.2.2), x3.un.2.2.1, x3.un.2.2.2.1, x3.un.2.2.2.2)] : List Tr37)), Tr37.of (3, Tr34.of (0, 0, 0, ([] : List Tr34)), 0, 0, ([Tr37.of (x3.un.1, Tr34.of (x3.un.2.1.un.1, x3.un.2.1.un.2.1, x3.un.2.1.un.2.2.1, x3.un.2.1.un.2.2.2), x3.un.2.2.1, x3.un.2.2.2.1, x3.un.2.2.2.2), Tr37.of (1, Tr34.of (2, 0, 0, ([] : List Tr34)), 0, 0, ([] : List Tr37))] : List Tr37))] : List Tr37), Ee v5 CA x3.un.2.1.un.2.2.2, Ee v6 C9 x3.un.2.2.2.2]) (List.Sublist.refl _) (List.Sublist.cons_cons _ (List.Sublist.cons_cons _ (List.Sublist.cons_cons _ (List.Sublist.cons_cons _ (List.nil_sublist _)))))
    exact ⟨_, H, W.ra Aa, F⟩
   rintro a w ⟨x7, hj, W, F⟩
   have hj := AA hj
   subst hj
   have H := K4
   clear G4 K4
   refine Cv W Aa H (fun W H => ?_) fun W H => ?_
   ·
    refine vc tk 5 W F fun a w W F => ?_
    refine Ak (AE ?_)
    iterate 2 refine Ax ?_
    refine AE (Ax ?_)
    have H := L2 _ H
    have H := L1 _ H
    have H := AA H
    subst H
    refine Au (.inl Aa) W F Aa (Am W Aa) ?_
    exact ⟨rfl, F.done⟩
   refine AW (AG ?_)
   refine vn tk 5 W F fun a w W F => ?_
   refine Ac ?_
   have F := F.frontZ (i := 3) Aa Aa
   have F := F.frontZ (i := 3) Aa Aa
   have F := F.frontZ (i := 3) Aa Aa
   have F := F.frontZ (i := 3) Aa Aa
   have F := F.frontM (i := 4) Aa Aa
   have F := F.frontM (i := 4) Aa Aa
   have F := F.frontM (i := 4) Aa Aa
   have F := F.frontM (i := 4) Aa Aa
   have F := F.frontM (i := 4) Aa Aa
   exact ⟨_, H, W.ra Aa, F⟩
  refine Br ?_
  iterate 2 refine BK ?_
  refine Bo (Ac ?_)
  have F := F.frontZ (i := 3) Aa Aa
  have F := F.frontZ (i := 3) Aa Aa
  have F := F.frontM (i := 4) Aa Aa
  have F := F.frontM (i := 4) Aa Aa
  have F := F.frontM (i := 4) Aa Aa
  have F := F.frontM (i := 4) Aa Aa
  have F := F.frontM (i := 4) Aa Aa
  have F := F.sub (M' := [(b5, (GA)), (b4, (GC)), (b3, (CT x3 v5 v6)), (b2, (F0 p6)), (b1, (Fu p0 v1 v2))]) (Z' := [Ee v5 CA x3.un.2.1.un.2.2.2, Ee v6 C9 x3.un.2.2.2.2]) (List.Sublist.refl _) (List.Sublist.cons_cons _ (List.Sublist.cons_cons _ (List.nil_sublist _)))
  have H := L2 _ H
  exact ⟨H, W.ra Aa, F⟩
 rintro a w ⟨hj, W, F⟩
 have H := K1 _ hj
 clear hj G1 K1 L1
 refine vc tk 4 W F fun a w W F => ?_
 refine ls W F Aa (Cz (v := Value.agg #[.int .i64 2, .int .i64 0, .int .i64 0, .int .i64 0, .slice none 0 0, .int .i64 p1, .int .i64 p2, .slice none 0 0]) Q8 W Aa Aa Aa).q fun a w W F => ?_
 refine vl tk 2 W F fun a w W F => ?_
 refine ls W F Aa (Cz (v := Value.agg #[.int .i64 2, .int .i64 0, .int .i64 0, .int .i64 0, .slice none 0 0, .int .i64 p1, .int .i64 p3, .slice none 0 0]) Q8 W Aa Aa Aa).q fun a w W F => ?_
 refine B8 (cs := (F4)) W F Aa Mk Aa fun b6 a w W F => ?_
 refine B8 (cs := (F4)) W F Aa Mk Aa fun b7 a w W F => ?_
 refine D2 1 W F Aa Aa Aa IF Aa Aa Aa fun w F => ?_
 refine D2 0 W F Aa Aa Aa IF Aa Aa Aa fun w F => ?_
 refine FA tk 6 [1, 0] W F (ai (ai fun a w W F => ?_))
 refine Hr (z := Value.agg #[.int .i64 0, .int .i64 0, .int .i64 0, .int .i64 0, .slice none 0 0, .int .i64 0, .int .i64 0, .slice none 0 0]) (cs := [.int .i64 2, .int .i64 0, .int .i64 0, .int .i64 0, .slice none 0 0, .int .i64 p1, .int .i64 p2, .slice none 0 0, .int .i64 2, .int .i64 0, .int .i64 0, .int .i64 0, .slice none 0 0, .int .i64 p1, .int .i64 p3, .slice none 0 0]) C9 ([Tr37.of (2, Tr34.of (0, 0, 0, ([] : List Tr34)), p1, p2, ([] : List Tr37)), Tr37.of (2, Tr34.of (0, 0, 0, ([] : List Tr34)), p1, p3, ([] : List Tr37))] : List Tr37) W F Aa OO Mk Aa Aa Aa (A7 Aa Aa Aa (A7 Aa Aa Aa C1)) Aa Aa ⟨[Value.int .i64 2, Value.int .i64 0, Value.int .i64 0, Value.int .i64 0, Value.slice none 0 0, Value.int .i64 p1, Value.int .i64 p2, Value.slice none 0 0], _, Aa, (IJ.2 ⟨[Value.int .i64 2], [Value.int .i64 0, Value.int .i64 0, Value.int .i64 0, Value.slice none 0 0, Value.int .i64 p1, Value.int .i64 p2, Value.slice none 0 0], Aa, Aa, ⟨[Value.int .i64 0, Value.int .i64 0, Value.int .i64 0, Value.slice none 0 0], [Value.int .i64 p1, Value.int .i64 p2, Value.slice none 0 0], Aa, (Ij.2 ⟨[Value.int .i64 0], [Value.int .i64 0, Value.int .i64 0, Value.slice none 0 0], Aa, Aa, ⟨[Value.int .i64 0], [Value.int .i64 0, Value.slice none 0 0], Aa, Aa, ⟨[Value.int .i64 0], [Value.slice none 0 0], Aa, Aa, ⟨_, Aa, (Sl.nil (r := CA))⟩⟩⟩⟩), ⟨[Value.int .i64 p1], [Value.int .i64 p2, Value.slice none 0 0], Aa, Aa, ⟨[Value.int .i64 p2], [Value.slice none 0 0], Aa, Aa, ⟨_, Aa, (Sl.nil (r := C9))⟩⟩⟩⟩⟩), ⟨[Value.int .i64 2, Value.int .i64 0, Value.int .i64 0, Value.int .i64 0, Value.slice none 0 0, Value.int .i64 p1, Value.int .i64 p3, Value.slice none 0 0], _, Aa, (IJ.2 ⟨[Value.int .i64 2], [Value.int .i64 0, Value.int .i64 0, Value.int .i64 0, Value.slice none 0 0, Value.int .i64 p1, Value.int .i64 p3, Value.slice none 0 0], Aa, Aa, ⟨[Value.int .i64 0, Value.int .i64 0, Value.int .i64 0, Value.slice none 0 0], [Value.int .i64 p1, Value.int .i64 p3, Value.slice none 0 0], Aa, (Ij.2 ⟨[Value.int .i64 0], [Value.int .i64 0, Value.int .i64 0, Value.slice none 0 0], Aa, Aa, ⟨[Value.int .i64 0], [Value.int .i64 0, Value.slice none 0 0], Aa, Aa, ⟨[Value.int .i64 0], [Value.slice none 0 0], Aa, Aa, ⟨_, Aa, (Sl.nil (r := CA))⟩⟩⟩⟩), ⟨[Value.int .i64 p1], [Value.int .i64 p3, Value.slice none 0 0], Aa, Aa, ⟨[Value.int .i64 p3], [Value.slice none 0 0], Aa, Aa, ⟨_, Aa, (Sl.nil (r := C9))⟩⟩⟩⟩⟩), Aa⟩⟩ fun v23 a w W F => ?_
 refine ls W F Aa (Cz (v := Value.agg #[.int .i64 3, .int .i64 0, .int .i64 0, .int .i64 0, .slice none 0 0, .int .i64 0, .int .i64 0, v23]) Q8 W Aa (A7 Aa Aa Aa (A7 Aa (Gj (F.one (k := 0) Aa)) Aa C1)) Aa).q fun a w W F => ?_
 refine B8 (cs := (F4)) W F Aa Mk Aa fun b8 a w W F => ?_
 refine D2 0 W F Aa Aa Aa IF Aa Aa (Ae Aa (Ae Aa (Ae Aa (Ae Aa (Ae Aa (Ae Aa (Ae Aa (Ae (F.one (k := 0) Aa) Da)))))))) fun w F => ?_
 refine Ev (Ac ?_)
 obtain ⟨o5, G5, K5⟩ := Ad H
 refine Ay (fun a w => ∃ x14 : Bool, ∃ x15 : List Tr37, some ((x14, x15)) = some o5 ∧ Fr 119 [] [(14, .bool x14)] a ∧ Stw ⟨Y, [], w0⟩ [(b8, (JP v23)), (b7, (Hq p1 p3)), (b6, (Hq p1 p2)), (b5, (GA)), (b4, (GC)), (b3, (CT x3 v5 v6)), (b2, (F0 p6)), (b1, (Fu p0 v1 v2))] [Ee v23 C9 x15, Ee v5 CA x3.un.2.1.un.2.2.2, Ee v6 C9 x3.un.2.2.2.2] w) ?_ ?_
 ·
  have H := G5
  clear G5 K5
  refine D3 [(true, 0), (false, 1), (false, 2), (true, 3), (true, 4), (true, 5), (true, 6), (true, 7), (true, 8), (true, 10), (true, 11), (true, 12), (true, 13), (false, 9), (false, 14), (false, 15), (true, 16), (true, 17), (false, 18), (true, 19), (false, 20)] (CN ⟨Y, [], w0⟩ [(some 1, b8, [.int .i64 3, .int .i64 0, .int .i64 0, .int .i64 0, .slice none 0 0, .int .i64 0, .int .i64 0, v23])] []) (fun ch a d v w h => by cases d <;> exact h) MO (by kernel_rfl) F (fun w F => ⟨_, _, F, (all_cons (fun _ => (.head _)) Ag), Ag⟩) fun w F => ?_
  refine Bn (R := [1]) W Aa Aa (yC fun M Z hN hZ => CC (cs := (JP v23)) (v := Value.agg #[.int .i64 3, .int .i64 0, .int .i64 0, .int .i64 0, .slice none 0 0, .int .i64 0, .int .i64 0, v23]) W Aa (hN ((some 1), b8, (JP v23)) (.head _) Aa) IF Aa) (by kernel_rfl) Aa fun a W => ?_
  refine Dn Aa ?_
  obtain ⟨x16, h22, H⟩ := Ad H
  refine Bu (Ml := []) (Zl := []) (β := Value × Value) (rv := fun x => .agg #[.int .i64 x16.un.1, .int .i64 x16.un.2.1.un.1, .int .i64 x16.un.2.1.un.2.1, .int .i64 x16.un.2.1.un.2.2.1, x.1, .int .i64 x16.un.2.2.1, .int .i64 x16.un.2.2.2.1, x.2]) (MM := fun x => []) (ZZ := fun x => [row x.1 24 DL x16.un.2.1.un.2.2.2, row x.2 27 GL x16.un.2.2.2.2]) W F XP Aa Aa (fun hL => Lp _ w (Value.slice none 0 0) (v23) (Tr37.of (3, Tr34.of (0, 0, 0, ([] : List Tr34)), 0, 0, ([Tr37.of (2, Tr34.of (0, 0, 0, ([] : List Tr34)), p1, p2, ([] : List Tr37)), Tr37.of (2, Tr34.of (0, 0, 0, ([] : List Tr34)), p1, p3, ([] : List Tr37))] : List Tr37))) _ h22 Sl.nil ((Aj 0 Aa) w F).nx) fun x a w W F => ?_
  obtain ⟨v24, v25⟩ := x
  have F : Stw ⟨Y, [], w0⟩ [(b8, (JP v23)), (b7, (Hq p1 p3)), (b6, (Hq p1 p2)), (b5, (GA)), (b4, (GC)), (b3, (CT x3 v5 v6)), (b2, (F0 p6)), (b1, (Fu p0 v1 v2))] [row v24 24 DL x16.un.2.1.un.2.2.2, row v25 27 GL x16.un.2.2.2.2, row v23 37 C9 ([Tr37.of (2, Tr34.of (0, 0, 0, ([] : List Tr34)), p1, p2, ([] : List Tr37)), Tr37.of (2, Tr34.of (0, 0, 0, ([] : List Tr34)), p1, p3, ([] : List Tr37))] : List Tr37), Ee v5 CA x3.un.2.1.un.2.2.2, Ee v6 C9 x3.un.2.2.2.2] w := F
  refine Bk (N2 := []) (NZ2 := []) (N3 := [(some 1, b8, [.int .i64 3, .int .i64 0, .int .i64 0, .int .i64 0, .slice none 0 0, .int .i64 0, .int .i64 0, v23])]) (NZ3 := []) F Aa Aa (all_cons (fun h => Ai (by kernel_rfl) h) Ag) Ag ?_
  refine Dn Aa ?_
  obtain ⟨x17, h23, H⟩ := Ad H
  refine ls W F Aa (AL (v := Value.bool x17) W XK Aa (fun w F => Ke any w (v24) (v25) (Tr27.of (x16.un.1, Tr24.of (x16.un.2.1.un.1, x16.un.2.1.un.2.1, x16.un.2.1.un.2.2.1, x16.un.2.1.un.2.2.2), x16.un.2.2.1, x16.un.2.2.2.1, x16.un.2.2.2.2)) _ h23 (Ef (Aj 0 Aa) F) (Ef (Aj 1 Aa) F))) fun a w W F => ?_
  refine Bk (N2 := [(some 9, b8, [.int .i64 3, .int .i64 0, .int .i64 0, .int .i64 0, .slice none 0 0, .int .i64 0, .int .i64 0, v23]), (some 9, b2, [.int .i64 p6.1, .int .i64 p6.2.1, .int .i64 p6.2.2.1, .int .i64 p6.2.2.2]), (some 14, b7, [.int .i64 2, .int .i64 0, .int .i64 0, .int .i64 0, .slice none 0 0, .int .i64 p1, .int .i64 p3, .slice none 0 0]), (some 14, b2, [.int .i64 p6.1, .int .i64 p6.2.1, .int .i64 p6.2.2.1, .int .i64 p6.2.2.2])]) (NZ2 := []) (N3 := [(some 1, b8, [.int .i64 3, .int .i64 0, .int .i64 0, .int .i64 0, .slice none 0 0, .int .i64 0, .int .i64 0, v23]), (some 9, b8, [.int .i64 3, .int .i64 0, .int .i64 0, .int .i64 0, .slice none 0 0, .int .i64 0, .int .i64 0, v23]), (some 9, b2, [.int .i64 p6.1, .int .i64 p6.2.1, .int .i64 p6.2.2.1, .int .i64 p6.2.2.2]), (some 14, b7, [.int .i64 2, .int .i64 0, .int .i64 0, .int .i64 0, .slice none 0 0, .int .i64 p1, .int .i64 p3, .slice none 0 0]), (some 14, b2, [.int .i64 p6.1, .int .i64 p6.2.1, .int .i64 p6.2.2.1, .int .i64 p6.2.2.2])]) (NZ3 := []) F Aa Aa (all_cons (fun h => Ai (by kernel_rfl) h) (all_cons (fun _ => (.head _)) (all_cons (fun _ => (.tail _ (.tail _ (.tail _ (.tail _ (.tail _ (.tail _ (.head _)))))))) (all_cons (fun _ => (.tail _ (.head _))) (all_cons (fun _ => (.tail _ (.tail _ (.tail _ (.tail _ (.tail _ (.tail _ (.head _)))))))) Ag))))) Ag ?_
  refine Bn (R := []) W Aa Aa (yC fun M Z hN hZ => Js W Aa) Aa Aa fun a W => ?_
  refine Bn (R := []) W Aa Aa (yC fun M Z hN hZ => An W Aa) Aa Aa fun a W => ?_
  rcases Bool.eq_false_or_eq_true (!x17) with hb | hb
  ·
   have H := B7 hb H
   rw [hb] at W
   clear hb
   iterate 8 refine PJ W Aa (A0 W Aa Aa Aa Aa Aa) Aa Aa Aa fun a W => ?_
   refine Dn Aa ?_
   refine Wi W Aa Aa Aa Aa Aa Aa Aa fun a W => ?_
   refine Bk (N2 := []) (NZ2 := []) (N3 := [(some 1, b8, [.int .i64 3, .int .i64 0, .int .i64 0, .int .i64 0, .slice none 0 0, .int .i64 0, .int .i64 0, v23]), (some 9, b8, [.int .i64 3, .int .i64 0, .int .i64 0, .int .i64 0, .slice none 0 0, .int .i64 0, .int .i64 0, v23]), (some 9, b2, [.int .i64 p6.1, .int .i64 p6.2.1, .int .i64 p6.2.2.1, .int .i64 p6.2.2.2]), (some 14, b7, [.int .i64 2, .int .i64 0, .int .i64 0, .int .i64 0, .slice none 0 0, .int .i64 p1, .int .i64 p3, .slice none 0 0]), (some 14, b2, [.int .i64 p6.1, .int .i64 p6.2.1, .int .i64 p6.2.2.1, .int .i64 p6.2.2.2])]) (NZ3 := []) F Aa Aa (all_cons (fun h => Ai (by kernel_rfl) h) (all_cons (fun h => Ai (by kernel_rfl) h) (all_cons (fun h => Ai (by kernel_rfl) h) (all_cons (fun _ => (.tail _ (.head _))) (all_cons (fun _ => (.tail _ (.tail _ (.tail _ (.tail _ (.tail _ (.tail _ (.head _)))))))) Ag))))) Ag ?_
   refine Dn Aa ?_
   refine Wi W Aa Aa Aa Aa Aa Aa Aa fun a W => ?_
   refine Bk (N2 := []) (NZ2 := []) (N3 := [(some 1, b8, [.int .i64 3, .int .i64 0, .int .i64 0, .int .i64 0, .slice none 0 0, .int .i64 0, .int .i64 0, v23]), (some 9, b8, [.int .i64 3, .int .i64 0, .int .i64 0, .int .i64 0, .slice none 0 0, .int .i64 0, .int .i64 0, v23]), (some 9, b2, [.int .i64 p6.1, .int .i64 p6.2.1, .int .i64 p6.2.2.1, .int .i64 p6.2.2.2]), (some 14, b7, [.int .i64 2, .int .i64 0, .int .i64 0, .int .i64 0, .slice none 0 0, .int .i64 p1, .int .i64 p3, .slice none 0 0]), (some 14, b2, [.int .i64 p6.1, .int .i64 p6.2.1, .int .i64 p6.2.2.1, .int .i64 p6.2.2.2])]) (NZ3 := []) F Aa Aa (all_cons (fun h => Ai (by kernel_rfl) h) (all_cons (fun h => Ai (by kernel_rfl) h) (all_cons (fun h => Ai (by kernel_rfl) h) (all_cons (fun h => Ai (by kernel_rfl) h) (all_cons (fun h => Ai (by kernel_rfl) h) Ag))))) Ag ?_
   refine Dn Aa ?_
   refine Wi W Aa Aa Aa Aa Aa Aa Aa fun a W => ?_
   refine Bk (N2 := []) (NZ2 := []) (N3 := [(some 1, b8, [.int .i64 3, .int .i64 0, .int .i64 0, .int .i64 0, .slice none 0 0, .int .i64 0, .int .i64 0, v23]), (some 9, b8, [.int .i64 3, .int .i64 0, .int .i64 0, .int .i64 0, .slice none 0 0, .int .i64 0, .int .i64 0, v23]), (some 9, b2, [.int .i64 p6.1, .int .i64 p6.2.1, .int .i64 p6.2.2.1, .int .i64 p6.2.2.2]), (some 14, b7, [.int .i64 2, .int .i64 0, .int .i64 0, .int .i64 0, .slice none 0 0, .int .i64 p1, .int .i64 p3, .slice none 0 0]), (some 14, b2, [.int .i64 p6.1, .int .i64 p6.2.1, .int .i64 p6.2.2.1, .int .i64 p6.2.2.2])]) (NZ3 := []) F Aa Aa (all_cons (fun h => Ai (by kernel_rfl) h) (all_cons (fun h => Ai (by kernel_rfl) h) (all_cons (fun h => Ai (by kernel_rfl) h) (all_cons (fun h => Ai (by kernel_rfl) h) (all_cons (fun h => Ai (by kernel_rfl) h) Ag))))) Ag ?_
   refine Bn (R := []) W Aa Aa (yC fun M Z hN hZ => Bq W Aa Aa Aa) Aa Aa fun a W => ?_
   refine Bn (R := []) W Aa Aa (yC fun M Z hN hZ => An W Aa) Aa Aa fun a W => ?_
   refine Dn Aa ?_
   refine HJ (Ab W Aa Aa Aa Aa) ?_
   obtain ⟨x18, h24, H⟩ := Ad H
   refine ls W F Aa (AL (v := Value.bool x18) W H7 Aa (fun w F => Kd any w _ h24 (hG.go0 F))) fun a w W F => ?_
   refine Bk (N2 := []) (NZ2 := []) (N3 := [(some 1, b8, [.int .i64 3, .int .i64 0, .int .i64 0, .int .i64 0, .slice none 0 0, .int .i64 0, .int .i64 0, v23]), (some 9, b8, [.int .i64 3, .int .i64 0, .int .i64 0, .int .i64 0, .slice none 0 0, .int .i64 0, .int .i64 0, v23]), (some 9, b2, [.int .i64 p6.1, .int .i64 p6.2.1, .int .i64 p6.2.2.1, .int .i64 p6.2.2.2]), (some 14, b7, [.int .i64 2, .int .i64 0, .int .i64 0, .int .i64 0, .slice none 0 0, .int .i64 p1, .int .i64 p3, .slice none 0 0]), (some 14, b2, [.int .i64 p6.1, .int .i64 p6.2.1, .int .i64 p6.2.2.1, .int .i64 p6.2.2.2])]) (NZ3 := []) F Aa Aa (all_cons (fun h => Ai (by kernel_rfl) h) (all_cons (fun h => Ai (by kernel_rfl) h) (all_cons (fun h => Ai (by kernel_rfl) h) (all_cons (fun h => Ai (by kernel_rfl) h) (all_cons (fun h => Ai (by kernel_rfl) h) Ag))))) Ag ?_
   refine Bn (R := []) W Aa Aa (yC fun M Z hN hZ => Bq W Aa Aa Aa) Aa Aa fun a W => ?_
   refine Dn Aa ?_
   refine ls W F Aa (Bj W Aa).q fun a w W F => ?_
   refine Bk (N2 := []) (NZ2 := []) (N3 := [(some 1, b8, [.int .i64 3, .int .i64 0, .int .i64 0, .int .i64 0, .slice none 0 0, .int .i64 0, .int .i64 0, v23]), (some 9, b8, [.int .i64 3, .int .i64 0, .int .i64 0, .int .i64 0, .slice none 0 0, .int .i64 0, .int .i64 0, v23]), (some 9, b2, [.int .i64 p6.1, .int .i64 p6.2.1, .int .i64 p6.2.2.1, .int .i64 p6.2.2.2]), (some 14, b7, [.int .i64 2, .int .i64 0, .int .i64 0, .int .i64 0, .slice none 0 0, .int .i64 p1, .int .i64 p3, .slice none 0 0]), (some 14, b2, [.int .i64 p6.1, .int .i64 p6.2.1, .int .i64 p6.2.2.1, .int .i64 p6.2.2.2])]) (NZ3 := []) F Aa Aa (all_cons (fun h => Ai (by kernel_rfl) h) (all_cons (fun h => Ai (by kernel_rfl) h) (all_cons (fun h => Ai (by kernel_rfl) h) (all_cons (fun h => Ai (by kernel_rfl) h) (all_cons (fun h => Ai (by kernel_rfl) h) Ag))))) Ag ?_
   refine Ft (Ac ?_)
   have F := F.frontZ (i := 2) Aa Aa
   have F := F.freeze
   have F := F.frontZ (i := 4) Aa Aa
   have F := F.frontZ (i := 4) Aa Aa
   have F := F.frontZ (i := 2) Aa Aa
   have F := F.frontM (i := 7) Aa Aa
   have F := F.frontM (i := 7) Aa Aa
   have F := F.frontM (i := 7) Aa Aa
   have F := F.frontM (i := 7) Aa Aa
   have F := F.frontM (i := 7) Aa Aa
   have F := F.frontM (i := 7) Aa Aa
   have F := F.frontM (i := 7) Aa Aa
   have F := F.frontM (i := 7) Aa Aa
   have F := F.sub (M' := [(b8, (JP v23)), (b7, (Hq p1 p3)), (b6, (Hq p1 p2)), (b5, (GA)), (b4, (GC)), (b3, (CT x3 v5 v6)), (b2, (F0 p6)), (b1, (Fu p0 v1 v2))]) (Z' := [Ee v23 C9 ([Tr37.of (2, Tr34.of (0, 0, 0, ([] : List Tr34)), p1, p2, ([] : List Tr37)), Tr37.of (2, Tr34.of (0, 0, 0, ([] : List Tr34)), p1, p3, ([] : List Tr37))] : List Tr37), Ee v5 CA x3.un.2.1.un.2.2.2, Ee v6 C9 x3.un.2.2.2.2]) (List.Sublist.refl _) (List.Sublist.cons_cons _ (List.Sublist.cons_cons _ (List.Sublist.cons_cons _ (List.nil_sublist _))))
   exact ⟨_, _, H, W.ra Aa, F⟩
  have H := B6 (by rw [hb]; decide) H
  rw [hb] at W
  clear hb
  refine Mu (R := [9]) W Aa (Ab W Aa Aa Aa Aa) Aa Aa (yC fun M Z hN hZ => CC (cs := (JP v23)) (v := Value.agg #[.int .i64 3, .int .i64 0, .int .i64 0, .int .i64 0, .slice none 0 0, .int .i64 0, .int .i64 0, v23]) W Aa (hN ((some 9), b8, (JP v23)) (.tail _ (.head _)) Aa) IF Aa) (by kernel_rfl) Aa fun a W => ?_
  iterate 2 refine Mu (R := []) W Aa (Ab W Aa Aa Aa Aa) Aa Aa (yC fun M Z hN hZ => An W Aa) Aa Aa fun a W => ?_
  refine Mu (R := [9]) W Aa (Ab W Aa Aa Aa Aa) Aa Aa (yC fun M Z hN hZ => CC (cs := (F0 p6)) (v := Value.agg #[.int .i64 p6.1, .int .i64 p6.2.1, .int .i64 p6.2.2.1, .int .i64 p6.2.2.2]) W Aa (hN ((some 9), b2, (F0 p6)) (.tail _ (.tail _ (.head _))) Aa) S5 Aa) (by kernel_rfl) Aa fun a W => ?_
  refine Mu (R := [14]) W Aa (Ab W Aa Aa Aa Aa) Aa Aa (yC fun M Z hN hZ => CC (cs := (Hq p1 p3)) (v := Value.agg #[.int .i64 2, .int .i64 0, .int .i64 0, .int .i64 0, .slice none 0 0, .int .i64 p1, .int .i64 p3, .slice none 0 0]) W Aa (hN ((some 14), b7, (Hq p1 p3)) (.tail _ (.tail _ (.tail _ (.head _)))) Aa) IF Aa) (by kernel_rfl) Aa fun a W => ?_
  iterate 2 refine Mu (R := []) W Aa (Ab W Aa Aa Aa Aa) Aa Aa (yC fun M Z hN hZ => An W Aa) Aa Aa fun a W => ?_
  refine Mu (R := [14]) W Aa (Ab W Aa Aa Aa Aa) Aa Aa (yC fun M Z hN hZ => CC (cs := (F0 p6)) (v := Value.agg #[.int .i64 p6.1, .int .i64 p6.2.1, .int .i64 p6.2.2.1, .int .i64 p6.2.2.2]) W Aa (hN ((some 14), b2, (F0 p6)) (.tail _ (.tail _ (.tail _ (.tail _ (.head _))))) Aa) S5 Aa) (by kernel_rfl) Aa fun a W => ?_
  refine Dn Aa ?_
  refine HJ (Ab W Aa Aa Aa Aa) ?_
  obtain ⟨x19, h25, H⟩ := Ad H
  have F := F.frontZ (i := 2) Aa Aa
  have F := F.freeze
  refine Bu (Ml := []) (Zl := []) (β := Value) (rv := fun x => x) (MM := fun x => []) (ZZ := fun x => [row x 63 Bf x19]) W F WO Aa Aa (fun hL => GB _ w (Value.slice none 0 0) (v23) (Tr37.of (3, Tr34.of (0, 0, 0, ([] : List Tr34)), 0, 0, ([Tr37.of (2, Tr34.of (0, 0, 0, ([] : List Tr34)), p1, p2, ([] : List Tr37)), Tr37.of (2, Tr34.of (0, 0, 0, ([] : List Tr34)), p1, p3, ([] : List Tr37))] : List Tr37))) p4 p5 p6 _ h25 Sl.nil (F.item (i := 0) Aa)) fun x a w W F => ?_
  obtain ⟨v26, rfl⟩ : ∃ y, y = x := ⟨x, rfl⟩
  have F : Stw ⟨Y, [], w0⟩ [(b8, (JP v23)), (b7, (Hq p1 p3)), (b6, (Hq p1 p2)), (b5, (GA)), (b4, (GC)), (b3, (CT x3 v5 v6)), (b2, (F0 p6)), (b1, (Fu p0 v1 v2))] [row v26 63 Bf x19, Ee v23 C9 ([Tr37.of (2, Tr34.of (0, 0, 0, ([] : List Tr34)), p1, p2, ([] : List Tr37)), Tr37.of (2, Tr34.of (0, 0, 0, ([] : List Tr34)), p1, p3, ([] : List Tr37))] : List Tr37), row v24 24 DL x16.un.2.1.un.2.2.2, row v25 27 GL x16.un.2.2.2.2, Ee v5 CA x3.un.2.1.un.2.2.2, Ee v6 C9 x3.un.2.2.2.2] w := F
  refine Bk (N2 := []) (NZ2 := []) (N3 := [(some 1, b8, [.int .i64 3, .int .i64 0, .int .i64 0, .int .i64 0, .slice none 0 0, .int .i64 0, .int .i64 0, v23]), (some 9, b8, [.int .i64 3, .int .i64 0, .int .i64 0, .int .i64 0, .slice none 0 0, .int .i64 0, .int .i64 0, v23]), (some 9, b2, [.int .i64 p6.1, .int .i64 p6.2.1, .int .i64 p6.2.2.1, .int .i64 p6.2.2.2]), (some 14, b7, [.int .i64 2, .int .i64 0, .int .i64 0, .int .i64 0, .slice none 0 0, .int .i64 p1, .int .i64 p3, .slice none 0 0]), (some 14, b2, [.int .i64 p6.1, .int .i64 p6.2.1, .int .i64 p6.2.2.1, .int .i64 p6.2.2.2])]) (NZ3 := []) F Aa Aa (all_cons (fun h => Ai (by kernel_rfl) h) (all_cons (fun h => Ai (by kernel_rfl) h) (all_cons (fun h => Ai (by kernel_rfl) h) (all_cons (fun _ => (.tail _ (.head _))) (all_cons (fun _ => (.tail _ (.tail _ (.tail _ (.tail _ (.tail _ (.tail _ (.head _)))))))) Ag))))) Ag ?_
  refine Dn Aa ?_
  refine HJ (Ab W Aa Aa Aa Aa) ?_
  obtain ⟨x20, h26, H⟩ := Ad H
  refine Bu (Ml := []) (Zl := []) (β := Value) (rv := fun x => x) (MM := fun x => []) (ZZ := fun x => [row x 63 Bf x20]) W F WO Aa Aa (fun hL => GB _ w (Value.slice none 0 0) (Value.slice none 0 0) (Tr37.of (2, Tr34.of (0, 0, 0, ([] : List Tr34)), p1, p3, ([] : List Tr37))) p4 p5 p6 _ h26 Sl.nil Sl.nil) fun x a w W F => ?_
  obtain ⟨v27, rfl⟩ : ∃ y, y = x := ⟨x, rfl⟩
  have F : Stw ⟨Y, [], w0⟩ [(b8, (JP v23)), (b7, (Hq p1 p3)), (b6, (Hq p1 p2)), (b5, (GA)), (b4, (GC)), (b3, (CT x3 v5 v6)), (b2, (F0 p6)), (b1, (Fu p0 v1 v2))] [row v27 63 Bf x20, row v26 63 Bf x19, Ee v23 C9 ([Tr37.of (2, Tr34.of (0, 0, 0, ([] : List Tr34)), p1, p2, ([] : List Tr37)), Tr37.of (2, Tr34.of (0, 0, 0, ([] : List Tr34)), p1, p3, ([] : List Tr37))] : List Tr37), row v24 24 DL x16.un.2.1.un.2.2.2, row v25 27 GL x16.un.2.2.2.2, Ee v5 CA x3.un.2.1.un.2.2.2, Ee v6 C9 x3.un.2.2.2.2] w := F
  refine Bk (N2 := []) (NZ2 := []) (N3 := [(some 1, b8, [.int .i64 3, .int .i64 0, .int .i64 0, .int .i64 0, .slice none 0 0, .int .i64 0, .int .i64 0, v23]), (some 9, b8, [.int .i64 3, .int .i64 0, .int .i64 0, .int .i64 0, .slice none 0 0, .int .i64 0, .int .i64 0, v23]), (some 9, b2, [.int .i64 p6.1, .int .i64 p6.2.1, .int .i64 p6.2.2.1, .int .i64 p6.2.2.2]), (some 14, b7, [.int .i64 2, .int .i64 0, .int .i64 0, .int .i64 0, .slice none 0 0, .int .i64 p1, .int .i64 p3, .slice none 0 0]), (some 14, b2, [.int .i64 p6.1, .int .i64 p6.2.1, .int .i64 p6.2.2.1, .int .i64 p6.2.2.2])]) (NZ3 := []) F Aa Aa (all_cons (fun h => Ai (by kernel_rfl) h) (all_cons (fun h => Ai (by kernel_rfl) h) (all_cons (fun h => Ai (by kernel_rfl) h) (all_cons (fun h => Ai (by kernel_rfl) h) (all_cons (fun h => Ai (by kernel_rfl) h) Ag))))) Ag ?_
  refine Dn Aa ?_
  refine HJ (Ab W Aa Aa Aa Aa) ?_
  obtain ⟨x21, h27, H⟩ := Ad H
  refine ls W F Aa (AL (v := Value.bool x21) W YD Aa (fun w F => NO any w (v26) (v27) x19 x20 _ h27 (Ef (Aj 1 Aa) F) (Ef (Aj 0 Aa) F))) fun a w W F => ?_
  refine Bk (N2 := []) (NZ2 := []) (N3 := [(some 1, b8, [.int .i64 3, .int .i64 0, .int .i64 0, .int .i64 0, .slice none 0 0, .int .i64 0, .int .i64 0, v23]), (some 9, b8, [.int .i64 3, .int .i64 0, .int .i64 0, .int .i64 0, .slice none 0 0, .int .i64 0, .int .i64 0, v23]), (some 9, b2, [.int .i64 p6.1, .int .i64 p6.2.1, .int .i64 p6.2.2.1, .int .i64 p6.2.2.2]), (some 14, b7, [.int .i64 2, .int .i64 0, .int .i64 0, .int .i64 0, .slice none 0 0, .int .i64 p1, .int .i64 p3, .slice none 0 0]), (some 14, b2, [.int .i64 p6.1, .int .i64 p6.2.1, .int .i64 p6.2.2.1, .int .i64 p6.2.2.2])]) (NZ3 := []) F Aa Aa (all_cons (fun h => Ai (by kernel_rfl) h) (all_cons (fun h => Ai (by kernel_rfl) h) (all_cons (fun h => Ai (by kernel_rfl) h) (all_cons (fun h => Ai (by kernel_rfl) h) (all_cons (fun h => Ai (by kernel_rfl) h) Ag))))) Ag ?_
  refine Bn (R := []) W Aa Aa (yC fun M Z hN hZ => Bp W Aa Aa Aa) Aa Aa fun a W => ?_
  refine Bn (R := []) W Aa Aa (yC fun M Z hN hZ => An W Aa) Aa Aa fun a W => ?_
  rcases Bool.eq_false_or_eq_true x21 with hb | hb
  ·
   have H := B7 hb H
   rw [hb] at W
   clear hb
   refine Dn Aa ?_
   refine HJ (Ab W Aa Aa Aa Aa) ?_
   obtain ⟨x22, h28, H⟩ := Ad H
   refine ls W F Aa (AL (v := Value.bool x22) W H7 Aa (fun w F => Kd any w _ h28 (hG.go0 F))) fun a w W F => ?_
   refine Bk (N2 := []) (NZ2 := []) (N3 := [(some 1, b8, [.int .i64 3, .int .i64 0, .int .i64 0, .int .i64 0, .slice none 0 0, .int .i64 0, .int .i64 0, v23]), (some 9, b8, [.int .i64 3, .int .i64 0, .int .i64 0, .int .i64 0, .slice none 0 0, .int .i64 0, .int .i64 0, v23]), (some 9, b2, [.int .i64 p6.1, .int .i64 p6.2.1, .int .i64 p6.2.2.1, .int .i64 p6.2.2.2]), (some 14, b7, [.int .i64 2, .int .i64 0, .int .i64 0, .int .i64 0, .slice none 0 0, .int .i64 p1, .int .i64 p3, .slice none 0 0]), (some 14, b2, [.int .i64 p6.1, .int .i64 p6.2.1, .int .i64 p6.2.2.1, .int .i64 p6.2.2.2])]) (NZ3 := []) F Aa Aa (all_cons (fun h => Ai (by kernel_rfl) h) (all_cons (fun h => Ai (by kernel_rfl) h) (all_cons (fun h => Ai (by kernel_rfl) h) (all_cons (fun h => Ai (by kernel_rfl) h) (all_cons (fun h => Ai (by kernel_rfl) h) Ag))))) Ag ?_
   refine Bn (R := []) W Aa Aa (yC fun M Z hN hZ => Bq W Aa Aa Aa) Aa Aa fun a W => ?_
   refine Dn Aa ?_
   refine ls W F Aa (Bj W Aa).q fun a w W F => ?_
   refine Bk (N2 := []) (NZ2 := []) (N3 := [(some 1, b8, [.int .i64 3, .int .i64 0, .int .i64 0, .int .i64 0, .slice none 0 0, .int .i64 0, .int .i64 0, v23]), (some 9, b8, [.int .i64 3, .int .i64 0, .int .i64 0, .int .i64 0, .slice none 0 0, .int .i64 0, .int .i64 0, v23]), (some 9, b2, [.int .i64 p6.1, .int .i64 p6.2.1, .int .i64 p6.2.2.1, .int .i64 p6.2.2.2]), (some 14, b7, [.int .i64 2, .int .i64 0, .int .i64 0, .int .i64 0, .slice none 0 0, .int .i64 p1, .int .i64 p3, .slice none 0 0]), (some 14, b2, [.int .i64 p6.1, .int .i64 p6.2.1, .int .i64 p6.2.2.1, .int .i64 p6.2.2.2])]) (NZ3 := []) F Aa Aa (all_cons (fun h => Ai (by kernel_rfl) h) (all_cons (fun h => Ai (by kernel_rfl) h) (all_cons (fun h => Ai (by kernel_rfl) h) (all_cons (fun h => Ai (by kernel_rfl) h) (all_cons (fun h => Ai (by kernel_rfl) h) Ag))))) Ag ?_
   refine Ft (Ac ?_)
   have F := F.frontZ (i := 6) Aa Aa
   have F := F.frontZ (i := 6) Aa Aa
   have F := F.frontZ (i := 4) Aa Aa
   have F := F.frontM (i := 7) Aa Aa
   have F := F.frontM (i := 7) Aa Aa
   have F := F.frontM (i := 7) Aa Aa
   have F := F.frontM (i := 7) Aa Aa
   have F := F.frontM (i := 7) Aa Aa
   have F := F.frontM (i := 7) Aa Aa
   have F := F.frontM (i := 7) Aa Aa
   have F := F.frontM (i := 7) Aa Aa
   have F := F.sub (M' := [(b8, (JP v23)), (b7, (Hq p1 p3)), (b6, (Hq p1 p2)), (b5, (GA)), (b4, (GC)), (b3, (CT x3 v5 v6)), (b2, (F0 p6)), (b1, (Fu p0 v1 v2))]) (Z' := [Ee v23 C9 ([Tr37.of (2, Tr34.of (0, 0, 0, ([] : List Tr34)), p1, p2, ([] : List Tr37)), Tr37.of (2, Tr34.of (0, 0, 0, ([] : List Tr34)), p1, p3, ([] : List Tr37))] : List Tr37), Ee v5 CA x3.un.2.1.un.2.2.2, Ee v6 C9 x3.un.2.2.2.2]) (List.Sublist.refl _) (List.Sublist.cons_cons _ (List.Sublist.cons_cons _ (List.Sublist.cons_cons _ (List.nil_sublist _))))
   exact ⟨_, _, H, W.ra Aa, F⟩
  have H := B6 (by rw [hb]; decide) H
  rw [hb] at W
  clear hb
  refine Dn Aa ?_
  refine Wi W Aa Aa Aa Aa Aa Aa Aa fun a W => ?_
  refine Bk (N2 := []) (NZ2 := []) (N3 := [(some 1, b8, [.int .i64 3, .int .i64 0, .int .i64 0, .int .i64 0, .slice none 0 0, .int .i64 0, .int .i64 0, v23]), (some 9, b8, [.int .i64 3, .int .i64 0, .int .i64 0, .int .i64 0, .slice none 0 0, .int .i64 0, .int .i64 0, v23]), (some 9, b2, [.int .i64 p6.1, .int .i64 p6.2.1, .int .i64 p6.2.2.1, .int .i64 p6.2.2.2]), (some 14, b7, [.int .i64 2, .int .i64 0, .int .i64 0, .int .i64 0, .slice none 0 0, .int .i64 p1, .int .i64 p3, .slice none 0 0]), (some 14, b2, [.int .i64 p6.1, .int .i64 p6.2.1, .int .i64 p6.2.2.1, .int .i64 p6.2.2.2])]) (NZ3 := []) F Aa Aa (all_cons (fun h => Ai (by kernel_rfl) h) (all_cons (fun h => Ai (by kernel_rfl) h) (all_cons (fun h => Ai (by kernel_rfl) h) (all_cons (fun h => Ai (by kernel_rfl) h) (all_cons (fun h => Ai (by kernel_rfl) h) Ag))))) Ag ?_
  refine Bn (R := []) W Aa Aa (yC fun M Z hN hZ => Bp W Aa Aa Aa) Aa Aa fun a W => ?_
  refine Dn Aa ?_
  refine ls W F Aa (Bj W Aa).q fun a w W F => ?_
  refine Bk (N2 := []) (NZ2 := []) (N3 := [(some 1, b8, [.int .i64 3, .int .i64 0, .int .i64 0, .int .i64 0, .slice none 0 0, .int .i64 0, .int .i64 0, v23]), (some 9, b8, [.int .i64 3, .int .i64 0, .int .i64 0, .int .i64 0, .slice none 0 0, .int .i64 0, .int .i64 0, v23]), (some 9, b2, [.int .i64 p6.1, .int .i64 p6.2.1, .int .i64 p6.2.2.1, .int .i64 p6.2.2.2]), (some 14, b7, [.int .i64 2, .int .i64 0, .int .i64 0, .int .i64 0, .slice none 0 0, .int .i64 p1, .int .i64 p3, .slice none 0 0]), (some 14, b2, [.int .i64 p6.1, .int .i64 p6.2.1, .int .i64 p6.2.2.1, .int .i64 p6.2.2.2])]) (NZ3 := []) F Aa Aa (all_cons (fun h => Ai (by kernel_rfl) h) (all_cons (fun h => Ai (by kernel_rfl) h) (all_cons (fun h => Ai (by kernel_rfl) h) (all_cons (fun h => Ai (by kernel_rfl) h) (all_cons (fun h => Ai (by kernel_rfl) h) Ag))))) Ag ?_
  refine Ft (Ac ?_)
  have F := F.frontZ (i := 6) Aa Aa
  have F := F.frontZ (i := 6) Aa Aa
  have F := F.frontZ (i := 4) Aa Aa
  have F := F.frontM (i := 7) Aa Aa
  have F := F.frontM (i := 7) Aa Aa
  have F := F.frontM (i := 7) Aa Aa
  have F := F.frontM (i := 7) Aa Aa
  have F := F.frontM (i := 7) Aa Aa
  have F := F.frontM (i := 7) Aa Aa
  have F := F.frontM (i := 7) Aa Aa
  have F := F.frontM (i := 7) Aa Aa
  have F := F.sub (M' := [(b8, (JP v23)), (b7, (Hq p1 p3)), (b6, (Hq p1 p2)), (b5, (GA)), (b4, (GC)), (b3, (CT x3 v5 v6)), (b2, (F0 p6)), (b1, (Fu p0 v1 v2))]) (Z' := [Ee v23 C9 ([Tr37.of (2, Tr34.of (0, 0, 0, ([] : List Tr34)), p1, p2, ([] : List Tr37)), Tr37.of (2, Tr34.of (0, 0, 0, ([] : List Tr34)), p1, p3, ([] : List Tr37))] : List Tr37), Ee v5 CA x3.un.2.1.un.2.2.2, Ee v6 C9 x3.un.2.2.2.2]) (List.Sublist.refl _) (List.Sublist.cons_cons _ (List.Sublist.cons_cons _ (List.Sublist.cons_cons _ (List.nil_sublist _))))
  exact ⟨_, _, H, W.ra Aa, F⟩
 rintro a w ⟨x14, x15, hj, W, F⟩
 have hj := AA hj
 subst hj
 have H := K5
 clear G5 K5
 refine Ak ?_
 have H := AA H
 subst H
 refine Au (.inl Aa) W F Aa (Am W Aa) ?_
 exact ⟨rfl, F.done⟩
end Go.Proofs.YtpckgggmgijiiaaGreatDoor
