/- The functions of layer 27, Jw. Conditions: none. -/
import Derived.Test.YtpckgggmgijiiaaGreatDoorcU6
namespace Go.Proofs.YtpckgggmgijiiaaGreatDoor
open Go Go.RowKit
set_option linter.unusedVariables false
set_option linter.unusedSimpArgs false
set_option maxRecDepth 20000
set_option maxHeartbeats 12800000
theorem Zu : Has Tryz.prog 19 := CP Tryz.func19
abbrev TF (a0 : Tr37) (a1 : Value) (a2 : Value) (a3 : Tr37) (a4 : Value) (a5 : Value) : List Value := [.int .i64 a0.un.1, .int .i64 a0.un.2.1.un.1, .int .i64 a0.un.2.1.un.2.1, .int .i64 a0.un.2.1.un.2.2.1, a1, .int .i64 a0.un.2.2.1, .int .i64 a0.un.2.2.2.1, a2, .int .i64 a3.un.1, .int .i64 a3.un.2.1.un.1, .int .i64 a3.un.2.1.un.2.1, .int .i64 a3.un.2.1.un.2.2.1, a4, .int .i64 a3.un.2.2.1, .int .i64 a3.un.2.2.2.1, a5]
abbrev Vm (a0 : Value) (a1 : Value) : List Value := [.int .i64 3, .int .i64 0, .int .i64 0, .int .i64 0, .slice none 0 0, .int .i64 0, .int .i64 0, a0, .int .i64 3, .int .i64 0, .int .i64 0, .int .i64 0, .slice none 0 0, .int .i64 0, .int .i64 0, a1]
abbrev HG : PT := (PT.alt 11 PT.done PT.stop)
abbrev HL : PT := (PT.alt 10 HG PT.stop)
abbrev DD : PT := (PT.alt 9 HL PT.stop)
abbrev DC : PT := (PT.alt 5 DD PT.stop)
abbrev DF : PT := (PT.alt 3 DC PT.stop)
abbrev EI : PT := (PT.alt 1 DF PT.stop)
abbrev EB : PT := (PT.alt 6 DD PT.stop)
abbrev ED : PT := (PT.alt 5 EB (PT.alt 6 DC PT.stop))
abbrev EH : PT := (PT.alt 3 ED (PT.alt 6 DF PT.stop))
abbrev Gb : PT := (PT.alt 1 EH (PT.alt 6 EI PT.stop))
abbrev EC : PT := (PT.alt 7 DD PT.stop)
abbrev EF : PT := (PT.alt 5 EC (PT.alt 7 DC PT.stop))
abbrev Ez : PT := (PT.alt 3 EF (PT.alt 7 DF PT.stop))
abbrev F7 : PT := (PT.alt 1 Ez (PT.alt 7 EI PT.stop))
abbrev F8 : PT := (PT.alt 6 EC (PT.alt 7 EB PT.stop))
abbrev F5 : PT := (PT.alt 5 F8 (PT.alt 6 EF (PT.alt 7 ED PT.stop)))
abbrev F6 : PT := (PT.alt 3 F5 (PT.alt 6 Ez (PT.alt 7 EH PT.stop)))
abbrev HK : PT := (PT.alt 1 F6 (PT.alt 6 F7 (PT.alt 7 Gb PT.stop)))
abbrev EE : PT := (PT.alt 8 DD PT.stop)
abbrev EA : PT := (PT.alt 5 EE (PT.alt 8 DC PT.stop))
abbrev EG : PT := (PT.alt 3 EA (PT.alt 8 DF PT.stop))
abbrev Ga : PT := (PT.alt 1 EG (PT.alt 8 EI PT.stop))
abbrev F4 : PT := (PT.alt 6 EE (PT.alt 8 EB PT.stop))
abbrev F3 : PT := (PT.alt 5 F4 (PT.alt 6 EA (PT.alt 8 ED PT.stop)))
abbrev Gd : PT := (PT.alt 3 F3 (PT.alt 6 EG (PT.alt 8 EH PT.stop)))
abbrev HE : PT := (PT.alt 1 Gd (PT.alt 6 Ga (PT.alt 8 Gb PT.stop)))
abbrev F2 : PT := (PT.alt 7 EE (PT.alt 8 EC PT.stop))
abbrev F0 : PT := (PT.alt 5 F2 (PT.alt 7 EA (PT.alt 8 EF PT.stop)))
abbrev Ge : PT := (PT.alt 3 F0 (PT.alt 7 EG (PT.alt 8 Ez PT.stop)))
abbrev HF : PT := (PT.alt 1 Ge (PT.alt 7 Ga (PT.alt 8 F7 PT.stop)))
abbrev HH : PT := (PT.alt 6 F2 (PT.alt 7 F4 (PT.alt 8 F8 PT.stop)))
abbrev HD : PT := (PT.alt 5 HH (PT.alt 6 F0 (PT.alt 7 F3 (PT.alt 8 F5 PT.stop))))
abbrev HJ : PT := (PT.alt 3 HD (PT.alt 6 Ge (PT.alt 7 Gd (PT.alt 8 F6 PT.stop))))
abbrev Kc : PT := (PT.alt 1 HJ (PT.alt 6 HF (PT.alt 7 HE (PT.alt 8 HK PT.stop))))
abbrev B1 (x : Tr27) (v w : Value) : Value := .agg #[.int .i64 x.un.1, .int .i64 x.un.2.1.un.1, .int .i64 x.un.2.1.un.2.1, .int .i64 x.un.2.1.un.2.2.1, v, .int .i64 x.un.2.2.1, .int .i64 x.un.2.2.2.1, w]
abbrev VT (x : Tr27) (v w : Value) : List Value := [.int .i64 x.un.1, .int .i64 x.un.2.1.un.1, .int .i64 x.un.2.1.un.2.1, .int .i64 x.un.2.1.un.2.2.1, v, .int .i64 x.un.2.2.1, .int .i64 x.un.2.2.2.1, w]
abbrev Ct (x : Tr37) (v w : Value) : Value := .agg #[.int .i64 x.un.1, .int .i64 x.un.2.1.un.1, .int .i64 x.un.2.1.un.2.1, .int .i64 x.un.2.1.un.2.2.1, v, .int .i64 x.un.2.2.1, .int .i64 x.un.2.2.2.1, w]
abbrev C5 (x : Tr37) (v w : Value) : List Value := [.int .i64 x.un.1, .int .i64 x.un.2.1.un.1, .int .i64 x.un.2.1.un.2.1, .int .i64 x.un.2.1.un.2.2.1, v, .int .i64 x.un.2.2.1, .int .i64 x.un.2.2.2.1, w]
abbrev BC (x : Tr37) : Tr37 := Tr37.of (x.un.1, Tr34.of (x.un.2.1.un.1, x.un.2.1.un.2.1, x.un.2.1.un.2.2.1, x.un.2.1.un.2.2.2), x.un.2.2.1, x.un.2.2.2.1, x.un.2.2.2.2)
noncomputable def C0 (p4 : Int) (p5 : Int) (p6 : Int × Int × Int × Int) (x7 : Tr37) (x8 : Tr37) (x9 : Tr37) (x10 : Tr34) : Int → Option (Int ⊕ (Unit ⊕ Bool))
  | x11 => (if x11 < (([([Tr37.of (4, Tr34.of (0, 0, 0, ([] : List Tr34)), 0, 0, ([(BC x7), (BC x8)] : List Tr37)), Tr37.of (4, Tr34.of (0, 0, 0, ([] : List Tr34)), 0, 0, ([(BC x8), (BC x7), (BC x8)] : List Tr37))] : List Tr37), ([Tr37.of (3, Tr34.of (0, 0, 0, ([] : List Tr34)), 0, 0, ([(BC x7), (BC x8), (BC x9)] : List Tr37)), Tr37.of (3, Tr34.of (0, 0, 0, ([] : List Tr34)), 0, 0, ([(BC x7), Tr37.of (3, Tr34.of (0, 0, 0, ([] : List Tr34)), 0, 0, ([(BC x8), (BC x9)] : List Tr37))] : List Tr37))] : List Tr37), ([Tr37.of (5, x10, 0, 0, ([(BC x7), (BC x8)] : List Tr37)), Tr37.of (4, Tr34.of (0, 0, 0, ([] : List Tr34)), 0, 0, ([Tr37.of (3, Tr34.of (0, 0, 0, ([] : List Tr34)), 0, 0, ([Tr37.of (1, x10, 0, 0, ([] : List Tr37)), (BC x7)] : List Tr37)), Tr37.of (3, Tr34.of (0, 0, 0, ([] : List Tr34)), 0, 0, ([Tr37.of (1, Tr34.of (4, 0, 0, ([x10] : List Tr34)), 0, 0, ([] : List Tr37)), (BC x8)] : List Tr37))] : List Tr37))] : List Tr37)] : List (List Tr37)).length : Int) then (ix ([([Tr37.of (4, Tr34.of (0, 0, 0, ([] : List Tr34)), 0, 0, ([(BC x7), (BC x8)] : List Tr37)), Tr37.of (4, Tr34.of (0, 0, 0, ([] : List Tr34)), 0, 0, ([(BC x8), (BC x7), (BC x8)] : List Tr37))] : List Tr37), ([Tr37.of (3, Tr34.of (0, 0, 0, ([] : List Tr34)), 0, 0, ([(BC x7), (BC x8), (BC x9)] : List Tr37)), Tr37.of (3, Tr34.of (0, 0, 0, ([] : List Tr34)), 0, 0, ([(BC x7), Tr37.of (3, Tr34.of (0, 0, 0, ([] : List Tr34)), 0, 0, ([(BC x8), (BC x9)] : List Tr37))] : List Tr37))] : List Tr37), ([Tr37.of (5, x10, 0, 0, ([(BC x7), (BC x8)] : List Tr37)), Tr37.of (4, Tr34.of (0, 0, 0, ([] : List Tr34)), 0, 0, ([Tr37.of (3, Tr34.of (0, 0, 0, ([] : List Tr34)), 0, 0, ([Tr37.of (1, x10, 0, 0, ([] : List Tr37)), (BC x7)] : List Tr37)), Tr37.of (3, Tr34.of (0, 0, 0, ([] : List Tr34)), 0, 0, ([Tr37.of (1, Tr34.of (4, 0, 0, ([x10] : List Tr34)), 0, 0, ([] : List Tr37)), (BC x8)] : List Tr37))] : List Tr37))] : List Tr37)] : List (List Tr37)) x11).bind fun x12 => (ix x12 0).bind fun x13 => (ix ([([Tr37.of (4, Tr34.of (0, 0, 0, ([] : List Tr34)), 0, 0, ([(BC x7), (BC x8)] : List Tr37)), Tr37.of (4, Tr34.of (0, 0, 0, ([] : List Tr34)), 0, 0, ([(BC x8), (BC x7), (BC x8)] : List Tr37))] : List Tr37), ([Tr37.of (3, Tr34.of (0, 0, 0, ([] : List Tr34)), 0, 0, ([(BC x7), (BC x8), (BC x9)] : List Tr37)), Tr37.of (3, Tr34.of (0, 0, 0, ([] : List Tr34)), 0, 0, ([(BC x7), Tr37.of (3, Tr34.of (0, 0, 0, ([] : List Tr34)), 0, 0, ([(BC x8), (BC x9)] : List Tr37))] : List Tr37))] : List Tr37), ([Tr37.of (5, x10, 0, 0, ([(BC x7), (BC x8)] : List Tr37)), Tr37.of (4, Tr34.of (0, 0, 0, ([] : List Tr34)), 0, 0, ([Tr37.of (3, Tr34.of (0, 0, 0, ([] : List Tr34)), 0, 0, ([Tr37.of (1, x10, 0, 0, ([] : List Tr37)), (BC x7)] : List Tr37)), Tr37.of (3, Tr34.of (0, 0, 0, ([] : List Tr34)), 0, 0, ([Tr37.of (1, Tr34.of (4, 0, 0, ([x10] : List Tr34)), 0, 0, ([] : List Tr37)), (BC x8)] : List Tr37))] : List Tr37))] : List Tr37)] : List (List Tr37)) x11).bind fun x14 => (ix x14 1).bind fun x15 => ((J2 ((BC x13))).bind fun x17 => (GH (Tr27.of (x17.un.1, Tr24.of (x17.un.2.1.un.1, x17.un.2.1.un.2.1, x17.un.2.1.un.2.2.1, x17.un.2.1.un.2.2.2), x17.un.2.2.1, x17.un.2.2.2.1, x17.un.2.2.2.2))).bind fun x18 => (if x18 = true then (J2 ((BC x15))).bind fun x19 => (GH (Tr27.of (x19.un.1, Tr24.of (x19.un.2.1.un.1, x19.un.2.1.un.2.1, x19.un.2.1.un.2.2.1, x19.un.2.1.un.2.2.2), x19.un.2.2.1, x19.un.2.2.2.1, x19.un.2.2.2.2))).bind fun x20 => (if x20 = true then (FK ((BC x13)) p4 p5 p6).bind fun x21 => (FK ((BC x15)) p4 p5 p6).bind fun x22 => (KI x21 x22).bind fun x23 => some (!x23) else some false) else some false)).bind fun x16 => (if x16 = true then some (.inr (.inr false)) else some (.inl (AU (x11 + 1)))) else some (.inr (.inl ())))
noncomputable def G0 (p0 : Tr27) (p1 : Tr27) (p2 : Tr27) (p3 : Tr24) (p4 : Int) (p5 : Int) (p6 : Int × Int × Int × Int) : Option Bool := ((GH (Tr27.of (p0.un.1, Tr24.of (p0.un.2.1.un.1, p0.un.2.1.un.2.1, p0.un.2.1.un.2.2.1, p0.un.2.1.un.2.2.2), p0.un.2.2.1, p0.un.2.2.2.1, p0.un.2.2.2.2))).bind fun x2 => (if (!x2) = true then some true else (GH (Tr27.of (p1.un.1, Tr24.of (p1.un.2.1.un.1, p1.un.2.1.un.2.1, p1.un.2.1.un.2.2.1, p1.un.2.1.un.2.2.2), p1.un.2.2.1, p1.un.2.2.2.1, p1.un.2.2.2.2))).bind fun x3 => (if (!x3) = true then some true else (GH (Tr27.of (p2.un.1, Tr24.of (p2.un.2.1.un.1, p2.un.2.1.un.2.1, p2.un.2.1.un.2.2.1, p2.un.2.1.un.2.2.2), p2.un.2.2.1, p2.un.2.2.2.1, p2.un.2.2.2.2))).bind fun x4 => (if (!x4) = true then some true else (HQ p3).bind fun x5 => some (!x5))))).bind fun x1 => (if x1 = true then (GG).bind fun x6 => some x6 else (H4 (Tr27.of (p0.un.1, Tr24.of (p0.un.2.1.un.1, p0.un.2.1.un.2.1, p0.un.2.1.un.2.2.1, p0.un.2.1.un.2.2.2), p0.un.2.2.1, p0.un.2.2.2.1, p0.un.2.2.2.2))).bind fun x7 => (H4 (Tr27.of (p1.un.1, Tr24.of (p1.un.2.1.un.1, p1.un.2.1.un.2.1, p1.un.2.1.un.2.2.1, p1.un.2.1.un.2.2.2), p1.un.2.2.1, p1.un.2.2.2.1, p1.un.2.2.2.2))).bind fun x8 => (H4 (Tr27.of (p2.un.1, Tr24.of (p2.un.2.1.un.1, p2.un.2.1.un.2.1, p2.un.2.1.un.2.2.1, p2.un.2.1.un.2.2.2), p2.un.2.2.1, p2.un.2.2.2.1, p2.un.2.2.2.2))).bind fun x9 => (Kn p3).bind fun x10 => Ku (Ba (C0 p4 p5 p6 x7 x8 x9 x10) 0) fun _ => (GG).bind fun x24 => some x24)
theorem Mg (Y : Nat → Prop) (w0 : World) (v1 : Value) (v2 : Value) (v3 : Value) (v4 : Value) (v5 : Value) (v6 : Value) (v7 : Value) (p0 : Tr27) (p1 : Tr27) (p2 : Tr27) (p3 : Tr24) (p4 : Int) (p5 : Int) (p6 : Int × Int × Int × Int) (r : Bool) (H : G0 p0 p1 p2 p3 p4 p5 p6 = some r) (h_v1 : Sl w0 (NX []) DT v1 p0.un.2.1.un.2.2.2) (h_v2 : Sl w0 (NX []) Hx v2 p0.un.2.2.2.2) (h_v3 : Sl w0 (NX []) DT v3 p1.un.2.1.un.2.2.2) (h_v4 : Sl w0 (NX []) Hx v4 p1.un.2.2.2.2) (h_v5 : Sl w0 (NX []) DT v5 p2.un.2.1.un.2.2.2) (h_v6 : Sl w0 (NX []) Hx v6 p2.un.2.2.2.2) (h_v7 : Sl w0 (NX []) DT v7 p3.un.2.2.2) (hG : Gk [] w0) :
    Calls Tryz.prog 4 #[.agg #[.int .i64 p0.un.1, .int .i64 p0.un.2.1.un.1, .int .i64 p0.un.2.1.un.2.1, .int .i64 p0.un.2.1.un.2.2.1, v1, .int .i64 p0.un.2.2.1, .int .i64 p0.un.2.2.2.1, v2], .agg #[.int .i64 p1.un.1, .int .i64 p1.un.2.1.un.1, .int .i64 p1.un.2.1.un.2.1, .int .i64 p1.un.2.1.un.2.2.1, v3, .int .i64 p1.un.2.2.1, .int .i64 p1.un.2.2.2.1, v4], .agg #[.int .i64 p2.un.1, .int .i64 p2.un.2.1.un.1, .int .i64 p2.un.2.1.un.2.1, .int .i64 p2.un.2.1.un.2.2.1, v5, .int .i64 p2.un.2.2.1, .int .i64 p2.un.2.2.2.1, v6], .agg #[.int .i64 p3.un.1, .int .i64 p3.un.2.1, .int .i64 p3.un.2.2.1, v7], .int .i64 p4, .int .i64 p5, .agg #[.int .i64 p6.1, .int .i64 p6.2.1, .int .i64 p6.2.2.1, .int .i64 p6.2.2.2]] w0 fun e w' => e = .returned (.bool r) ∧ Below w0.heap.size w0 w' := by
 refine enter Tryz.func4 Aa Tryz.ntmps4 Aa fun a K => ?_
 have F := Stw.start Y w0
 obtain ⟨v8, h1, h_v1⟩ := h_v1.ex Da
 obtain ⟨v9, h2, h_v2⟩ := h_v2.ex Ej
 obtain ⟨v10, h3, h_v3⟩ := h_v3.ex Da
 obtain ⟨v11, h4, h_v4⟩ := h_v4.ex Ej
 obtain ⟨v12, h5, h_v5⟩ := h_v5.ex Da
 obtain ⟨v13, h6, h_v6⟩ := h_v6.ex Ej
 obtain ⟨v14, h7, h_v7⟩ := h_v7.ex Da
 unfold G0 at H
 refine vc tk 2 K F fun a w K F => ?_
 refine CX (cs := (Av p0 v1 v2)) K F Aa Aa Aa fun b1 a w K F => ?_
 refine CX (cs := (Av p1 v3 v4)) K F Aa Aa Aa fun b2 a w K F => ?_
 refine CX (cs := (Av p2 v5 v6)) K F Aa Aa Aa fun b3 a w K F => ?_
 refine CX (cs := (CD p3 v7)) K F Aa Aa Aa fun b4 a w K F => ?_
 refine CX (cs := (CF p6)) K F Aa Aa Aa fun b5 a w K F => ?_
 refine Cv tk 4 K F fun a w K F => ?_
 obtain ⟨o1, G1, K1⟩ := Ag H
 refine AA (fun a w => ∃ x1 : Bool, some (x1) = some o1 ∧ Fr 139 [] [(4, .int .i64 p4), (5, .int .i64 p5), (7, .pointer (some ⟨b1, 0, none⟩)), (8, .pointer (some ⟨b2, 0, none⟩)), (9, .pointer (some ⟨b3, 0, none⟩)), (10, .pointer (some ⟨b4, 0, none⟩)), (13, .pointer (some ⟨b5, 0, none⟩)), (14, .bool false), (42, .bool x1)] a ∧ Stw ⟨Y, [], w0⟩ [(b5, (CF p6)), (b4, (CD p3 v7)), (b3, (Av p2 v5 v6)), (b2, (Av p1 v3 v4)), (b1, (Av p0 v1 v2))] [] w) ?_ ?_
 ·
  have H := G1
  clear G1 K1
  refine FR tk 2 [4] K F (ai fun a w K F => ?_)
  obtain ⟨x2, h8, H⟩ := Ag H
  refine ls K F Aa (AL (v := Value.bool x2) K WB Aa (fun w F => H3 any w (v1) (v2) (Tr27.of (p0.un.1, Tr24.of (p0.un.2.1.un.1, p0.un.2.1.un.2.1, p0.un.2.1.un.2.2.1, p0.un.2.1.un.2.2.2), p0.un.2.2.1, p0.un.2.2.2.1, p0.un.2.2.2.2)) _ h8 (Er (Ak Da h1 (Ah h_v1)) F) (Er (Ak Ej h2 (Ah h_v2)) F))) fun a w K F => ?_
  refine vl tk 2 K F fun a w K F => ?_
  rcases bxq (!x2) with hb | hb
  ·
   have H := Cg hb H
   rw [hb] at K
   clear hb
   refine vl tk 15 K F fun a w K F => ?_
   refine Ad ?_
   have F := F.frontM (i := 4) Aa Aa
   have F := F.frontM (i := 4) Aa Aa
   have F := F.frontM (i := 4) Aa Aa
   have F := F.frontM (i := 4) Aa Aa
   have F := F.frontM (i := 4) Aa Aa
   exact ⟨_, H, K.ra Aa, F⟩
  have H := Cf (by rw [hb]; decide) H
  rw [hb] at K
  clear hb
  refine Hu K F (Ac K Aa Aa Aa Aa) Aa (Ao Aa) (Bu (v := (B1 p1 v3 v4)) 3 K Aa Aa QI Aa).q fun a w K F => ?_
  refine Iq (Ac K Aa Aa Aa Aa) ?_
  obtain ⟨x3, h9, H⟩ := Ag H
  refine ls K F Aa (AL (v := Value.bool x3) K WB Aa (fun w F => H3 any w (v3) (v4) (Tr27.of (p1.un.1, Tr24.of (p1.un.2.1.un.1, p1.un.2.1.un.2.1, p1.un.2.1.un.2.2.1, p1.un.2.1.un.2.2.2), p1.un.2.2.1, p1.un.2.2.2.1, p1.un.2.2.2.2)) _ h9 (Er (Ak Da h3 (Ah h_v3)) F) (Er (Ak Ej h4 (Ah h_v4)) F))) fun a w K F => ?_
  refine vl tk 3 K F fun a w K F => ?_
  rcases bxq (!x3) with hb | hb
  ·
   have H := Cg hb H
   rw [hb] at K
   clear hb
   refine vl tk 10 K F fun a w K F => ?_
   refine Ad ?_
   have F := F.frontM (i := 4) Aa Aa
   have F := F.frontM (i := 4) Aa Aa
   have F := F.frontM (i := 4) Aa Aa
   have F := F.frontM (i := 4) Aa Aa
   have F := F.frontM (i := 4) Aa Aa
   exact ⟨_, H, K.ra Aa, F⟩
  have H := Cf (by rw [hb]; decide) H
  rw [hb] at K
  clear hb
  refine Hu K F (Ac K Aa Aa Aa Aa) Aa (Ao Aa) (Bu (v := (B1 p2 v5 v6)) 2 K Aa Aa QI Aa).q fun a w K F => ?_
  refine Iq (Ac K Aa Aa Aa Aa) ?_
  obtain ⟨x4, h10, H⟩ := Ag H
  refine ls K F Aa (AL (v := Value.bool x4) K WB Aa (fun w F => H3 any w (v5) (v6) (Tr27.of (p2.un.1, Tr24.of (p2.un.2.1.un.1, p2.un.2.1.un.2.1, p2.un.2.1.un.2.2.1, p2.un.2.1.un.2.2.2), p2.un.2.2.1, p2.un.2.2.2.1, p2.un.2.2.2.2)) _ h10 (Er (Ak Da h5 (Ah h_v5)) F) (Er (Ak Ej h6 (Ah h_v6)) F))) fun a w K F => ?_
  refine vl tk 3 K F fun a w K F => ?_
  rcases bxq (!x4) with hb | hb
  ·
   have H := Cg hb H
   rw [hb] at K
   clear hb
   refine vl tk 5 K F fun a w K F => ?_
   refine Ad ?_
   have F := F.frontM (i := 4) Aa Aa
   have F := F.frontM (i := 4) Aa Aa
   have F := F.frontM (i := 4) Aa Aa
   have F := F.frontM (i := 4) Aa Aa
   have F := F.frontM (i := 4) Aa Aa
   exact ⟨_, H, K.ra Aa, F⟩
  have H := Cf (by rw [hb]; decide) H
  rw [hb] at K
  clear hb
  refine Hu K F (Ac K Aa Aa Aa Aa) Aa (Ao Aa) (Bu (v := Value.agg #[.int .i64 p3.un.1, .int .i64 p3.un.2.1, .int .i64 p3.un.2.2.1, v7]) 1 K Aa Aa RY Aa).q fun a w K F => ?_
  refine Iq (Ac K Aa Aa Aa Aa) ?_
  obtain ⟨x5, h11, H⟩ := Ag H
  refine ls K F Aa (AL (v := Value.bool x5) K YN Aa (fun w F => Nz any w (v7) p3 _ h11 (Er (Ak Da h7 (Ah h_v7)) F))) fun a w K F => ?_
  refine vl tk 3 K F fun a w K F => ?_
  refine Ad ?_
  have F := F.frontM (i := 4) Aa Aa
  have F := F.frontM (i := 4) Aa Aa
  have F := F.frontM (i := 4) Aa Aa
  have F := F.frontM (i := 4) Aa Aa
  have F := F.frontM (i := 4) Aa Aa
  exact ⟨_, H, K.ra Aa, F⟩
 rintro a w ⟨x1, hj, K, F⟩
 have hj := AC hj
 subst hj
 have H := K1
 clear G1 K1
 refine CK K Aa H (fun K H => ?_) fun K H => ?_
 ·
  refine vc tk 2 K F fun a w K F => ?_
  obtain ⟨x6, h12, H⟩ := Ag H
  refine ls K F Aa (AL (v := Value.bool x6) K H7 Aa (fun w F => Np any w _ h12 (hG.go0 F))) fun a w K F => ?_
  refine Cv tk 3 K F fun a w K F => ?_
  refine Am (Az ?_)
  have H := AC H
  subst H
  refine Ax (.inl Aa) K F Aa (Ap K Aa) ?_
  exact ⟨rfl, F.done⟩
 refine Gp tk 3 K F fun a w K F => ?_
 obtain ⟨x7, h13, H⟩ := Ag H
 obtain ⟨x8, h14, H⟩ := Ag H
 obtain ⟨x9, h15, H⟩ := Ag H
 refine N0 (fun a w => ∃ b6 : Nat, ∃ b7 : Nat, ∃ b8 : Nat, ∃ v15 : Value, ∃ v16 : Value, ∃ v17 : Value, ∃ v18 : Value, ∃ v19 : Value, ∃ v20 : Value, Fr 139 [] [(4, .int .i64 p4), (5, .int .i64 p5), (7, .pointer (some ⟨b1, 0, none⟩)), (8, .pointer (some ⟨b2, 0, none⟩)), (9, .pointer (some ⟨b3, 0, none⟩)), (10, .pointer (some ⟨b4, 0, none⟩)), (13, .pointer (some ⟨b5, 0, none⟩)), (14, .bool false), (15, .pointer (some ⟨b6, 0, none⟩)), (16, .pointer (some ⟨b7, 0, none⟩)), (17, .pointer (some ⟨b8, 0, none⟩)), (42, .bool false), (44, (B1 p0 v1 v2)), (45, (Ct x7 v15 v16)), (46, (B1 p1 v3 v4)), (47, (Ct x8 v17 v18)), (48, (B1 p2 v5 v6)), (49, (Ct x9 v19 v20))] a ∧ Stw ⟨Y, [], w0⟩ [(b8, (BE x9 v19 v20)), (b7, (BE x8 v17 v18)), (b6, (BE x7 v15 v16)), (b5, (CF p6)), (b4, (CD p3 v7)), (b3, (Av p2 v5 v6)), (b2, (Av p1 v3 v4)), (b1, (Av p0 v1 v2))] [row v19 34 Bj x9.un.2.1.un.2.2.2, row v20 37 Bl x9.un.2.2.2.2, row v17 34 Bj x8.un.2.1.un.2.2.2, row v18 37 Bl x8.un.2.2.2.2, row v15 34 Bj x7.un.2.1.un.2.2.2, row v16 37 Bl x7.un.2.2.2.2] w) ?_ ?_
 ·
  refine Ms (PT.st 0 (PT.st 2 (PT.st 4 Kc))) (CN ⟨Y, [], w0⟩ [(some 1, b1, (VT p0 v1 v2)), (some 3, b2, (VT p1 v3 v4)), (some 5, b3, (VT p2 v5 v6))] []) (fun ch a d v w h => by cases d <;> exact h) MO (by kernel_rfl) F (fun w F => ⟨_, _, F, (all_cons (fun _ => (.tail _ (.tail _ (.tail _ (.tail _ (.head _)))))) (all_cons (fun _ => (.tail _ (.tail _ (.tail _ (.head _))))) (all_cons (fun _ => (.tail _ (.tail _ (.head _)))) Ab))), Ab⟩) fun w F => ?_
  refine GT (R := [1]) K Aa Aa (yC fun M Z hN hZ => Cw (cs := (Av p0 v1 v2)) (v := (B1 p0 v1 v2)) K Aa (hN ((some 1), b1, (Av p0 v1 v2)) (.head _) Aa) QI Aa) (by kernel_rfl) Aa fun a K => ?_
  refine GT (R := [3]) K Aa Aa (yC fun M Z hN hZ => Cw (cs := (Av p1 v3 v4)) (v := (B1 p1 v3 v4)) K Aa (hN ((some 3), b2, (Av p1 v3 v4)) (.tail _ (.head _)) Aa) QI Aa) (by kernel_rfl) Aa fun a K => ?_
  refine GT (R := [5]) K Aa Aa (yC fun M Z hN hZ => Cw (cs := (Av p2 v5 v6)) (v := (B1 p2 v5 v6)) K Aa (hN ((some 5), b3, (Av p2 v5 v6)) (.tail _ (.tail _ (.head _))) Aa) QI Aa) (by kernel_rfl) Aa fun a K => ?_
  refine ZA fun W wi wo => ?_
  have t5404_ : ∀ (b6 : Nat) (b7 : Nat) (b8 : Nat) (v15 : Value) (v16 : Value) (v17 : Value) (v18 : Value) (v19 : Value) (v20 : Value) (a : Act) (w : World) (L : Array Bool), L = #[true, true, true, true, true, true, true, true, true, true, true, true] → Fr 139 [] [(4, .int .i64 p4), (5, .int .i64 p5), (7, .pointer (some ⟨b1, 0, none⟩)), (8, .pointer (some ⟨b2, 0, none⟩)), (9, .pointer (some ⟨b3, 0, none⟩)), (10, .pointer (some ⟨b4, 0, none⟩)), (13, .pointer (some ⟨b5, 0, none⟩)), (14, .bool false), (15, .pointer (some ⟨b6, 0, none⟩)), (16, .pointer (some ⟨b7, 0, none⟩)), (17, .pointer (some ⟨b8, 0, none⟩)), (42, .bool false), (44, (B1 p0 v1 v2)), (45, (Ct x7 v15 v16)), (46, (B1 p1 v3 v4)), (47, (Ct x8 v17 v18)), (48, (B1 p2 v5 v6)), (49, (Ct x9 v19 v20))] a → Stw ⟨Y, [], w0⟩ [(b8, (BE x9 v19 v20)), (b7, (BE x8 v17 v18)), (b6, (BE x7 v15 v16)), (b5, (CF p6)), (b4, (CD p3 v7)), (b3, (Av p2 v5 v6)), (b2, (Av p1 v3 v4)), (b1, (Av p0 v1 v2))] [row v19 34 Bj x9.un.2.1.un.2.2.2, row v20 37 Bl x9.un.2.2.2.2, row v17 34 Bj x8.un.2.1.un.2.2.2, row v18 37 Bl x8.un.2.2.2.2, row v15 34 Bj x7.un.2.1.un.2.2.2, row v16 37 Bl x7.un.2.2.2.2] w → W PT.done L a w := by
   intro b6 b7 b8 v15 v16 v17 v18 v19 v20 a w L hL K F
   subst hL
   refine wi _ _ _ _ ?_
   have F := F.frontZ (i := 5) Aa Aa
   have F := F.frontZ (i := 5) Aa Aa
   have F := F.frontZ (i := 5) Aa Aa
   have F := F.frontZ (i := 5) Aa Aa
   have F := F.frontZ (i := 5) Aa Aa
   have F := F.frontZ (i := 5) Aa Aa
   have F := F.frontM (i := 7) Aa Aa
   have F := F.frontM (i := 7) Aa Aa
   have F := F.frontM (i := 7) Aa Aa
   have F := F.frontM (i := 7) Aa Aa
   have F := F.frontM (i := 7) Aa Aa
   have F := F.frontM (i := 7) Aa Aa
   have F := F.frontM (i := 7) Aa Aa
   have F := F.frontM (i := 7) Aa Aa
   refine LK ?_
   exact ⟨b6, b7, b8, v15, v16, v17, v18, v19, v20, K.ra Aa, F⟩
  have t5403_ : ∀ (b6 : Nat) (b7 : Nat) (b8 : Nat) (v15 : Value) (v16 : Value) (v17 : Value) (v18 : Value) (v19 : Value) (v20 : Value) (a : Act) (w : World) (L : Array Bool), L = #[true, true, true, true, true, true, true, true, true, true, true, false] → Fr 139 [] [(4, .int .i64 p4), (5, .int .i64 p5), (7, .pointer (some ⟨b1, 0, none⟩)), (8, .pointer (some ⟨b2, 0, none⟩)), (9, .pointer (some ⟨b3, 0, none⟩)), (10, .pointer (some ⟨b4, 0, none⟩)), (13, .pointer (some ⟨b5, 0, none⟩)), (14, .bool false), (15, .pointer (some ⟨b6, 0, none⟩)), (16, .pointer (some ⟨b7, 0, none⟩)), (17, .pointer (some ⟨b8, 0, none⟩)), (42, .bool false), (44, (B1 p0 v1 v2)), (45, (Ct x7 v15 v16)), (46, (B1 p1 v3 v4)), (47, (Ct x8 v17 v18)), (48, (B1 p2 v5 v6)), (49, (Ct x9 v19 v20))] a → Stw ⟨Y, [], w0⟩ [(b8, (AB)), (b7, (BE x8 v17 v18)), (b6, (BE x7 v15 v16)), (b5, (CF p6)), (b4, (CD p3 v7)), (b3, (Av p2 v5 v6)), (b2, (Av p1 v3 v4)), (b1, (Av p0 v1 v2))] [row v19 34 Bj x9.un.2.1.un.2.2.2, row v20 37 Bl x9.un.2.2.2.2, row v17 34 Bj x8.un.2.1.un.2.2.2, row v18 37 Bl x8.un.2.2.2.2, row v15 34 Bj x7.un.2.1.un.2.2.2, row v16 37 Bl x7.un.2.2.2.2] w → W HG L a w := by
   intro b6 b7 b8 v15 v16 v17 v18 v19 v20 a w L hL K F
   subst hL
   refine wi _ _ _ _ ?_
   refine Gw Aa ?_
   refine DZ 0 K F Aa Aa Aa Is Aa Aa (Af Aa (Af Aa (Af Aa (Af Aa (Af (F.one (k := 0) Aa) (Af Aa (Af Aa (Af (F.one (k := 1) Aa) CT)))))))) fun w F => ?_
   refine AE F (all_cons (fun h => Ae (by kernel_rfl) h) (all_cons (fun h => Ae (by kernel_rfl) h) (all_cons (fun h => Ae (by kernel_rfl) h) Ab))) Ab ?_
   exact wo _ _ _ _ (t5404_ b6 b7 b8 v15 v16 v17 v18 v19 v20 a w _ (by kernel_rfl) (K.ra Aa) F)
  have t5402_ : ∀ (b6 : Nat) (b7 : Nat) (b8 : Nat) (v15 : Value) (v16 : Value) (v17 : Value) (v18 : Value) (v19 : Value) (v20 : Value) (a : Act) (w : World) (L : Array Bool), L = #[true, true, true, true, true, true, true, true, true, true, false, false] → Fr 139 [] [(4, .int .i64 p4), (5, .int .i64 p5), (7, .pointer (some ⟨b1, 0, none⟩)), (8, .pointer (some ⟨b2, 0, none⟩)), (9, .pointer (some ⟨b3, 0, none⟩)), (10, .pointer (some ⟨b4, 0, none⟩)), (13, .pointer (some ⟨b5, 0, none⟩)), (14, .bool false), (15, .pointer (some ⟨b6, 0, none⟩)), (16, .pointer (some ⟨b7, 0, none⟩)), (17, .pointer (some ⟨b8, 0, none⟩)), (42, .bool false), (44, (B1 p0 v1 v2)), (45, (Ct x7 v15 v16)), (46, (B1 p1 v3 v4)), (47, (Ct x8 v17 v18)), (48, (B1 p2 v5 v6)), (49, (Ct x9 v19 v20))] a → Stw ⟨Y, [], w0⟩ [(b8, (AB)), (b7, (AB)), (b6, (BE x7 v15 v16)), (b5, (CF p6)), (b4, (CD p3 v7)), (b3, (Av p2 v5 v6)), (b2, (Av p1 v3 v4)), (b1, (Av p0 v1 v2))] [row v19 34 Bj x9.un.2.1.un.2.2.2, row v20 37 Bl x9.un.2.2.2.2, row v17 34 Bj x8.un.2.1.un.2.2.2, row v18 37 Bl x8.un.2.2.2.2, row v15 34 Bj x7.un.2.1.un.2.2.2, row v16 37 Bl x7.un.2.2.2.2] w → W HL L a w := by
   intro b6 b7 b8 v15 v16 v17 v18 v19 v20 a w L hL K F
   subst hL
   refine wi _ _ _ _ ?_
   refine Gw Aa ?_
   refine DZ 1 K F Aa Aa Aa Is Aa Aa (Af Aa (Af Aa (Af Aa (Af Aa (Af (F.one (k := 2) Aa) (Af Aa (Af Aa (Af (F.one (k := 3) Aa) CT)))))))) fun w F => ?_
   refine AE F (all_cons (fun h => Ae (by kernel_rfl) h) (all_cons (fun h => Ae (by kernel_rfl) h) (all_cons (fun h => Ae (by kernel_rfl) h) Ab))) Ab ?_
   exact wo _ _ _ _ (t5403_ b6 b7 b8 v15 v16 v17 v18 v19 v20 a w _ (by kernel_rfl) (K.ra Aa) F)
  have t5401_ : ∀ (b6 : Nat) (b7 : Nat) (b8 : Nat) (v15 : Value) (v16 : Value) (v17 : Value) (v18 : Value) (v19 : Value) (v20 : Value) (a : Act) (w : World) (L : Array Bool), L = #[true, true, true, true, true, true, true, true, true, false, false, false] → Fr 139 [] [(4, .int .i64 p4), (5, .int .i64 p5), (7, .pointer (some ⟨b1, 0, none⟩)), (8, .pointer (some ⟨b2, 0, none⟩)), (9, .pointer (some ⟨b3, 0, none⟩)), (10, .pointer (some ⟨b4, 0, none⟩)), (13, .pointer (some ⟨b5, 0, none⟩)), (14, .bool false), (15, .pointer (some ⟨b6, 0, none⟩)), (16, .pointer (some ⟨b7, 0, none⟩)), (17, .pointer (some ⟨b8, 0, none⟩)), (42, .bool false), (44, (B1 p0 v1 v2)), (45, (Ct x7 v15 v16)), (46, (B1 p1 v3 v4)), (47, (Ct x8 v17 v18)), (48, (B1 p2 v5 v6)), (49, (Ct x9 v19 v20))] a → Stw ⟨Y, [], w0⟩ [(b8, (AB)), (b7, (AB)), (b6, (AB)), (b5, (CF p6)), (b4, (CD p3 v7)), (b3, (Av p2 v5 v6)), (b2, (Av p1 v3 v4)), (b1, (Av p0 v1 v2))] [row v19 34 Bj x9.un.2.1.un.2.2.2, row v20 37 Bl x9.un.2.2.2.2, row v17 34 Bj x8.un.2.1.un.2.2.2, row v18 37 Bl x8.un.2.2.2.2, row v15 34 Bj x7.un.2.1.un.2.2.2, row v16 37 Bl x7.un.2.2.2.2] w → W DD L a w := by
   intro b6 b7 b8 v15 v16 v17 v18 v19 v20 a w L hL K F
   subst hL
   refine wi _ _ _ _ ?_
   refine Gw Aa ?_
   refine DZ 2 K F Aa Aa Aa Is Aa Aa (Af Aa (Af Aa (Af Aa (Af Aa (Af (F.one (k := 4) Aa) (Af Aa (Af Aa (Af (F.one (k := 5) Aa) CT)))))))) fun w F => ?_
   refine AE F (all_cons (fun h => Ae (by kernel_rfl) h) (all_cons (fun h => Ae (by kernel_rfl) h) (all_cons (fun h => Ae (by kernel_rfl) h) Ab))) Ab ?_
   exact wo _ _ _ _ (t5402_ b6 b7 b8 v15 v16 v17 v18 v19 v20 a w _ (by kernel_rfl) (K.ra Aa) F)
  have t5397_ : ∀ (b6 : Nat) (b7 : Nat) (v15 : Value) (v16 : Value) (v17 : Value) (v18 : Value) (v19 : Value) (v20 : Value) (a : Act) (w : World) (L : Array Bool), L = #[true, true, true, true, true, true, true, true, false, false, false, false] → Fr 139 [] [(4, .int .i64 p4), (5, .int .i64 p5), (7, .pointer (some ⟨b1, 0, none⟩)), (8, .pointer (some ⟨b2, 0, none⟩)), (9, .pointer (some ⟨b3, 0, none⟩)), (10, .pointer (some ⟨b4, 0, none⟩)), (13, .pointer (some ⟨b5, 0, none⟩)), (14, .bool false), (15, .pointer (some ⟨b6, 0, none⟩)), (16, .pointer (some ⟨b7, 0, none⟩)), (42, .bool false), (44, (B1 p0 v1 v2)), (45, (Ct x7 v15 v16)), (46, (B1 p1 v3 v4)), (47, (Ct x8 v17 v18)), (48, (B1 p2 v5 v6)), (49, (Ct x9 v19 v20))] a → Stw ⟨Y, [], w0⟩ [(b7, (AB)), (b6, (AB)), (b5, (CF p6)), (b4, (CD p3 v7)), (b3, (Av p2 v5 v6)), (b2, (Av p1 v3 v4)), (b1, (Av p0 v1 v2))] [row v19 34 Bj x9.un.2.1.un.2.2.2, row v20 37 Bl x9.un.2.2.2.2, row v17 34 Bj x8.un.2.1.un.2.2.2, row v18 37 Bl x8.un.2.2.2.2, row v15 34 Bj x7.un.2.1.un.2.2.2, row v16 37 Bl x7.un.2.2.2.2] w → W EE L a w := by
   intro b6 b7 v15 v16 v17 v18 v19 v20 a w L hL K F
   subst hL
   refine wi _ _ _ _ ?_
   refine Gw Aa ?_
   refine AF (cs := (AB)) K F Aa Fx Aa fun b8 a w K F => ?_
   refine AE F (all_cons (fun h => Ae (by kernel_rfl) h) (all_cons (fun h => Ae (by kernel_rfl) h) (all_cons (fun h => Ae (by kernel_rfl) h) Ab))) Ab ?_
   exact wo _ _ _ _ (t5401_ b6 b7 b8 v15 v16 v17 v18 v19 v20 a w _ (by kernel_rfl) (K.ra Aa) F)
  have t5398_ : ∀ (b6 : Nat) (b8 : Nat) (v15 : Value) (v16 : Value) (v17 : Value) (v18 : Value) (v19 : Value) (v20 : Value) (a : Act) (w : World) (L : Array Bool), L = #[true, true, true, true, true, true, true, false, true, false, false, false] → Fr 139 [] [(4, .int .i64 p4), (5, .int .i64 p5), (7, .pointer (some ⟨b1, 0, none⟩)), (8, .pointer (some ⟨b2, 0, none⟩)), (9, .pointer (some ⟨b3, 0, none⟩)), (10, .pointer (some ⟨b4, 0, none⟩)), (13, .pointer (some ⟨b5, 0, none⟩)), (14, .bool false), (15, .pointer (some ⟨b6, 0, none⟩)), (17, .pointer (some ⟨b8, 0, none⟩)), (42, .bool false), (44, (B1 p0 v1 v2)), (45, (Ct x7 v15 v16)), (46, (B1 p1 v3 v4)), (47, (Ct x8 v17 v18)), (48, (B1 p2 v5 v6)), (49, (Ct x9 v19 v20))] a → Stw ⟨Y, [], w0⟩ [(b8, (AB)), (b6, (AB)), (b5, (CF p6)), (b4, (CD p3 v7)), (b3, (Av p2 v5 v6)), (b2, (Av p1 v3 v4)), (b1, (Av p0 v1 v2))] [row v19 34 Bj x9.un.2.1.un.2.2.2, row v20 37 Bl x9.un.2.2.2.2, row v17 34 Bj x8.un.2.1.un.2.2.2, row v18 37 Bl x8.un.2.2.2.2, row v15 34 Bj x7.un.2.1.un.2.2.2, row v16 37 Bl x7.un.2.2.2.2] w → W EC L a w := by
   intro b6 b8 v15 v16 v17 v18 v19 v20 a w L hL K F
   subst hL
   refine wi _ _ _ _ ?_
   refine Gw Aa ?_
   refine AF (cs := (AB)) K F Aa Fx Aa fun b7 a w K F => ?_
   refine AE F (all_cons (fun h => Ae (by kernel_rfl) h) (all_cons (fun h => Ae (by kernel_rfl) h) (all_cons (fun h => Ae (by kernel_rfl) h) Ab))) Ab ?_
   have F := F.frontM (i := 1) Aa Aa
   exact wo _ _ _ _ (t5401_ b6 b7 b8 v15 v16 v17 v18 v19 v20 a w _ (by kernel_rfl) (K.ra Aa) F)
  have t5399_ : ∀ (b7 : Nat) (b8 : Nat) (v15 : Value) (v16 : Value) (v17 : Value) (v18 : Value) (v19 : Value) (v20 : Value) (a : Act) (w : World) (L : Array Bool), L = #[true, true, true, true, true, true, false, true, true, false, false, false] → Fr 139 [] [(4, .int .i64 p4), (5, .int .i64 p5), (7, .pointer (some ⟨b1, 0, none⟩)), (8, .pointer (some ⟨b2, 0, none⟩)), (9, .pointer (some ⟨b3, 0, none⟩)), (10, .pointer (some ⟨b4, 0, none⟩)), (13, .pointer (some ⟨b5, 0, none⟩)), (14, .bool false), (16, .pointer (some ⟨b7, 0, none⟩)), (17, .pointer (some ⟨b8, 0, none⟩)), (42, .bool false), (44, (B1 p0 v1 v2)), (45, (Ct x7 v15 v16)), (46, (B1 p1 v3 v4)), (47, (Ct x8 v17 v18)), (48, (B1 p2 v5 v6)), (49, (Ct x9 v19 v20))] a → Stw ⟨Y, [], w0⟩ [(b8, (AB)), (b7, (AB)), (b5, (CF p6)), (b4, (CD p3 v7)), (b3, (Av p2 v5 v6)), (b2, (Av p1 v3 v4)), (b1, (Av p0 v1 v2))] [row v19 34 Bj x9.un.2.1.un.2.2.2, row v20 37 Bl x9.un.2.2.2.2, row v17 34 Bj x8.un.2.1.un.2.2.2, row v18 37 Bl x8.un.2.2.2.2, row v15 34 Bj x7.un.2.1.un.2.2.2, row v16 37 Bl x7.un.2.2.2.2] w → W EB L a w := by
   intro b7 b8 v15 v16 v17 v18 v19 v20 a w L hL K F
   subst hL
   refine wi _ _ _ _ ?_
   refine Gw Aa ?_
   refine AF (cs := (AB)) K F Aa Fx Aa fun b6 a w K F => ?_
   refine AE F (all_cons (fun h => Ae (by kernel_rfl) h) (all_cons (fun h => Ae (by kernel_rfl) h) (all_cons (fun h => Ae (by kernel_rfl) h) Ab))) Ab ?_
   have F := F.frontM (i := 2) Aa Aa
   have F := F.frontM (i := 2) Aa Aa
   exact wo _ _ _ _ (t5401_ b6 b7 b8 v15 v16 v17 v18 v19 v20 a w _ (by kernel_rfl) (K.ra Aa) F)
  have t5400_ : ∀ (b6 : Nat) (b7 : Nat) (b8 : Nat) (v15 : Value) (v16 : Value) (v17 : Value) (v18 : Value) (a : Act) (w : World) (L : Array Bool), L = #[true, true, true, true, true, false, true, true, true, false, false, false] → Fr 139 [] [(4, .int .i64 p4), (5, .int .i64 p5), (7, .pointer (some ⟨b1, 0, none⟩)), (8, .pointer (some ⟨b2, 0, none⟩)), (9, .pointer (some ⟨b3, 0, none⟩)), (10, .pointer (some ⟨b4, 0, none⟩)), (13, .pointer (some ⟨b5, 0, none⟩)), (14, .bool false), (15, .pointer (some ⟨b6, 0, none⟩)), (16, .pointer (some ⟨b7, 0, none⟩)), (17, .pointer (some ⟨b8, 0, none⟩)), (42, .bool false), (44, (B1 p0 v1 v2)), (45, (Ct x7 v15 v16)), (46, (B1 p1 v3 v4)), (47, (Ct x8 v17 v18)), (48, (B1 p2 v5 v6))] a → Stw ⟨Y, [], w0⟩ [(b8, (AB)), (b7, (AB)), (b6, (AB)), (b5, (CF p6)), (b4, (CD p3 v7)), (b3, (Av p2 v5 v6)), (b2, (Av p1 v3 v4)), (b1, (Av p0 v1 v2))] [row v17 34 Bj x8.un.2.1.un.2.2.2, row v18 37 Bl x8.un.2.2.2.2, row v15 34 Bj x7.un.2.1.un.2.2.2, row v16 37 Bl x7.un.2.2.2.2] w → W DC L a w := by
   intro b6 b7 b8 v15 v16 v17 v18 a w L hL K F
   subst hL
   refine wi _ _ _ _ ?_
   refine Gw Aa ?_
   refine A7 (Ml := []) (Zl := []) (β := Value × Value) (rv := fun x => (Ct x9 x.1 x.2)) (MM := fun x => []) (ZZ := fun x => [row x.1 34 Bj x9.un.2.1.un.2.2.2, row x.2 37 Bl x9.un.2.2.2.2]) K F H8 Aa Aa (fun hL => Cj _ w (v5) (v6) (Tr27.of (p2.un.1, Tr24.of (p2.un.2.1.un.1, p2.un.2.1.un.2.1, p2.un.2.1.un.2.2.1, p2.un.2.1.un.2.2.2), p2.un.2.2.1, p2.un.2.2.2.1, p2.un.2.2.2.2)) _ h15 ((Ak Da h5 (Ah h_v5)) w F).nx ((Ak Ej h6 (Ah h_v6)) w F).nx) fun x a w K F => ?_
   obtain ⟨v19, v20⟩ := x
   have F : Stw ⟨Y, [], w0⟩ [(b8, (AB)), (b7, (AB)), (b6, (AB)), (b5, (CF p6)), (b4, (CD p3 v7)), (b3, (Av p2 v5 v6)), (b2, (Av p1 v3 v4)), (b1, (Av p0 v1 v2))] [row v19 34 Bj x9.un.2.1.un.2.2.2, row v20 37 Bl x9.un.2.2.2.2, row v17 34 Bj x8.un.2.1.un.2.2.2, row v18 37 Bl x8.un.2.2.2.2, row v15 34 Bj x7.un.2.1.un.2.2.2, row v16 37 Bl x7.un.2.2.2.2] w := F
   refine AE F (all_cons (fun h => Ae (by kernel_rfl) h) (all_cons (fun h => Ae (by kernel_rfl) h) (all_cons (fun h => Ae (by kernel_rfl) h) Ab))) Ab ?_
   exact wo _ _ _ _ (t5401_ b6 b7 b8 v15 v16 v17 v18 v19 v20 a w _ (by kernel_rfl) (K.ra Aa) F)
  have t5390_ : ∀ (b6 : Nat) (v15 : Value) (v16 : Value) (v17 : Value) (v18 : Value) (v19 : Value) (v20 : Value) (a : Act) (w : World) (L : Array Bool), L = #[true, true, true, true, true, true, true, false, false, false, false, false] → Fr 139 [] [(4, .int .i64 p4), (5, .int .i64 p5), (7, .pointer (some ⟨b1, 0, none⟩)), (8, .pointer (some ⟨b2, 0, none⟩)), (9, .pointer (some ⟨b3, 0, none⟩)), (10, .pointer (some ⟨b4, 0, none⟩)), (13, .pointer (some ⟨b5, 0, none⟩)), (14, .bool false), (15, .pointer (some ⟨b6, 0, none⟩)), (42, .bool false), (44, (B1 p0 v1 v2)), (45, (Ct x7 v15 v16)), (46, (B1 p1 v3 v4)), (47, (Ct x8 v17 v18)), (48, (B1 p2 v5 v6)), (49, (Ct x9 v19 v20))] a → Stw ⟨Y, [], w0⟩ [(b6, (AB)), (b5, (CF p6)), (b4, (CD p3 v7)), (b3, (Av p2 v5 v6)), (b2, (Av p1 v3 v4)), (b1, (Av p0 v1 v2))] [row v19 34 Bj x9.un.2.1.un.2.2.2, row v20 37 Bl x9.un.2.2.2.2, row v17 34 Bj x8.un.2.1.un.2.2.2, row v18 37 Bl x8.un.2.2.2.2, row v15 34 Bj x7.un.2.1.un.2.2.2, row v16 37 Bl x7.un.2.2.2.2] w → W F2 L a w := by
   intro b6 v15 v16 v17 v18 v19 v20 a w L hL K F
   subst hL
   refine wi _ _ _ _ ?_
   refine C9 Aa ?_ ?_
   ·
    refine AF (cs := (AB)) K F Aa Fx Aa fun b7 a w K F => ?_
    refine AE F (all_cons (fun h => Ae (by kernel_rfl) h) (all_cons (fun h => Ae (by kernel_rfl) h) (all_cons (fun h => Ae (by kernel_rfl) h) Ab))) Ab ?_
    exact wo _ _ _ _ (t5397_ b6 b7 v15 v16 v17 v18 v19 v20 a w _ (by kernel_rfl) (K.ra Aa) F)
   refine C9 Aa ?_ ?_
   ·
    refine AF (cs := (AB)) K F Aa Fx Aa fun b8 a w K F => ?_
    refine AE F (all_cons (fun h => Ae (by kernel_rfl) h) (all_cons (fun h => Ae (by kernel_rfl) h) (all_cons (fun h => Ae (by kernel_rfl) h) Ab))) Ab ?_
    exact wo _ _ _ _ (t5398_ b6 b8 v15 v16 v17 v18 v19 v20 a w _ (by kernel_rfl) (K.ra Aa) F)
   exact trivial
  have t5391_ : ∀ (b7 : Nat) (v15 : Value) (v16 : Value) (v17 : Value) (v18 : Value) (v19 : Value) (v20 : Value) (a : Act) (w : World) (L : Array Bool), L = #[true, true, true, true, true, true, false, true, false, false, false, false] → Fr 139 [] [(4, .int .i64 p4), (5, .int .i64 p5), (7, .pointer (some ⟨b1, 0, none⟩)), (8, .pointer (some ⟨b2, 0, none⟩)), (9, .pointer (some ⟨b3, 0, none⟩)), (10, .pointer (some ⟨b4, 0, none⟩)), (13, .pointer (some ⟨b5, 0, none⟩)), (14, .bool false), (16, .pointer (some ⟨b7, 0, none⟩)), (42, .bool false), (44, (B1 p0 v1 v2)), (45, (Ct x7 v15 v16)), (46, (B1 p1 v3 v4)), (47, (Ct x8 v17 v18)), (48, (B1 p2 v5 v6)), (49, (Ct x9 v19 v20))] a → Stw ⟨Y, [], w0⟩ [(b7, (AB)), (b5, (CF p6)), (b4, (CD p3 v7)), (b3, (Av p2 v5 v6)), (b2, (Av p1 v3 v4)), (b1, (Av p0 v1 v2))] [row v19 34 Bj x9.un.2.1.un.2.2.2, row v20 37 Bl x9.un.2.2.2.2, row v17 34 Bj x8.un.2.1.un.2.2.2, row v18 37 Bl x8.un.2.2.2.2, row v15 34 Bj x7.un.2.1.un.2.2.2, row v16 37 Bl x7.un.2.2.2.2] w → W F4 L a w := by
   intro b7 v15 v16 v17 v18 v19 v20 a w L hL K F
   subst hL
   refine wi _ _ _ _ ?_
   refine C9 Aa ?_ ?_
   ·
    refine AF (cs := (AB)) K F Aa Fx Aa fun b6 a w K F => ?_
    refine AE F (all_cons (fun h => Ae (by kernel_rfl) h) (all_cons (fun h => Ae (by kernel_rfl) h) (all_cons (fun h => Ae (by kernel_rfl) h) Ab))) Ab ?_
    have F := F.frontM (i := 1) Aa Aa
    exact wo _ _ _ _ (t5397_ b6 b7 v15 v16 v17 v18 v19 v20 a w _ (by kernel_rfl) (K.ra Aa) F)
   refine C9 Aa ?_ ?_
   ·
    refine AF (cs := (AB)) K F Aa Fx Aa fun b8 a w K F => ?_
    refine AE F (all_cons (fun h => Ae (by kernel_rfl) h) (all_cons (fun h => Ae (by kernel_rfl) h) (all_cons (fun h => Ae (by kernel_rfl) h) Ab))) Ab ?_
    exact wo _ _ _ _ (t5399_ b7 b8 v15 v16 v17 v18 v19 v20 a w _ (by kernel_rfl) (K.ra Aa) F)
   exact trivial
  have t5392_ : ∀ (b8 : Nat) (v15 : Value) (v16 : Value) (v17 : Value) (v18 : Value) (v19 : Value) (v20 : Value) (a : Act) (w : World) (L : Array Bool), L = #[true, true, true, true, true, true, false, false, true, false, false, false] → Fr 139 [] [(4, .int .i64 p4), (5, .int .i64 p5), (7, .pointer (some ⟨b1, 0, none⟩)), (8, .pointer (some ⟨b2, 0, none⟩)), (9, .pointer (some ⟨b3, 0, none⟩)), (10, .pointer (some ⟨b4, 0, none⟩)), (13, .pointer (some ⟨b5, 0, none⟩)), (14, .bool false), (17, .pointer (some ⟨b8, 0, none⟩)), (42, .bool false), (44, (B1 p0 v1 v2)), (45, (Ct x7 v15 v16)), (46, (B1 p1 v3 v4)), (47, (Ct x8 v17 v18)), (48, (B1 p2 v5 v6)), (49, (Ct x9 v19 v20))] a → Stw ⟨Y, [], w0⟩ [(b8, (AB)), (b5, (CF p6)), (b4, (CD p3 v7)), (b3, (Av p2 v5 v6)), (b2, (Av p1 v3 v4)), (b1, (Av p0 v1 v2))] [row v19 34 Bj x9.un.2.1.un.2.2.2, row v20 37 Bl x9.un.2.2.2.2, row v17 34 Bj x8.un.2.1.un.2.2.2, row v18 37 Bl x8.un.2.2.2.2, row v15 34 Bj x7.un.2.1.un.2.2.2, row v16 37 Bl x7.un.2.2.2.2] w → W F8 L a w := by
   intro b8 v15 v16 v17 v18 v19 v20 a w L hL K F
   subst hL
   refine wi _ _ _ _ ?_
   refine C9 Aa ?_ ?_
   ·
    refine AF (cs := (AB)) K F Aa Fx Aa fun b6 a w K F => ?_
    refine AE F (all_cons (fun h => Ae (by kernel_rfl) h) (all_cons (fun h => Ae (by kernel_rfl) h) (all_cons (fun h => Ae (by kernel_rfl) h) Ab))) Ab ?_
    have F := F.frontM (i := 1) Aa Aa
    exact wo _ _ _ _ (t5398_ b6 b8 v15 v16 v17 v18 v19 v20 a w _ (by kernel_rfl) (K.ra Aa) F)
   refine C9 Aa ?_ ?_
   ·
    refine AF (cs := (AB)) K F Aa Fx Aa fun b7 a w K F => ?_
    refine AE F (all_cons (fun h => Ae (by kernel_rfl) h) (all_cons (fun h => Ae (by kernel_rfl) h) (all_cons (fun h => Ae (by kernel_rfl) h) Ab))) Ab ?_
    have F := F.frontM (i := 1) Aa Aa
    exact wo _ _ _ _ (t5399_ b7 b8 v15 v16 v17 v18 v19 v20 a w _ (by kernel_rfl) (K.ra Aa) F)
   exact trivial
  have t5393_ : ∀ (b6 : Nat) (b7 : Nat) (v15 : Value) (v16 : Value) (v17 : Value) (v18 : Value) (a : Act) (w : World) (L : Array Bool), L = #[true, true, true, true, true, false, true, true, false, false, false, false] → Fr 139 [] [(4, .int .i64 p4), (5, .int .i64 p5), (7, .pointer (some ⟨b1, 0, none⟩)), (8, .pointer (some ⟨b2, 0, none⟩)), (9, .pointer (some ⟨b3, 0, none⟩)), (10, .pointer (some ⟨b4, 0, none⟩)), (13, .pointer (some ⟨b5, 0, none⟩)), (14, .bool false), (15, .pointer (some ⟨b6, 0, none⟩)), (16, .pointer (some ⟨b7, 0, none⟩)), (42, .bool false), (44, (B1 p0 v1 v2)), (45, (Ct x7 v15 v16)), (46, (B1 p1 v3 v4)), (47, (Ct x8 v17 v18)), (48, (B1 p2 v5 v6))] a → Stw ⟨Y, [], w0⟩ [(b7, (AB)), (b6, (AB)), (b5, (CF p6)), (b4, (CD p3 v7)), (b3, (Av p2 v5 v6)), (b2, (Av p1 v3 v4)), (b1, (Av p0 v1 v2))] [row v17 34 Bj x8.un.2.1.un.2.2.2, row v18 37 Bl x8.un.2.2.2.2, row v15 34 Bj x7.un.2.1.un.2.2.2, row v16 37 Bl x7.un.2.2.2.2] w → W EA L a w := by
   intro b6 b7 v15 v16 v17 v18 a w L hL K F
   subst hL
   refine wi _ _ _ _ ?_
   refine C9 Aa ?_ ?_
   ·
    refine A7 (Ml := []) (Zl := []) (β := Value × Value) (rv := fun x => (Ct x9 x.1 x.2)) (MM := fun x => []) (ZZ := fun x => [row x.1 34 Bj x9.un.2.1.un.2.2.2, row x.2 37 Bl x9.un.2.2.2.2]) K F H8 Aa Aa (fun hL => Cj _ w (v5) (v6) (Tr27.of (p2.un.1, Tr24.of (p2.un.2.1.un.1, p2.un.2.1.un.2.1, p2.un.2.1.un.2.2.1, p2.un.2.1.un.2.2.2), p2.un.2.2.1, p2.un.2.2.2.1, p2.un.2.2.2.2)) _ h15 ((Ak Da h5 (Ah h_v5)) w F).nx ((Ak Ej h6 (Ah h_v6)) w F).nx) fun x a w K F => ?_
    obtain ⟨v19, v20⟩ := x
    have F : Stw ⟨Y, [], w0⟩ [(b7, (AB)), (b6, (AB)), (b5, (CF p6)), (b4, (CD p3 v7)), (b3, (Av p2 v5 v6)), (b2, (Av p1 v3 v4)), (b1, (Av p0 v1 v2))] [row v19 34 Bj x9.un.2.1.un.2.2.2, row v20 37 Bl x9.un.2.2.2.2, row v17 34 Bj x8.un.2.1.un.2.2.2, row v18 37 Bl x8.un.2.2.2.2, row v15 34 Bj x7.un.2.1.un.2.2.2, row v16 37 Bl x7.un.2.2.2.2] w := F
    refine AE F (all_cons (fun h => Ae (by kernel_rfl) h) (all_cons (fun h => Ae (by kernel_rfl) h) (all_cons (fun h => Ae (by kernel_rfl) h) Ab))) Ab ?_
    exact wo _ _ _ _ (t5397_ b6 b7 v15 v16 v17 v18 v19 v20 a w _ (by kernel_rfl) (K.ra Aa) F)
   refine C9 Aa ?_ ?_
   ·
    refine AF (cs := (AB)) K F Aa Fx Aa fun b8 a w K F => ?_
    refine AE F (all_cons (fun h => Ae (by kernel_rfl) h) (all_cons (fun h => Ae (by kernel_rfl) h) (all_cons (fun _ => (.tail _ (.tail _ (.tail _ (.tail _ (.tail _ (.head _))))))) Ab))) Ab ?_
    exact wo _ _ _ _ (t5400_ b6 b7 b8 v15 v16 v17 v18 a w _ (by kernel_rfl) (K.ra Aa) F)
   exact trivial
  have t5394_ : ∀ (b6 : Nat) (b8 : Nat) (v15 : Value) (v16 : Value) (v17 : Value) (v18 : Value) (a : Act) (w : World) (L : Array Bool), L = #[true, true, true, true, true, false, true, false, true, false, false, false] → Fr 139 [] [(4, .int .i64 p4), (5, .int .i64 p5), (7, .pointer (some ⟨b1, 0, none⟩)), (8, .pointer (some ⟨b2, 0, none⟩)), (9, .pointer (some ⟨b3, 0, none⟩)), (10, .pointer (some ⟨b4, 0, none⟩)), (13, .pointer (some ⟨b5, 0, none⟩)), (14, .bool false), (15, .pointer (some ⟨b6, 0, none⟩)), (17, .pointer (some ⟨b8, 0, none⟩)), (42, .bool false), (44, (B1 p0 v1 v2)), (45, (Ct x7 v15 v16)), (46, (B1 p1 v3 v4)), (47, (Ct x8 v17 v18)), (48, (B1 p2 v5 v6))] a → Stw ⟨Y, [], w0⟩ [(b8, (AB)), (b6, (AB)), (b5, (CF p6)), (b4, (CD p3 v7)), (b3, (Av p2 v5 v6)), (b2, (Av p1 v3 v4)), (b1, (Av p0 v1 v2))] [row v17 34 Bj x8.un.2.1.un.2.2.2, row v18 37 Bl x8.un.2.2.2.2, row v15 34 Bj x7.un.2.1.un.2.2.2, row v16 37 Bl x7.un.2.2.2.2] w → W EF L a w := by
   intro b6 b8 v15 v16 v17 v18 a w L hL K F
   subst hL
   refine wi _ _ _ _ ?_
   refine C9 Aa ?_ ?_
   ·
    refine A7 (Ml := []) (Zl := []) (β := Value × Value) (rv := fun x => (Ct x9 x.1 x.2)) (MM := fun x => []) (ZZ := fun x => [row x.1 34 Bj x9.un.2.1.un.2.2.2, row x.2 37 Bl x9.un.2.2.2.2]) K F H8 Aa Aa (fun hL => Cj _ w (v5) (v6) (Tr27.of (p2.un.1, Tr24.of (p2.un.2.1.un.1, p2.un.2.1.un.2.1, p2.un.2.1.un.2.2.1, p2.un.2.1.un.2.2.2), p2.un.2.2.1, p2.un.2.2.2.1, p2.un.2.2.2.2)) _ h15 ((Ak Da h5 (Ah h_v5)) w F).nx ((Ak Ej h6 (Ah h_v6)) w F).nx) fun x a w K F => ?_
    obtain ⟨v19, v20⟩ := x
    have F : Stw ⟨Y, [], w0⟩ [(b8, (AB)), (b6, (AB)), (b5, (CF p6)), (b4, (CD p3 v7)), (b3, (Av p2 v5 v6)), (b2, (Av p1 v3 v4)), (b1, (Av p0 v1 v2))] [row v19 34 Bj x9.un.2.1.un.2.2.2, row v20 37 Bl x9.un.2.2.2.2, row v17 34 Bj x8.un.2.1.un.2.2.2, row v18 37 Bl x8.un.2.2.2.2, row v15 34 Bj x7.un.2.1.un.2.2.2, row v16 37 Bl x7.un.2.2.2.2] w := F
    refine AE F (all_cons (fun h => Ae (by kernel_rfl) h) (all_cons (fun h => Ae (by kernel_rfl) h) (all_cons (fun h => Ae (by kernel_rfl) h) Ab))) Ab ?_
    exact wo _ _ _ _ (t5398_ b6 b8 v15 v16 v17 v18 v19 v20 a w _ (by kernel_rfl) (K.ra Aa) F)
   refine C9 Aa ?_ ?_
   ·
    refine AF (cs := (AB)) K F Aa Fx Aa fun b7 a w K F => ?_
    refine AE F (all_cons (fun h => Ae (by kernel_rfl) h) (all_cons (fun h => Ae (by kernel_rfl) h) (all_cons (fun _ => (.tail _ (.tail _ (.tail _ (.tail _ (.tail _ (.head _))))))) Ab))) Ab ?_
    have F := F.frontM (i := 1) Aa Aa
    exact wo _ _ _ _ (t5400_ b6 b7 b8 v15 v16 v17 v18 a w _ (by kernel_rfl) (K.ra Aa) F)
   exact trivial
  have t5395_ : ∀ (b7 : Nat) (b8 : Nat) (v15 : Value) (v16 : Value) (v17 : Value) (v18 : Value) (a : Act) (w : World) (L : Array Bool), L = #[true, true, true, true, true, false, false, true, true, false, false, false] → Fr 139 [] [(4, .int .i64 p4), (5, .int .i64 p5), (7, .pointer (some ⟨b1, 0, none⟩)), (8, .pointer (some ⟨b2, 0, none⟩)), (9, .pointer (some ⟨b3, 0, none⟩)), (10, .pointer (some ⟨b4, 0, none⟩)), (13, .pointer (some ⟨b5, 0, none⟩)), (14, .bool false), (16, .pointer (some ⟨b7, 0, none⟩)), (17, .pointer (some ⟨b8, 0, none⟩)), (42, .bool false), (44, (B1 p0 v1 v2)), (45, (Ct x7 v15 v16)), (46, (B1 p1 v3 v4)), (47, (Ct x8 v17 v18)), (48, (B1 p2 v5 v6))] a → Stw ⟨Y, [], w0⟩ [(b8, (AB)), (b7, (AB)), (b5, (CF p6)), (b4, (CD p3 v7)), (b3, (Av p2 v5 v6)), (b2, (Av p1 v3 v4)), (b1, (Av p0 v1 v2))] [row v17 34 Bj x8.un.2.1.un.2.2.2, row v18 37 Bl x8.un.2.2.2.2, row v15 34 Bj x7.un.2.1.un.2.2.2, row v16 37 Bl x7.un.2.2.2.2] w → W ED L a w := by
   intro b7 b8 v15 v16 v17 v18 a w L hL K F
   subst hL
   refine wi _ _ _ _ ?_
   refine C9 Aa ?_ ?_
   ·
    refine A7 (Ml := []) (Zl := []) (β := Value × Value) (rv := fun x => (Ct x9 x.1 x.2)) (MM := fun x => []) (ZZ := fun x => [row x.1 34 Bj x9.un.2.1.un.2.2.2, row x.2 37 Bl x9.un.2.2.2.2]) K F H8 Aa Aa (fun hL => Cj _ w (v5) (v6) (Tr27.of (p2.un.1, Tr24.of (p2.un.2.1.un.1, p2.un.2.1.un.2.1, p2.un.2.1.un.2.2.1, p2.un.2.1.un.2.2.2), p2.un.2.2.1, p2.un.2.2.2.1, p2.un.2.2.2.2)) _ h15 ((Ak Da h5 (Ah h_v5)) w F).nx ((Ak Ej h6 (Ah h_v6)) w F).nx) fun x a w K F => ?_
    obtain ⟨v19, v20⟩ := x
    have F : Stw ⟨Y, [], w0⟩ [(b8, (AB)), (b7, (AB)), (b5, (CF p6)), (b4, (CD p3 v7)), (b3, (Av p2 v5 v6)), (b2, (Av p1 v3 v4)), (b1, (Av p0 v1 v2))] [row v19 34 Bj x9.un.2.1.un.2.2.2, row v20 37 Bl x9.un.2.2.2.2, row v17 34 Bj x8.un.2.1.un.2.2.2, row v18 37 Bl x8.un.2.2.2.2, row v15 34 Bj x7.un.2.1.un.2.2.2, row v16 37 Bl x7.un.2.2.2.2] w := F
    refine AE F (all_cons (fun h => Ae (by kernel_rfl) h) (all_cons (fun h => Ae (by kernel_rfl) h) (all_cons (fun h => Ae (by kernel_rfl) h) Ab))) Ab ?_
    exact wo _ _ _ _ (t5399_ b7 b8 v15 v16 v17 v18 v19 v20 a w _ (by kernel_rfl) (K.ra Aa) F)
   refine C9 Aa ?_ ?_
   ·
    refine AF (cs := (AB)) K F Aa Fx Aa fun b6 a w K F => ?_
    refine AE F (all_cons (fun h => Ae (by kernel_rfl) h) (all_cons (fun h => Ae (by kernel_rfl) h) (all_cons (fun _ => (.tail _ (.tail _ (.tail _ (.tail _ (.tail _ (.head _))))))) Ab))) Ab ?_
    have F := F.frontM (i := 2) Aa Aa
    have F := F.frontM (i := 2) Aa Aa
    exact wo _ _ _ _ (t5400_ b6 b7 b8 v15 v16 v17 v18 a w _ (by kernel_rfl) (K.ra Aa) F)
   exact trivial
  have t5396_ : ∀ (b6 : Nat) (b7 : Nat) (b8 : Nat) (v15 : Value) (v16 : Value) (a : Act) (w : World) (L : Array Bool), L = #[true, true, true, false, true, false, true, true, true, false, false, false] → Fr 139 [] [(4, .int .i64 p4), (5, .int .i64 p5), (7, .pointer (some ⟨b1, 0, none⟩)), (8, .pointer (some ⟨b2, 0, none⟩)), (9, .pointer (some ⟨b3, 0, none⟩)), (10, .pointer (some ⟨b4, 0, none⟩)), (13, .pointer (some ⟨b5, 0, none⟩)), (14, .bool false), (15, .pointer (some ⟨b6, 0, none⟩)), (16, .pointer (some ⟨b7, 0, none⟩)), (17, .pointer (some ⟨b8, 0, none⟩)), (42, .bool false), (44, (B1 p0 v1 v2)), (45, (Ct x7 v15 v16)), (46, (B1 p1 v3 v4)), (48, (B1 p2 v5 v6))] a → Stw ⟨Y, [], w0⟩ [(b8, (AB)), (b7, (AB)), (b6, (AB)), (b5, (CF p6)), (b4, (CD p3 v7)), (b3, (Av p2 v5 v6)), (b2, (Av p1 v3 v4)), (b1, (Av p0 v1 v2))] [row v15 34 Bj x7.un.2.1.un.2.2.2, row v16 37 Bl x7.un.2.2.2.2] w → W DF L a w := by
   intro b6 b7 b8 v15 v16 a w L hL K F
   subst hL
   refine wi _ _ _ _ ?_
   refine Gw Aa ?_
   refine A7 (Ml := []) (Zl := []) (β := Value × Value) (rv := fun x => (Ct x8 x.1 x.2)) (MM := fun x => []) (ZZ := fun x => [row x.1 34 Bj x8.un.2.1.un.2.2.2, row x.2 37 Bl x8.un.2.2.2.2]) K F H8 Aa Aa (fun hL => Cj _ w (v3) (v4) (Tr27.of (p1.un.1, Tr24.of (p1.un.2.1.un.1, p1.un.2.1.un.2.1, p1.un.2.1.un.2.2.1, p1.un.2.1.un.2.2.2), p1.un.2.2.1, p1.un.2.2.2.1, p1.un.2.2.2.2)) _ h14 ((Ak Da h3 (Ah h_v3)) w F).nx ((Ak Ej h4 (Ah h_v4)) w F).nx) fun x a w K F => ?_
   obtain ⟨v17, v18⟩ := x
   have F : Stw ⟨Y, [], w0⟩ [(b8, (AB)), (b7, (AB)), (b6, (AB)), (b5, (CF p6)), (b4, (CD p3 v7)), (b3, (Av p2 v5 v6)), (b2, (Av p1 v3 v4)), (b1, (Av p0 v1 v2))] [row v17 34 Bj x8.un.2.1.un.2.2.2, row v18 37 Bl x8.un.2.2.2.2, row v15 34 Bj x7.un.2.1.un.2.2.2, row v16 37 Bl x7.un.2.2.2.2] w := F
   refine AE F (all_cons (fun h => Ae (by kernel_rfl) h) (all_cons (fun h => Ae (by kernel_rfl) h) (all_cons (fun _ => (.tail _ (.tail _ (.tail _ (.tail _ (.tail _ (.head _))))))) Ab))) Ab ?_
   exact wo _ _ _ _ (t5400_ b6 b7 b8 v15 v16 v17 v18 a w _ (by kernel_rfl) (K.ra Aa) F)
  have t5382_ : ∀ (v15 : Value) (v16 : Value) (v17 : Value) (v18 : Value) (v19 : Value) (v20 : Value) (a : Act) (w : World) (L : Array Bool), L = #[true, true, true, true, true, true, false, false, false, false, false, false] → Fr 139 [] [(4, .int .i64 p4), (5, .int .i64 p5), (7, .pointer (some ⟨b1, 0, none⟩)), (8, .pointer (some ⟨b2, 0, none⟩)), (9, .pointer (some ⟨b3, 0, none⟩)), (10, .pointer (some ⟨b4, 0, none⟩)), (13, .pointer (some ⟨b5, 0, none⟩)), (14, .bool false), (42, .bool false), (44, (B1 p0 v1 v2)), (45, (Ct x7 v15 v16)), (46, (B1 p1 v3 v4)), (47, (Ct x8 v17 v18)), (48, (B1 p2 v5 v6)), (49, (Ct x9 v19 v20))] a → Stw ⟨Y, [], w0⟩ [(b5, (CF p6)), (b4, (CD p3 v7)), (b3, (Av p2 v5 v6)), (b2, (Av p1 v3 v4)), (b1, (Av p0 v1 v2))] [row v19 34 Bj x9.un.2.1.un.2.2.2, row v20 37 Bl x9.un.2.2.2.2, row v17 34 Bj x8.un.2.1.un.2.2.2, row v18 37 Bl x8.un.2.2.2.2, row v15 34 Bj x7.un.2.1.un.2.2.2, row v16 37 Bl x7.un.2.2.2.2] w → W HH L a w := by
   intro v15 v16 v17 v18 v19 v20 a w L hL K F
   subst hL
   refine wi _ _ _ _ ?_
   refine C9 Aa ?_ ?_
   ·
    refine AF (cs := (AB)) K F Aa Fx Aa fun b6 a w K F => ?_
    refine AE F (all_cons (fun h => Ae (by kernel_rfl) h) (all_cons (fun h => Ae (by kernel_rfl) h) (all_cons (fun h => Ae (by kernel_rfl) h) Ab))) Ab ?_
    exact wo _ _ _ _ (t5390_ b6 v15 v16 v17 v18 v19 v20 a w _ (by kernel_rfl) (K.ra Aa) F)
   refine C9 Aa ?_ ?_
   ·
    refine AF (cs := (AB)) K F Aa Fx Aa fun b7 a w K F => ?_
    refine AE F (all_cons (fun h => Ae (by kernel_rfl) h) (all_cons (fun h => Ae (by kernel_rfl) h) (all_cons (fun h => Ae (by kernel_rfl) h) Ab))) Ab ?_
    exact wo _ _ _ _ (t5391_ b7 v15 v16 v17 v18 v19 v20 a w _ (by kernel_rfl) (K.ra Aa) F)
   refine C9 Aa ?_ ?_
   ·
    refine AF (cs := (AB)) K F Aa Fx Aa fun b8 a w K F => ?_
    refine AE F (all_cons (fun h => Ae (by kernel_rfl) h) (all_cons (fun h => Ae (by kernel_rfl) h) (all_cons (fun h => Ae (by kernel_rfl) h) Ab))) Ab ?_
    exact wo _ _ _ _ (t5392_ b8 v15 v16 v17 v18 v19 v20 a w _ (by kernel_rfl) (K.ra Aa) F)
   exact trivial
  have t5383_ : ∀ (b6 : Nat) (v15 : Value) (v16 : Value) (v17 : Value) (v18 : Value) (a : Act) (w : World) (L : Array Bool), L = #[true, true, true, true, true, false, true, false, false, false, false, false] → Fr 139 [] [(4, .int .i64 p4), (5, .int .i64 p5), (7, .pointer (some ⟨b1, 0, none⟩)), (8, .pointer (some ⟨b2, 0, none⟩)), (9, .pointer (some ⟨b3, 0, none⟩)), (10, .pointer (some ⟨b4, 0, none⟩)), (13, .pointer (some ⟨b5, 0, none⟩)), (14, .bool false), (15, .pointer (some ⟨b6, 0, none⟩)), (42, .bool false), (44, (B1 p0 v1 v2)), (45, (Ct x7 v15 v16)), (46, (B1 p1 v3 v4)), (47, (Ct x8 v17 v18)), (48, (B1 p2 v5 v6))] a → Stw ⟨Y, [], w0⟩ [(b6, (AB)), (b5, (CF p6)), (b4, (CD p3 v7)), (b3, (Av p2 v5 v6)), (b2, (Av p1 v3 v4)), (b1, (Av p0 v1 v2))] [row v17 34 Bj x8.un.2.1.un.2.2.2, row v18 37 Bl x8.un.2.2.2.2, row v15 34 Bj x7.un.2.1.un.2.2.2, row v16 37 Bl x7.un.2.2.2.2] w → W F0 L a w := by
   intro b6 v15 v16 v17 v18 a w L hL K F
   subst hL
   refine wi _ _ _ _ ?_
   refine C9 Aa ?_ ?_
   ·
    refine A7 (Ml := []) (Zl := []) (β := Value × Value) (rv := fun x => (Ct x9 x.1 x.2)) (MM := fun x => []) (ZZ := fun x => [row x.1 34 Bj x9.un.2.1.un.2.2.2, row x.2 37 Bl x9.un.2.2.2.2]) K F H8 Aa Aa (fun hL => Cj _ w (v5) (v6) (Tr27.of (p2.un.1, Tr24.of (p2.un.2.1.un.1, p2.un.2.1.un.2.1, p2.un.2.1.un.2.2.1, p2.un.2.1.un.2.2.2), p2.un.2.2.1, p2.un.2.2.2.1, p2.un.2.2.2.2)) _ h15 ((Ak Da h5 (Ah h_v5)) w F).nx ((Ak Ej h6 (Ah h_v6)) w F).nx) fun x a w K F => ?_
    obtain ⟨v19, v20⟩ := x
    have F : Stw ⟨Y, [], w0⟩ [(b6, (AB)), (b5, (CF p6)), (b4, (CD p3 v7)), (b3, (Av p2 v5 v6)), (b2, (Av p1 v3 v4)), (b1, (Av p0 v1 v2))] [row v19 34 Bj x9.un.2.1.un.2.2.2, row v20 37 Bl x9.un.2.2.2.2, row v17 34 Bj x8.un.2.1.un.2.2.2, row v18 37 Bl x8.un.2.2.2.2, row v15 34 Bj x7.un.2.1.un.2.2.2, row v16 37 Bl x7.un.2.2.2.2] w := F
    refine AE F (all_cons (fun h => Ae (by kernel_rfl) h) (all_cons (fun h => Ae (by kernel_rfl) h) (all_cons (fun h => Ae (by kernel_rfl) h) Ab))) Ab ?_
    exact wo _ _ _ _ (t5390_ b6 v15 v16 v17 v18 v19 v20 a w _ (by kernel_rfl) (K.ra Aa) F)
   refine C9 Aa ?_ ?_
   ·
    refine AF (cs := (AB)) K F Aa Fx Aa fun b7 a w K F => ?_
    refine AE F (all_cons (fun h => Ae (by kernel_rfl) h) (all_cons (fun h => Ae (by kernel_rfl) h) (all_cons (fun _ => (.tail _ (.tail _ (.tail _ (.tail _ (.head _)))))) Ab))) Ab ?_
    exact wo _ _ _ _ (t5393_ b6 b7 v15 v16 v17 v18 a w _ (by kernel_rfl) (K.ra Aa) F)
   refine C9 Aa ?_ ?_
   ·
    refine AF (cs := (AB)) K F Aa Fx Aa fun b8 a w K F => ?_
    refine AE F (all_cons (fun h => Ae (by kernel_rfl) h) (all_cons (fun h => Ae (by kernel_rfl) h) (all_cons (fun _ => (.tail _ (.tail _ (.tail _ (.tail _ (.head _)))))) Ab))) Ab ?_
    exact wo _ _ _ _ (t5394_ b6 b8 v15 v16 v17 v18 a w _ (by kernel_rfl) (K.ra Aa) F)
   exact trivial
  have t5384_ : ∀ (b7 : Nat) (v15 : Value) (v16 : Value) (v17 : Value) (v18 : Value) (a : Act) (w : World) (L : Array Bool), L = #[true, true, true, true, true, false, false, true, false, false, false, false] → Fr 139 [] [(4, .int .i64 p4), (5, .int .i64 p5), (7, .pointer (some ⟨b1, 0, none⟩)), (8, .pointer (some ⟨b2, 0, none⟩)), (9, .pointer (some ⟨b3, 0, none⟩)), (10, .pointer (some ⟨b4, 0, none⟩)), (13, .pointer (some ⟨b5, 0, none⟩)), (14, .bool false), (16, .pointer (some ⟨b7, 0, none⟩)), (42, .bool false), (44, (B1 p0 v1 v2)), (45, (Ct x7 v15 v16)), (46, (B1 p1 v3 v4)), (47, (Ct x8 v17 v18)), (48, (B1 p2 v5 v6))] a → Stw ⟨Y, [], w0⟩ [(b7, (AB)), (b5, (CF p6)), (b4, (CD p3 v7)), (b3, (Av p2 v5 v6)), (b2, (Av p1 v3 v4)), (b1, (Av p0 v1 v2))] [row v17 34 Bj x8.un.2.1.un.2.2.2, row v18 37 Bl x8.un.2.2.2.2, row v15 34 Bj x7.un.2.1.un.2.2.2, row v16 37 Bl x7.un.2.2.2.2] w → W F3 L a w := by
   intro b7 v15 v16 v17 v18 a w L hL K F
   subst hL
   refine wi _ _ _ _ ?_
   refine C9 Aa ?_ ?_
   ·
    refine A7 (Ml := []) (Zl := []) (β := Value × Value) (rv := fun x => (Ct x9 x.1 x.2)) (MM := fun x => []) (ZZ := fun x => [row x.1 34 Bj x9.un.2.1.un.2.2.2, row x.2 37 Bl x9.un.2.2.2.2]) K F H8 Aa Aa (fun hL => Cj _ w (v5) (v6) (Tr27.of (p2.un.1, Tr24.of (p2.un.2.1.un.1, p2.un.2.1.un.2.1, p2.un.2.1.un.2.2.1, p2.un.2.1.un.2.2.2), p2.un.2.2.1, p2.un.2.2.2.1, p2.un.2.2.2.2)) _ h15 ((Ak Da h5 (Ah h_v5)) w F).nx ((Ak Ej h6 (Ah h_v6)) w F).nx) fun x a w K F => ?_
    obtain ⟨v19, v20⟩ := x
    have F : Stw ⟨Y, [], w0⟩ [(b7, (AB)), (b5, (CF p6)), (b4, (CD p3 v7)), (b3, (Av p2 v5 v6)), (b2, (Av p1 v3 v4)), (b1, (Av p0 v1 v2))] [row v19 34 Bj x9.un.2.1.un.2.2.2, row v20 37 Bl x9.un.2.2.2.2, row v17 34 Bj x8.un.2.1.un.2.2.2, row v18 37 Bl x8.un.2.2.2.2, row v15 34 Bj x7.un.2.1.un.2.2.2, row v16 37 Bl x7.un.2.2.2.2] w := F
    refine AE F (all_cons (fun h => Ae (by kernel_rfl) h) (all_cons (fun h => Ae (by kernel_rfl) h) (all_cons (fun h => Ae (by kernel_rfl) h) Ab))) Ab ?_
    exact wo _ _ _ _ (t5391_ b7 v15 v16 v17 v18 v19 v20 a w _ (by kernel_rfl) (K.ra Aa) F)
   refine C9 Aa ?_ ?_
   ·
    refine AF (cs := (AB)) K F Aa Fx Aa fun b6 a w K F => ?_
    refine AE F (all_cons (fun h => Ae (by kernel_rfl) h) (all_cons (fun h => Ae (by kernel_rfl) h) (all_cons (fun _ => (.tail _ (.tail _ (.tail _ (.tail _ (.head _)))))) Ab))) Ab ?_
    have F := F.frontM (i := 1) Aa Aa
    exact wo _ _ _ _ (t5393_ b6 b7 v15 v16 v17 v18 a w _ (by kernel_rfl) (K.ra Aa) F)
   refine C9 Aa ?_ ?_
   ·
    refine AF (cs := (AB)) K F Aa Fx Aa fun b8 a w K F => ?_
    refine AE F (all_cons (fun h => Ae (by kernel_rfl) h) (all_cons (fun h => Ae (by kernel_rfl) h) (all_cons (fun _ => (.tail _ (.tail _ (.tail _ (.tail _ (.head _)))))) Ab))) Ab ?_
    exact wo _ _ _ _ (t5395_ b7 b8 v15 v16 v17 v18 a w _ (by kernel_rfl) (K.ra Aa) F)
   exact trivial
  have t5385_ : ∀ (b8 : Nat) (v15 : Value) (v16 : Value) (v17 : Value) (v18 : Value) (a : Act) (w : World) (L : Array Bool), L = #[true, true, true, true, true, false, false, false, true, false, false, false] → Fr 139 [] [(4, .int .i64 p4), (5, .int .i64 p5), (7, .pointer (some ⟨b1, 0, none⟩)), (8, .pointer (some ⟨b2, 0, none⟩)), (9, .pointer (some ⟨b3, 0, none⟩)), (10, .pointer (some ⟨b4, 0, none⟩)), (13, .pointer (some ⟨b5, 0, none⟩)), (14, .bool false), (17, .pointer (some ⟨b8, 0, none⟩)), (42, .bool false), (44, (B1 p0 v1 v2)), (45, (Ct x7 v15 v16)), (46, (B1 p1 v3 v4)), (47, (Ct x8 v17 v18)), (48, (B1 p2 v5 v6))] a → Stw ⟨Y, [], w0⟩ [(b8, (AB)), (b5, (CF p6)), (b4, (CD p3 v7)), (b3, (Av p2 v5 v6)), (b2, (Av p1 v3 v4)), (b1, (Av p0 v1 v2))] [row v17 34 Bj x8.un.2.1.un.2.2.2, row v18 37 Bl x8.un.2.2.2.2, row v15 34 Bj x7.un.2.1.un.2.2.2, row v16 37 Bl x7.un.2.2.2.2] w → W F5 L a w := by
   intro b8 v15 v16 v17 v18 a w L hL K F
   subst hL
   refine wi _ _ _ _ ?_
   refine C9 Aa ?_ ?_
   ·
    refine A7 (Ml := []) (Zl := []) (β := Value × Value) (rv := fun x => (Ct x9 x.1 x.2)) (MM := fun x => []) (ZZ := fun x => [row x.1 34 Bj x9.un.2.1.un.2.2.2, row x.2 37 Bl x9.un.2.2.2.2]) K F H8 Aa Aa (fun hL => Cj _ w (v5) (v6) (Tr27.of (p2.un.1, Tr24.of (p2.un.2.1.un.1, p2.un.2.1.un.2.1, p2.un.2.1.un.2.2.1, p2.un.2.1.un.2.2.2), p2.un.2.2.1, p2.un.2.2.2.1, p2.un.2.2.2.2)) _ h15 ((Ak Da h5 (Ah h_v5)) w F).nx ((Ak Ej h6 (Ah h_v6)) w F).nx) fun x a w K F => ?_
    obtain ⟨v19, v20⟩ := x
    have F : Stw ⟨Y, [], w0⟩ [(b8, (AB)), (b5, (CF p6)), (b4, (CD p3 v7)), (b3, (Av p2 v5 v6)), (b2, (Av p1 v3 v4)), (b1, (Av p0 v1 v2))] [row v19 34 Bj x9.un.2.1.un.2.2.2, row v20 37 Bl x9.un.2.2.2.2, row v17 34 Bj x8.un.2.1.un.2.2.2, row v18 37 Bl x8.un.2.2.2.2, row v15 34 Bj x7.un.2.1.un.2.2.2, row v16 37 Bl x7.un.2.2.2.2] w := F
    refine AE F (all_cons (fun h => Ae (by kernel_rfl) h) (all_cons (fun h => Ae (by kernel_rfl) h) (all_cons (fun h => Ae (by kernel_rfl) h) Ab))) Ab ?_
    exact wo _ _ _ _ (t5392_ b8 v15 v16 v17 v18 v19 v20 a w _ (by kernel_rfl) (K.ra Aa) F)
   refine C9 Aa ?_ ?_
   ·
    refine AF (cs := (AB)) K F Aa Fx Aa fun b6 a w K F => ?_
    refine AE F (all_cons (fun h => Ae (by kernel_rfl) h) (all_cons (fun h => Ae (by kernel_rfl) h) (all_cons (fun _ => (.tail _ (.tail _ (.tail _ (.tail _ (.head _)))))) Ab))) Ab ?_
    have F := F.frontM (i := 1) Aa Aa
    exact wo _ _ _ _ (t5394_ b6 b8 v15 v16 v17 v18 a w _ (by kernel_rfl) (K.ra Aa) F)
   refine C9 Aa ?_ ?_
   ·
    refine AF (cs := (AB)) K F Aa Fx Aa fun b7 a w K F => ?_
    refine AE F (all_cons (fun h => Ae (by kernel_rfl) h) (all_cons (fun h => Ae (by kernel_rfl) h) (all_cons (fun _ => (.tail _ (.tail _ (.tail _ (.tail _ (.head _)))))) Ab))) Ab ?_
    have F := F.frontM (i := 1) Aa Aa
    exact wo _ _ _ _ (t5395_ b7 b8 v15 v16 v17 v18 a w _ (by kernel_rfl) (K.ra Aa) F)
   exact trivial
  have t5386_ : ∀ (b6 : Nat) (b7 : Nat) (v15 : Value) (v16 : Value) (a : Act) (w : World) (L : Array Bool), L = #[true, true, true, false, true, false, true, true, false, false, false, false] → Fr 139 [] [(4, .int .i64 p4), (5, .int .i64 p5), (7, .pointer (some ⟨b1, 0, none⟩)), (8, .pointer (some ⟨b2, 0, none⟩)), (9, .pointer (some ⟨b3, 0, none⟩)), (10, .pointer (some ⟨b4, 0, none⟩)), (13, .pointer (some ⟨b5, 0, none⟩)), (14, .bool false), (15, .pointer (some ⟨b6, 0, none⟩)), (16, .pointer (some ⟨b7, 0, none⟩)), (42, .bool false), (44, (B1 p0 v1 v2)), (45, (Ct x7 v15 v16)), (46, (B1 p1 v3 v4)), (48, (B1 p2 v5 v6))] a → Stw ⟨Y, [], w0⟩ [(b7, (AB)), (b6, (AB)), (b5, (CF p6)), (b4, (CD p3 v7)), (b3, (Av p2 v5 v6)), (b2, (Av p1 v3 v4)), (b1, (Av p0 v1 v2))] [row v15 34 Bj x7.un.2.1.un.2.2.2, row v16 37 Bl x7.un.2.2.2.2] w → W EG L a w := by
   intro b6 b7 v15 v16 a w L hL K F
   subst hL
   refine wi _ _ _ _ ?_
   refine C9 Aa ?_ ?_
   ·
    refine A7 (Ml := []) (Zl := []) (β := Value × Value) (rv := fun x => (Ct x8 x.1 x.2)) (MM := fun x => []) (ZZ := fun x => [row x.1 34 Bj x8.un.2.1.un.2.2.2, row x.2 37 Bl x8.un.2.2.2.2]) K F H8 Aa Aa (fun hL => Cj _ w (v3) (v4) (Tr27.of (p1.un.1, Tr24.of (p1.un.2.1.un.1, p1.un.2.1.un.2.1, p1.un.2.1.un.2.2.1, p1.un.2.1.un.2.2.2), p1.un.2.2.1, p1.un.2.2.2.1, p1.un.2.2.2.2)) _ h14 ((Ak Da h3 (Ah h_v3)) w F).nx ((Ak Ej h4 (Ah h_v4)) w F).nx) fun x a w K F => ?_
    obtain ⟨v17, v18⟩ := x
    have F : Stw ⟨Y, [], w0⟩ [(b7, (AB)), (b6, (AB)), (b5, (CF p6)), (b4, (CD p3 v7)), (b3, (Av p2 v5 v6)), (b2, (Av p1 v3 v4)), (b1, (Av p0 v1 v2))] [row v17 34 Bj x8.un.2.1.un.2.2.2, row v18 37 Bl x8.un.2.2.2.2, row v15 34 Bj x7.un.2.1.un.2.2.2, row v16 37 Bl x7.un.2.2.2.2] w := F
    refine AE F (all_cons (fun h => Ae (by kernel_rfl) h) (all_cons (fun h => Ae (by kernel_rfl) h) (all_cons (fun _ => (.tail _ (.tail _ (.tail _ (.tail _ (.head _)))))) Ab))) Ab ?_
    exact wo _ _ _ _ (t5393_ b6 b7 v15 v16 v17 v18 a w _ (by kernel_rfl) (K.ra Aa) F)
   refine C9 Aa ?_ ?_
   ·
    refine AF (cs := (AB)) K F Aa Fx Aa fun b8 a w K F => ?_
    refine AE F (all_cons (fun h => Ae (by kernel_rfl) h) (all_cons (fun _ => (.tail _ (.tail _ (.tail _ (.tail _ (.tail _ (.tail _ (.head _)))))))) (all_cons (fun _ => (.tail _ (.tail _ (.tail _ (.tail _ (.tail _ (.head _))))))) Ab))) Ab ?_
    exact wo _ _ _ _ (t5396_ b6 b7 b8 v15 v16 a w _ (by kernel_rfl) (K.ra Aa) F)
   exact trivial
  have t5387_ : ∀ (b6 : Nat) (b8 : Nat) (v15 : Value) (v16 : Value) (a : Act) (w : World) (L : Array Bool), L = #[true, true, true, false, true, false, true, false, true, false, false, false] → Fr 139 [] [(4, .int .i64 p4), (5, .int .i64 p5), (7, .pointer (some ⟨b1, 0, none⟩)), (8, .pointer (some ⟨b2, 0, none⟩)), (9, .pointer (some ⟨b3, 0, none⟩)), (10, .pointer (some ⟨b4, 0, none⟩)), (13, .pointer (some ⟨b5, 0, none⟩)), (14, .bool false), (15, .pointer (some ⟨b6, 0, none⟩)), (17, .pointer (some ⟨b8, 0, none⟩)), (42, .bool false), (44, (B1 p0 v1 v2)), (45, (Ct x7 v15 v16)), (46, (B1 p1 v3 v4)), (48, (B1 p2 v5 v6))] a → Stw ⟨Y, [], w0⟩ [(b8, (AB)), (b6, (AB)), (b5, (CF p6)), (b4, (CD p3 v7)), (b3, (Av p2 v5 v6)), (b2, (Av p1 v3 v4)), (b1, (Av p0 v1 v2))] [row v15 34 Bj x7.un.2.1.un.2.2.2, row v16 37 Bl x7.un.2.2.2.2] w → W Ez L a w := by
   intro b6 b8 v15 v16 a w L hL K F
   subst hL
   refine wi _ _ _ _ ?_
   refine C9 Aa ?_ ?_
   ·
    refine A7 (Ml := []) (Zl := []) (β := Value × Value) (rv := fun x => (Ct x8 x.1 x.2)) (MM := fun x => []) (ZZ := fun x => [row x.1 34 Bj x8.un.2.1.un.2.2.2, row x.2 37 Bl x8.un.2.2.2.2]) K F H8 Aa Aa (fun hL => Cj _ w (v3) (v4) (Tr27.of (p1.un.1, Tr24.of (p1.un.2.1.un.1, p1.un.2.1.un.2.1, p1.un.2.1.un.2.2.1, p1.un.2.1.un.2.2.2), p1.un.2.2.1, p1.un.2.2.2.1, p1.un.2.2.2.2)) _ h14 ((Ak Da h3 (Ah h_v3)) w F).nx ((Ak Ej h4 (Ah h_v4)) w F).nx) fun x a w K F => ?_
    obtain ⟨v17, v18⟩ := x
    have F : Stw ⟨Y, [], w0⟩ [(b8, (AB)), (b6, (AB)), (b5, (CF p6)), (b4, (CD p3 v7)), (b3, (Av p2 v5 v6)), (b2, (Av p1 v3 v4)), (b1, (Av p0 v1 v2))] [row v17 34 Bj x8.un.2.1.un.2.2.2, row v18 37 Bl x8.un.2.2.2.2, row v15 34 Bj x7.un.2.1.un.2.2.2, row v16 37 Bl x7.un.2.2.2.2] w := F
    refine AE F (all_cons (fun h => Ae (by kernel_rfl) h) (all_cons (fun h => Ae (by kernel_rfl) h) (all_cons (fun _ => (.tail _ (.tail _ (.tail _ (.tail _ (.head _)))))) Ab))) Ab ?_
    exact wo _ _ _ _ (t5394_ b6 b8 v15 v16 v17 v18 a w _ (by kernel_rfl) (K.ra Aa) F)
   refine C9 Aa ?_ ?_
   ·
    refine AF (cs := (AB)) K F Aa Fx Aa fun b7 a w K F => ?_
    refine AE F (all_cons (fun h => Ae (by kernel_rfl) h) (all_cons (fun _ => (.tail _ (.tail _ (.tail _ (.tail _ (.tail _ (.tail _ (.head _)))))))) (all_cons (fun _ => (.tail _ (.tail _ (.tail _ (.tail _ (.tail _ (.head _))))))) Ab))) Ab ?_
    have F := F.frontM (i := 1) Aa Aa
    exact wo _ _ _ _ (t5396_ b6 b7 b8 v15 v16 a w _ (by kernel_rfl) (K.ra Aa) F)
   exact trivial
  have t5388_ : ∀ (b7 : Nat) (b8 : Nat) (v15 : Value) (v16 : Value) (a : Act) (w : World) (L : Array Bool), L = #[true, true, true, false, true, false, false, true, true, false, false, false] → Fr 139 [] [(4, .int .i64 p4), (5, .int .i64 p5), (7, .pointer (some ⟨b1, 0, none⟩)), (8, .pointer (some ⟨b2, 0, none⟩)), (9, .pointer (some ⟨b3, 0, none⟩)), (10, .pointer (some ⟨b4, 0, none⟩)), (13, .pointer (some ⟨b5, 0, none⟩)), (14, .bool false), (16, .pointer (some ⟨b7, 0, none⟩)), (17, .pointer (some ⟨b8, 0, none⟩)), (42, .bool false), (44, (B1 p0 v1 v2)), (45, (Ct x7 v15 v16)), (46, (B1 p1 v3 v4)), (48, (B1 p2 v5 v6))] a → Stw ⟨Y, [], w0⟩ [(b8, (AB)), (b7, (AB)), (b5, (CF p6)), (b4, (CD p3 v7)), (b3, (Av p2 v5 v6)), (b2, (Av p1 v3 v4)), (b1, (Av p0 v1 v2))] [row v15 34 Bj x7.un.2.1.un.2.2.2, row v16 37 Bl x7.un.2.2.2.2] w → W EH L a w := by
   intro b7 b8 v15 v16 a w L hL K F
   subst hL
   refine wi _ _ _ _ ?_
   refine C9 Aa ?_ ?_
   ·
    refine A7 (Ml := []) (Zl := []) (β := Value × Value) (rv := fun x => (Ct x8 x.1 x.2)) (MM := fun x => []) (ZZ := fun x => [row x.1 34 Bj x8.un.2.1.un.2.2.2, row x.2 37 Bl x8.un.2.2.2.2]) K F H8 Aa Aa (fun hL => Cj _ w (v3) (v4) (Tr27.of (p1.un.1, Tr24.of (p1.un.2.1.un.1, p1.un.2.1.un.2.1, p1.un.2.1.un.2.2.1, p1.un.2.1.un.2.2.2), p1.un.2.2.1, p1.un.2.2.2.1, p1.un.2.2.2.2)) _ h14 ((Ak Da h3 (Ah h_v3)) w F).nx ((Ak Ej h4 (Ah h_v4)) w F).nx) fun x a w K F => ?_
    obtain ⟨v17, v18⟩ := x
    have F : Stw ⟨Y, [], w0⟩ [(b8, (AB)), (b7, (AB)), (b5, (CF p6)), (b4, (CD p3 v7)), (b3, (Av p2 v5 v6)), (b2, (Av p1 v3 v4)), (b1, (Av p0 v1 v2))] [row v17 34 Bj x8.un.2.1.un.2.2.2, row v18 37 Bl x8.un.2.2.2.2, row v15 34 Bj x7.un.2.1.un.2.2.2, row v16 37 Bl x7.un.2.2.2.2] w := F
    refine AE F (all_cons (fun h => Ae (by kernel_rfl) h) (all_cons (fun h => Ae (by kernel_rfl) h) (all_cons (fun _ => (.tail _ (.tail _ (.tail _ (.tail _ (.head _)))))) Ab))) Ab ?_
    exact wo _ _ _ _ (t5395_ b7 b8 v15 v16 v17 v18 a w _ (by kernel_rfl) (K.ra Aa) F)
   refine C9 Aa ?_ ?_
   ·
    refine AF (cs := (AB)) K F Aa Fx Aa fun b6 a w K F => ?_
    refine AE F (all_cons (fun h => Ae (by kernel_rfl) h) (all_cons (fun _ => (.tail _ (.tail _ (.tail _ (.tail _ (.tail _ (.tail _ (.head _)))))))) (all_cons (fun _ => (.tail _ (.tail _ (.tail _ (.tail _ (.tail _ (.head _))))))) Ab))) Ab ?_
    have F := F.frontM (i := 2) Aa Aa
    have F := F.frontM (i := 2) Aa Aa
    exact wo _ _ _ _ (t5396_ b6 b7 b8 v15 v16 a w _ (by kernel_rfl) (K.ra Aa) F)
   exact trivial
  have t5389_ : ∀ (b6 : Nat) (b7 : Nat) (b8 : Nat) (a : Act) (w : World) (L : Array Bool), L = #[true, false, true, false, true, false, true, true, true, false, false, false] → Fr 139 [] [(4, .int .i64 p4), (5, .int .i64 p5), (7, .pointer (some ⟨b1, 0, none⟩)), (8, .pointer (some ⟨b2, 0, none⟩)), (9, .pointer (some ⟨b3, 0, none⟩)), (10, .pointer (some ⟨b4, 0, none⟩)), (13, .pointer (some ⟨b5, 0, none⟩)), (14, .bool false), (15, .pointer (some ⟨b6, 0, none⟩)), (16, .pointer (some ⟨b7, 0, none⟩)), (17, .pointer (some ⟨b8, 0, none⟩)), (42, .bool false), (44, (B1 p0 v1 v2)), (46, (B1 p1 v3 v4)), (48, (B1 p2 v5 v6))] a → Stw ⟨Y, [], w0⟩ [(b8, (AB)), (b7, (AB)), (b6, (AB)), (b5, (CF p6)), (b4, (CD p3 v7)), (b3, (Av p2 v5 v6)), (b2, (Av p1 v3 v4)), (b1, (Av p0 v1 v2))] [] w → W EI L a w := by
   intro b6 b7 b8 a w L hL K F
   subst hL
   refine wi _ _ _ _ ?_
   refine Gw Aa ?_
   refine A7 (Ml := []) (Zl := []) (β := Value × Value) (rv := fun x => (Ct x7 x.1 x.2)) (MM := fun x => []) (ZZ := fun x => [row x.1 34 Bj x7.un.2.1.un.2.2.2, row x.2 37 Bl x7.un.2.2.2.2]) K F H8 Aa Aa (fun hL => Cj _ w (v1) (v2) (Tr27.of (p0.un.1, Tr24.of (p0.un.2.1.un.1, p0.un.2.1.un.2.1, p0.un.2.1.un.2.2.1, p0.un.2.1.un.2.2.2), p0.un.2.2.1, p0.un.2.2.2.1, p0.un.2.2.2.2)) _ h13 ((Ak Da h1 (Ah h_v1)) w F).nx ((Ak Ej h2 (Ah h_v2)) w F).nx) fun x a w K F => ?_
   obtain ⟨v15, v16⟩ := x
   have F : Stw ⟨Y, [], w0⟩ [(b8, (AB)), (b7, (AB)), (b6, (AB)), (b5, (CF p6)), (b4, (CD p3 v7)), (b3, (Av p2 v5 v6)), (b2, (Av p1 v3 v4)), (b1, (Av p0 v1 v2))] [row v15 34 Bj x7.un.2.1.un.2.2.2, row v16 37 Bl x7.un.2.2.2.2] w := F
   refine AE F (all_cons (fun h => Ae (by kernel_rfl) h) (all_cons (fun _ => (.tail _ (.tail _ (.tail _ (.tail _ (.tail _ (.tail _ (.head _)))))))) (all_cons (fun _ => (.tail _ (.tail _ (.tail _ (.tail _ (.tail _ (.head _))))))) Ab))) Ab ?_
   exact wo _ _ _ _ (t5396_ b6 b7 b8 v15 v16 a w _ (by kernel_rfl) (K.ra Aa) F)
  have t5375_ : ∀ (v15 : Value) (v16 : Value) (v17 : Value) (v18 : Value) (a : Act) (w : World) (L : Array Bool), L = #[true, true, true, true, true, false, false, false, false, false, false, false] → Fr 139 [] [(4, .int .i64 p4), (5, .int .i64 p5), (7, .pointer (some ⟨b1, 0, none⟩)), (8, .pointer (some ⟨b2, 0, none⟩)), (9, .pointer (some ⟨b3, 0, none⟩)), (10, .pointer (some ⟨b4, 0, none⟩)), (13, .pointer (some ⟨b5, 0, none⟩)), (14, .bool false), (42, .bool false), (44, (B1 p0 v1 v2)), (45, (Ct x7 v15 v16)), (46, (B1 p1 v3 v4)), (47, (Ct x8 v17 v18)), (48, (B1 p2 v5 v6))] a → Stw ⟨Y, [], w0⟩ [(b5, (CF p6)), (b4, (CD p3 v7)), (b3, (Av p2 v5 v6)), (b2, (Av p1 v3 v4)), (b1, (Av p0 v1 v2))] [row v17 34 Bj x8.un.2.1.un.2.2.2, row v18 37 Bl x8.un.2.2.2.2, row v15 34 Bj x7.un.2.1.un.2.2.2, row v16 37 Bl x7.un.2.2.2.2] w → W HD L a w := by
   intro v15 v16 v17 v18 a w L hL K F
   subst hL
   refine wi _ _ _ _ ?_
   refine C9 Aa ?_ ?_
   ·
    refine A7 (Ml := []) (Zl := []) (β := Value × Value) (rv := fun x => (Ct x9 x.1 x.2)) (MM := fun x => []) (ZZ := fun x => [row x.1 34 Bj x9.un.2.1.un.2.2.2, row x.2 37 Bl x9.un.2.2.2.2]) K F H8 Aa Aa (fun hL => Cj _ w (v5) (v6) (Tr27.of (p2.un.1, Tr24.of (p2.un.2.1.un.1, p2.un.2.1.un.2.1, p2.un.2.1.un.2.2.1, p2.un.2.1.un.2.2.2), p2.un.2.2.1, p2.un.2.2.2.1, p2.un.2.2.2.2)) _ h15 ((Ak Da h5 (Ah h_v5)) w F).nx ((Ak Ej h6 (Ah h_v6)) w F).nx) fun x a w K F => ?_
    obtain ⟨v19, v20⟩ := x
    have F : Stw ⟨Y, [], w0⟩ [(b5, (CF p6)), (b4, (CD p3 v7)), (b3, (Av p2 v5 v6)), (b2, (Av p1 v3 v4)), (b1, (Av p0 v1 v2))] [row v19 34 Bj x9.un.2.1.un.2.2.2, row v20 37 Bl x9.un.2.2.2.2, row v17 34 Bj x8.un.2.1.un.2.2.2, row v18 37 Bl x8.un.2.2.2.2, row v15 34 Bj x7.un.2.1.un.2.2.2, row v16 37 Bl x7.un.2.2.2.2] w := F
    refine AE F (all_cons (fun h => Ae (by kernel_rfl) h) (all_cons (fun h => Ae (by kernel_rfl) h) (all_cons (fun h => Ae (by kernel_rfl) h) Ab))) Ab ?_
    exact wo _ _ _ _ (t5382_ v15 v16 v17 v18 v19 v20 a w _ (by kernel_rfl) (K.ra Aa) F)
   refine C9 Aa ?_ ?_
   ·
    refine AF (cs := (AB)) K F Aa Fx Aa fun b6 a w K F => ?_
    refine AE F (all_cons (fun h => Ae (by kernel_rfl) h) (all_cons (fun h => Ae (by kernel_rfl) h) (all_cons (fun _ => (.tail _ (.tail _ (.tail _ (.head _))))) Ab))) Ab ?_
    exact wo _ _ _ _ (t5383_ b6 v15 v16 v17 v18 a w _ (by kernel_rfl) (K.ra Aa) F)
   refine C9 Aa ?_ ?_
   ·
    refine AF (cs := (AB)) K F Aa Fx Aa fun b7 a w K F => ?_
    refine AE F (all_cons (fun h => Ae (by kernel_rfl) h) (all_cons (fun h => Ae (by kernel_rfl) h) (all_cons (fun _ => (.tail _ (.tail _ (.tail _ (.head _))))) Ab))) Ab ?_
    exact wo _ _ _ _ (t5384_ b7 v15 v16 v17 v18 a w _ (by kernel_rfl) (K.ra Aa) F)
   refine C9 Aa ?_ ?_
   ·
    refine AF (cs := (AB)) K F Aa Fx Aa fun b8 a w K F => ?_
    refine AE F (all_cons (fun h => Ae (by kernel_rfl) h) (all_cons (fun h => Ae (by kernel_rfl) h) (all_cons (fun _ => (.tail _ (.tail _ (.tail _ (.head _))))) Ab))) Ab ?_
    exact wo _ _ _ _ (t5385_ b8 v15 v16 v17 v18 a w _ (by kernel_rfl) (K.ra Aa) F)
   exact trivial
  have t5376_ : ∀ (b6 : Nat) (v15 : Value) (v16 : Value) (a : Act) (w : World) (L : Array Bool), L = #[true, true, true, false, true, false, true, false, false, false, false, false] → Fr 139 [] [(4, .int .i64 p4), (5, .int .i64 p5), (7, .pointer (some ⟨b1, 0, none⟩)), (8, .pointer (some ⟨b2, 0, none⟩)), (9, .pointer (some ⟨b3, 0, none⟩)), (10, .pointer (some ⟨b4, 0, none⟩)), (13, .pointer (some ⟨b5, 0, none⟩)), (14, .bool false), (15, .pointer (some ⟨b6, 0, none⟩)), (42, .bool false), (44, (B1 p0 v1 v2)), (45, (Ct x7 v15 v16)), (46, (B1 p1 v3 v4)), (48, (B1 p2 v5 v6))] a → Stw ⟨Y, [], w0⟩ [(b6, (AB)), (b5, (CF p6)), (b4, (CD p3 v7)), (b3, (Av p2 v5 v6)), (b2, (Av p1 v3 v4)), (b1, (Av p0 v1 v2))] [row v15 34 Bj x7.un.2.1.un.2.2.2, row v16 37 Bl x7.un.2.2.2.2] w → W Ge L a w := by
   intro b6 v15 v16 a w L hL K F
   subst hL
   refine wi _ _ _ _ ?_
   refine C9 Aa ?_ ?_
   ·
    refine A7 (Ml := []) (Zl := []) (β := Value × Value) (rv := fun x => (Ct x8 x.1 x.2)) (MM := fun x => []) (ZZ := fun x => [row x.1 34 Bj x8.un.2.1.un.2.2.2, row x.2 37 Bl x8.un.2.2.2.2]) K F H8 Aa Aa (fun hL => Cj _ w (v3) (v4) (Tr27.of (p1.un.1, Tr24.of (p1.un.2.1.un.1, p1.un.2.1.un.2.1, p1.un.2.1.un.2.2.1, p1.un.2.1.un.2.2.2), p1.un.2.2.1, p1.un.2.2.2.1, p1.un.2.2.2.2)) _ h14 ((Ak Da h3 (Ah h_v3)) w F).nx ((Ak Ej h4 (Ah h_v4)) w F).nx) fun x a w K F => ?_
    obtain ⟨v17, v18⟩ := x
    have F : Stw ⟨Y, [], w0⟩ [(b6, (AB)), (b5, (CF p6)), (b4, (CD p3 v7)), (b3, (Av p2 v5 v6)), (b2, (Av p1 v3 v4)), (b1, (Av p0 v1 v2))] [row v17 34 Bj x8.un.2.1.un.2.2.2, row v18 37 Bl x8.un.2.2.2.2, row v15 34 Bj x7.un.2.1.un.2.2.2, row v16 37 Bl x7.un.2.2.2.2] w := F
    refine AE F (all_cons (fun h => Ae (by kernel_rfl) h) (all_cons (fun h => Ae (by kernel_rfl) h) (all_cons (fun _ => (.tail _ (.tail _ (.tail _ (.head _))))) Ab))) Ab ?_
    exact wo _ _ _ _ (t5383_ b6 v15 v16 v17 v18 a w _ (by kernel_rfl) (K.ra Aa) F)
   refine C9 Aa ?_ ?_
   ·
    refine AF (cs := (AB)) K F Aa Fx Aa fun b7 a w K F => ?_
    refine AE F (all_cons (fun h => Ae (by kernel_rfl) h) (all_cons (fun _ => (.tail _ (.tail _ (.tail _ (.tail _ (.tail _ (.head _))))))) (all_cons (fun _ => (.tail _ (.tail _ (.tail _ (.tail _ (.head _)))))) Ab))) Ab ?_
    exact wo _ _ _ _ (t5386_ b6 b7 v15 v16 a w _ (by kernel_rfl) (K.ra Aa) F)
   refine C9 Aa ?_ ?_
   ·
    refine AF (cs := (AB)) K F Aa Fx Aa fun b8 a w K F => ?_
    refine AE F (all_cons (fun h => Ae (by kernel_rfl) h) (all_cons (fun _ => (.tail _ (.tail _ (.tail _ (.tail _ (.tail _ (.head _))))))) (all_cons (fun _ => (.tail _ (.tail _ (.tail _ (.tail _ (.head _)))))) Ab))) Ab ?_
    exact wo _ _ _ _ (t5387_ b6 b8 v15 v16 a w _ (by kernel_rfl) (K.ra Aa) F)
   exact trivial
  have t5377_ : ∀ (b7 : Nat) (v15 : Value) (v16 : Value) (a : Act) (w : World) (L : Array Bool), L = #[true, true, true, false, true, false, false, true, false, false, false, false] → Fr 139 [] [(4, .int .i64 p4), (5, .int .i64 p5), (7, .pointer (some ⟨b1, 0, none⟩)), (8, .pointer (some ⟨b2, 0, none⟩)), (9, .pointer (some ⟨b3, 0, none⟩)), (10, .pointer (some ⟨b4, 0, none⟩)), (13, .pointer (some ⟨b5, 0, none⟩)), (14, .bool false), (16, .pointer (some ⟨b7, 0, none⟩)), (42, .bool false), (44, (B1 p0 v1 v2)), (45, (Ct x7 v15 v16)), (46, (B1 p1 v3 v4)), (48, (B1 p2 v5 v6))] a → Stw ⟨Y, [], w0⟩ [(b7, (AB)), (b5, (CF p6)), (b4, (CD p3 v7)), (b3, (Av p2 v5 v6)), (b2, (Av p1 v3 v4)), (b1, (Av p0 v1 v2))] [row v15 34 Bj x7.un.2.1.un.2.2.2, row v16 37 Bl x7.un.2.2.2.2] w → W Gd L a w := by
   intro b7 v15 v16 a w L hL K F
   subst hL
   refine wi _ _ _ _ ?_
   refine C9 Aa ?_ ?_
   ·
    refine A7 (Ml := []) (Zl := []) (β := Value × Value) (rv := fun x => (Ct x8 x.1 x.2)) (MM := fun x => []) (ZZ := fun x => [row x.1 34 Bj x8.un.2.1.un.2.2.2, row x.2 37 Bl x8.un.2.2.2.2]) K F H8 Aa Aa (fun hL => Cj _ w (v3) (v4) (Tr27.of (p1.un.1, Tr24.of (p1.un.2.1.un.1, p1.un.2.1.un.2.1, p1.un.2.1.un.2.2.1, p1.un.2.1.un.2.2.2), p1.un.2.2.1, p1.un.2.2.2.1, p1.un.2.2.2.2)) _ h14 ((Ak Da h3 (Ah h_v3)) w F).nx ((Ak Ej h4 (Ah h_v4)) w F).nx) fun x a w K F => ?_
    obtain ⟨v17, v18⟩ := x
    have F : Stw ⟨Y, [], w0⟩ [(b7, (AB)), (b5, (CF p6)), (b4, (CD p3 v7)), (b3, (Av p2 v5 v6)), (b2, (Av p1 v3 v4)), (b1, (Av p0 v1 v2))] [row v17 34 Bj x8.un.2.1.un.2.2.2, row v18 37 Bl x8.un.2.2.2.2, row v15 34 Bj x7.un.2.1.un.2.2.2, row v16 37 Bl x7.un.2.2.2.2] w := F
    refine AE F (all_cons (fun h => Ae (by kernel_rfl) h) (all_cons (fun h => Ae (by kernel_rfl) h) (all_cons (fun _ => (.tail _ (.tail _ (.tail _ (.head _))))) Ab))) Ab ?_
    exact wo _ _ _ _ (t5384_ b7 v15 v16 v17 v18 a w _ (by kernel_rfl) (K.ra Aa) F)
   refine C9 Aa ?_ ?_
   ·
    refine AF (cs := (AB)) K F Aa Fx Aa fun b6 a w K F => ?_
    refine AE F (all_cons (fun h => Ae (by kernel_rfl) h) (all_cons (fun _ => (.tail _ (.tail _ (.tail _ (.tail _ (.tail _ (.head _))))))) (all_cons (fun _ => (.tail _ (.tail _ (.tail _ (.tail _ (.head _)))))) Ab))) Ab ?_
    have F := F.frontM (i := 1) Aa Aa
    exact wo _ _ _ _ (t5386_ b6 b7 v15 v16 a w _ (by kernel_rfl) (K.ra Aa) F)
   refine C9 Aa ?_ ?_
   ·
    refine AF (cs := (AB)) K F Aa Fx Aa fun b8 a w K F => ?_
    refine AE F (all_cons (fun h => Ae (by kernel_rfl) h) (all_cons (fun _ => (.tail _ (.tail _ (.tail _ (.tail _ (.tail _ (.head _))))))) (all_cons (fun _ => (.tail _ (.tail _ (.tail _ (.tail _ (.head _)))))) Ab))) Ab ?_
    exact wo _ _ _ _ (t5388_ b7 b8 v15 v16 a w _ (by kernel_rfl) (K.ra Aa) F)
   exact trivial
  have t5378_ : ∀ (b8 : Nat) (v15 : Value) (v16 : Value) (a : Act) (w : World) (L : Array Bool), L = #[true, true, true, false, true, false, false, false, true, false, false, false] → Fr 139 [] [(4, .int .i64 p4), (5, .int .i64 p5), (7, .pointer (some ⟨b1, 0, none⟩)), (8, .pointer (some ⟨b2, 0, none⟩)), (9, .pointer (some ⟨b3, 0, none⟩)), (10, .pointer (some ⟨b4, 0, none⟩)), (13, .pointer (some ⟨b5, 0, none⟩)), (14, .bool false), (17, .pointer (some ⟨b8, 0, none⟩)), (42, .bool false), (44, (B1 p0 v1 v2)), (45, (Ct x7 v15 v16)), (46, (B1 p1 v3 v4)), (48, (B1 p2 v5 v6))] a → Stw ⟨Y, [], w0⟩ [(b8, (AB)), (b5, (CF p6)), (b4, (CD p3 v7)), (b3, (Av p2 v5 v6)), (b2, (Av p1 v3 v4)), (b1, (Av p0 v1 v2))] [row v15 34 Bj x7.un.2.1.un.2.2.2, row v16 37 Bl x7.un.2.2.2.2] w → W F6 L a w := by
   intro b8 v15 v16 a w L hL K F
   subst hL
   refine wi _ _ _ _ ?_
   refine C9 Aa ?_ ?_
   ·
    refine A7 (Ml := []) (Zl := []) (β := Value × Value) (rv := fun x => (Ct x8 x.1 x.2)) (MM := fun x => []) (ZZ := fun x => [row x.1 34 Bj x8.un.2.1.un.2.2.2, row x.2 37 Bl x8.un.2.2.2.2]) K F H8 Aa Aa (fun hL => Cj _ w (v3) (v4) (Tr27.of (p1.un.1, Tr24.of (p1.un.2.1.un.1, p1.un.2.1.un.2.1, p1.un.2.1.un.2.2.1, p1.un.2.1.un.2.2.2), p1.un.2.2.1, p1.un.2.2.2.1, p1.un.2.2.2.2)) _ h14 ((Ak Da h3 (Ah h_v3)) w F).nx ((Ak Ej h4 (Ah h_v4)) w F).nx) fun x a w K F => ?_
    obtain ⟨v17, v18⟩ := x
    have F : Stw ⟨Y, [], w0⟩ [(b8, (AB)), (b5, (CF p6)), (b4, (CD p3 v7)), (b3, (Av p2 v5 v6)), (b2, (Av p1 v3 v4)), (b1, (Av p0 v1 v2))] [row v17 34 Bj x8.un.2.1.un.2.2.2, row v18 37 Bl x8.un.2.2.2.2, row v15 34 Bj x7.un.2.1.un.2.2.2, row v16 37 Bl x7.un.2.2.2.2] w := F
    refine AE F (all_cons (fun h => Ae (by kernel_rfl) h) (all_cons (fun h => Ae (by kernel_rfl) h) (all_cons (fun _ => (.tail _ (.tail _ (.tail _ (.head _))))) Ab))) Ab ?_
    exact wo _ _ _ _ (t5385_ b8 v15 v16 v17 v18 a w _ (by kernel_rfl) (K.ra Aa) F)
   refine C9 Aa ?_ ?_
   ·
    refine AF (cs := (AB)) K F Aa Fx Aa fun b6 a w K F => ?_
    refine AE F (all_cons (fun h => Ae (by kernel_rfl) h) (all_cons (fun _ => (.tail _ (.tail _ (.tail _ (.tail _ (.tail _ (.head _))))))) (all_cons (fun _ => (.tail _ (.tail _ (.tail _ (.tail _ (.head _)))))) Ab))) Ab ?_
    have F := F.frontM (i := 1) Aa Aa
    exact wo _ _ _ _ (t5387_ b6 b8 v15 v16 a w _ (by kernel_rfl) (K.ra Aa) F)
   refine C9 Aa ?_ ?_
   ·
    refine AF (cs := (AB)) K F Aa Fx Aa fun b7 a w K F => ?_
    refine AE F (all_cons (fun h => Ae (by kernel_rfl) h) (all_cons (fun _ => (.tail _ (.tail _ (.tail _ (.tail _ (.tail _ (.head _))))))) (all_cons (fun _ => (.tail _ (.tail _ (.tail _ (.tail _ (.head _)))))) Ab))) Ab ?_
    have F := F.frontM (i := 1) Aa Aa
    exact wo _ _ _ _ (t5388_ b7 b8 v15 v16 a w _ (by kernel_rfl) (K.ra Aa) F)
   exact trivial
  have t5379_ : ∀ (b6 : Nat) (b7 : Nat) (a : Act) (w : World) (L : Array Bool), L = #[true, false, true, false, true, false, true, true, false, false, false, false] → Fr 139 [] [(4, .int .i64 p4), (5, .int .i64 p5), (7, .pointer (some ⟨b1, 0, none⟩)), (8, .pointer (some ⟨b2, 0, none⟩)), (9, .pointer (some ⟨b3, 0, none⟩)), (10, .pointer (some ⟨b4, 0, none⟩)), (13, .pointer (some ⟨b5, 0, none⟩)), (14, .bool false), (15, .pointer (some ⟨b6, 0, none⟩)), (16, .pointer (some ⟨b7, 0, none⟩)), (42, .bool false), (44, (B1 p0 v1 v2)), (46, (B1 p1 v3 v4)), (48, (B1 p2 v5 v6))] a → Stw ⟨Y, [], w0⟩ [(b7, (AB)), (b6, (AB)), (b5, (CF p6)), (b4, (CD p3 v7)), (b3, (Av p2 v5 v6)), (b2, (Av p1 v3 v4)), (b1, (Av p0 v1 v2))] [] w → W Ga L a w := by
   intro b6 b7 a w L hL K F
   subst hL
   refine wi _ _ _ _ ?_
   refine C9 Aa ?_ ?_
   ·
    refine A7 (Ml := []) (Zl := []) (β := Value × Value) (rv := fun x => (Ct x7 x.1 x.2)) (MM := fun x => []) (ZZ := fun x => [row x.1 34 Bj x7.un.2.1.un.2.2.2, row x.2 37 Bl x7.un.2.2.2.2]) K F H8 Aa Aa (fun hL => Cj _ w (v1) (v2) (Tr27.of (p0.un.1, Tr24.of (p0.un.2.1.un.1, p0.un.2.1.un.2.1, p0.un.2.1.un.2.2.1, p0.un.2.1.un.2.2.2), p0.un.2.2.1, p0.un.2.2.2.1, p0.un.2.2.2.2)) _ h13 ((Ak Da h1 (Ah h_v1)) w F).nx ((Ak Ej h2 (Ah h_v2)) w F).nx) fun x a w K F => ?_
    obtain ⟨v15, v16⟩ := x
    have F : Stw ⟨Y, [], w0⟩ [(b7, (AB)), (b6, (AB)), (b5, (CF p6)), (b4, (CD p3 v7)), (b3, (Av p2 v5 v6)), (b2, (Av p1 v3 v4)), (b1, (Av p0 v1 v2))] [row v15 34 Bj x7.un.2.1.un.2.2.2, row v16 37 Bl x7.un.2.2.2.2] w := F
    refine AE F (all_cons (fun h => Ae (by kernel_rfl) h) (all_cons (fun _ => (.tail _ (.tail _ (.tail _ (.tail _ (.tail _ (.head _))))))) (all_cons (fun _ => (.tail _ (.tail _ (.tail _ (.tail _ (.head _)))))) Ab))) Ab ?_
    exact wo _ _ _ _ (t5386_ b6 b7 v15 v16 a w _ (by kernel_rfl) (K.ra Aa) F)
   refine C9 Aa ?_ ?_
   ·
    refine AF (cs := (AB)) K F Aa Fx Aa fun b8 a w K F => ?_
    refine AE F (all_cons (fun _ => (.tail _ (.tail _ (.tail _ (.tail _ (.tail _ (.tail _ (.tail _ (.head _))))))))) (all_cons (fun _ => (.tail _ (.tail _ (.tail _ (.tail _ (.tail _ (.tail _ (.head _)))))))) (all_cons (fun _ => (.tail _ (.tail _ (.tail _ (.tail _ (.tail _ (.head _))))))) Ab))) Ab ?_
    exact wo _ _ _ _ (t5389_ b6 b7 b8 a w _ (by kernel_rfl) (K.ra Aa) F)
   exact trivial
  have t5380_ : ∀ (b6 : Nat) (b8 : Nat) (a : Act) (w : World) (L : Array Bool), L = #[true, false, true, false, true, false, true, false, true, false, false, false] → Fr 139 [] [(4, .int .i64 p4), (5, .int .i64 p5), (7, .pointer (some ⟨b1, 0, none⟩)), (8, .pointer (some ⟨b2, 0, none⟩)), (9, .pointer (some ⟨b3, 0, none⟩)), (10, .pointer (some ⟨b4, 0, none⟩)), (13, .pointer (some ⟨b5, 0, none⟩)), (14, .bool false), (15, .pointer (some ⟨b6, 0, none⟩)), (17, .pointer (some ⟨b8, 0, none⟩)), (42, .bool false), (44, (B1 p0 v1 v2)), (46, (B1 p1 v3 v4)), (48, (B1 p2 v5 v6))] a → Stw ⟨Y, [], w0⟩ [(b8, (AB)), (b6, (AB)), (b5, (CF p6)), (b4, (CD p3 v7)), (b3, (Av p2 v5 v6)), (b2, (Av p1 v3 v4)), (b1, (Av p0 v1 v2))] [] w → W F7 L a w := by
   intro b6 b8 a w L hL K F
   subst hL
   refine wi _ _ _ _ ?_
   refine C9 Aa ?_ ?_
   ·
    refine A7 (Ml := []) (Zl := []) (β := Value × Value) (rv := fun x => (Ct x7 x.1 x.2)) (MM := fun x => []) (ZZ := fun x => [row x.1 34 Bj x7.un.2.1.un.2.2.2, row x.2 37 Bl x7.un.2.2.2.2]) K F H8 Aa Aa (fun hL => Cj _ w (v1) (v2) (Tr27.of (p0.un.1, Tr24.of (p0.un.2.1.un.1, p0.un.2.1.un.2.1, p0.un.2.1.un.2.2.1, p0.un.2.1.un.2.2.2), p0.un.2.2.1, p0.un.2.2.2.1, p0.un.2.2.2.2)) _ h13 ((Ak Da h1 (Ah h_v1)) w F).nx ((Ak Ej h2 (Ah h_v2)) w F).nx) fun x a w K F => ?_
    obtain ⟨v15, v16⟩ := x
    have F : Stw ⟨Y, [], w0⟩ [(b8, (AB)), (b6, (AB)), (b5, (CF p6)), (b4, (CD p3 v7)), (b3, (Av p2 v5 v6)), (b2, (Av p1 v3 v4)), (b1, (Av p0 v1 v2))] [row v15 34 Bj x7.un.2.1.un.2.2.2, row v16 37 Bl x7.un.2.2.2.2] w := F
    refine AE F (all_cons (fun h => Ae (by kernel_rfl) h) (all_cons (fun _ => (.tail _ (.tail _ (.tail _ (.tail _ (.tail _ (.head _))))))) (all_cons (fun _ => (.tail _ (.tail _ (.tail _ (.tail _ (.head _)))))) Ab))) Ab ?_
    exact wo _ _ _ _ (t5387_ b6 b8 v15 v16 a w _ (by kernel_rfl) (K.ra Aa) F)
   refine C9 Aa ?_ ?_
   ·
    refine AF (cs := (AB)) K F Aa Fx Aa fun b7 a w K F => ?_
    refine AE F (all_cons (fun _ => (.tail _ (.tail _ (.tail _ (.tail _ (.tail _ (.tail _ (.tail _ (.head _))))))))) (all_cons (fun _ => (.tail _ (.tail _ (.tail _ (.tail _ (.tail _ (.tail _ (.head _)))))))) (all_cons (fun _ => (.tail _ (.tail _ (.tail _ (.tail _ (.tail _ (.head _))))))) Ab))) Ab ?_
    have F := F.frontM (i := 1) Aa Aa
    exact wo _ _ _ _ (t5389_ b6 b7 b8 a w _ (by kernel_rfl) (K.ra Aa) F)
   exact trivial
  have t5381_ : ∀ (b7 : Nat) (b8 : Nat) (a : Act) (w : World) (L : Array Bool), L = #[true, false, true, false, true, false, false, true, true, false, false, false] → Fr 139 [] [(4, .int .i64 p4), (5, .int .i64 p5), (7, .pointer (some ⟨b1, 0, none⟩)), (8, .pointer (some ⟨b2, 0, none⟩)), (9, .pointer (some ⟨b3, 0, none⟩)), (10, .pointer (some ⟨b4, 0, none⟩)), (13, .pointer (some ⟨b5, 0, none⟩)), (14, .bool false), (16, .pointer (some ⟨b7, 0, none⟩)), (17, .pointer (some ⟨b8, 0, none⟩)), (42, .bool false), (44, (B1 p0 v1 v2)), (46, (B1 p1 v3 v4)), (48, (B1 p2 v5 v6))] a → Stw ⟨Y, [], w0⟩ [(b8, (AB)), (b7, (AB)), (b5, (CF p6)), (b4, (CD p3 v7)), (b3, (Av p2 v5 v6)), (b2, (Av p1 v3 v4)), (b1, (Av p0 v1 v2))] [] w → W Gb L a w := by
   intro b7 b8 a w L hL K F
   subst hL
   refine wi _ _ _ _ ?_
   refine C9 Aa ?_ ?_
   ·
    refine A7 (Ml := []) (Zl := []) (β := Value × Value) (rv := fun x => (Ct x7 x.1 x.2)) (MM := fun x => []) (ZZ := fun x => [row x.1 34 Bj x7.un.2.1.un.2.2.2, row x.2 37 Bl x7.un.2.2.2.2]) K F H8 Aa Aa (fun hL => Cj _ w (v1) (v2) (Tr27.of (p0.un.1, Tr24.of (p0.un.2.1.un.1, p0.un.2.1.un.2.1, p0.un.2.1.un.2.2.1, p0.un.2.1.un.2.2.2), p0.un.2.2.1, p0.un.2.2.2.1, p0.un.2.2.2.2)) _ h13 ((Ak Da h1 (Ah h_v1)) w F).nx ((Ak Ej h2 (Ah h_v2)) w F).nx) fun x a w K F => ?_
    obtain ⟨v15, v16⟩ := x
    have F : Stw ⟨Y, [], w0⟩ [(b8, (AB)), (b7, (AB)), (b5, (CF p6)), (b4, (CD p3 v7)), (b3, (Av p2 v5 v6)), (b2, (Av p1 v3 v4)), (b1, (Av p0 v1 v2))] [row v15 34 Bj x7.un.2.1.un.2.2.2, row v16 37 Bl x7.un.2.2.2.2] w := F
    refine AE F (all_cons (fun h => Ae (by kernel_rfl) h) (all_cons (fun _ => (.tail _ (.tail _ (.tail _ (.tail _ (.tail _ (.head _))))))) (all_cons (fun _ => (.tail _ (.tail _ (.tail _ (.tail _ (.head _)))))) Ab))) Ab ?_
    exact wo _ _ _ _ (t5388_ b7 b8 v15 v16 a w _ (by kernel_rfl) (K.ra Aa) F)
   refine C9 Aa ?_ ?_
   ·
    refine AF (cs := (AB)) K F Aa Fx Aa fun b6 a w K F => ?_
    refine AE F (all_cons (fun _ => (.tail _ (.tail _ (.tail _ (.tail _ (.tail _ (.tail _ (.tail _ (.head _))))))))) (all_cons (fun _ => (.tail _ (.tail _ (.tail _ (.tail _ (.tail _ (.tail _ (.head _)))))))) (all_cons (fun _ => (.tail _ (.tail _ (.tail _ (.tail _ (.tail _ (.head _))))))) Ab))) Ab ?_
    have F := F.frontM (i := 2) Aa Aa
    have F := F.frontM (i := 2) Aa Aa
    exact wo _ _ _ _ (t5389_ b6 b7 b8 a w _ (by kernel_rfl) (K.ra Aa) F)
   exact trivial
  have t5371_ : ∀ (v15 : Value) (v16 : Value) (a : Act) (w : World) (L : Array Bool), L = #[true, true, true, false, true, false, false, false, false, false, false, false] → Fr 139 [] [(4, .int .i64 p4), (5, .int .i64 p5), (7, .pointer (some ⟨b1, 0, none⟩)), (8, .pointer (some ⟨b2, 0, none⟩)), (9, .pointer (some ⟨b3, 0, none⟩)), (10, .pointer (some ⟨b4, 0, none⟩)), (13, .pointer (some ⟨b5, 0, none⟩)), (14, .bool false), (42, .bool false), (44, (B1 p0 v1 v2)), (45, (Ct x7 v15 v16)), (46, (B1 p1 v3 v4)), (48, (B1 p2 v5 v6))] a → Stw ⟨Y, [], w0⟩ [(b5, (CF p6)), (b4, (CD p3 v7)), (b3, (Av p2 v5 v6)), (b2, (Av p1 v3 v4)), (b1, (Av p0 v1 v2))] [row v15 34 Bj x7.un.2.1.un.2.2.2, row v16 37 Bl x7.un.2.2.2.2] w → W HJ L a w := by
   intro v15 v16 a w L hL K F
   subst hL
   refine wi _ _ _ _ ?_
   refine C9 Aa ?_ ?_
   ·
    refine A7 (Ml := []) (Zl := []) (β := Value × Value) (rv := fun x => (Ct x8 x.1 x.2)) (MM := fun x => []) (ZZ := fun x => [row x.1 34 Bj x8.un.2.1.un.2.2.2, row x.2 37 Bl x8.un.2.2.2.2]) K F H8 Aa Aa (fun hL => Cj _ w (v3) (v4) (Tr27.of (p1.un.1, Tr24.of (p1.un.2.1.un.1, p1.un.2.1.un.2.1, p1.un.2.1.un.2.2.1, p1.un.2.1.un.2.2.2), p1.un.2.2.1, p1.un.2.2.2.1, p1.un.2.2.2.2)) _ h14 ((Ak Da h3 (Ah h_v3)) w F).nx ((Ak Ej h4 (Ah h_v4)) w F).nx) fun x a w K F => ?_
    obtain ⟨v17, v18⟩ := x
    have F : Stw ⟨Y, [], w0⟩ [(b5, (CF p6)), (b4, (CD p3 v7)), (b3, (Av p2 v5 v6)), (b2, (Av p1 v3 v4)), (b1, (Av p0 v1 v2))] [row v17 34 Bj x8.un.2.1.un.2.2.2, row v18 37 Bl x8.un.2.2.2.2, row v15 34 Bj x7.un.2.1.un.2.2.2, row v16 37 Bl x7.un.2.2.2.2] w := F
    refine AE F (all_cons (fun h => Ae (by kernel_rfl) h) (all_cons (fun h => Ae (by kernel_rfl) h) (all_cons (fun _ => (.tail _ (.tail _ (.head _)))) Ab))) Ab ?_
    exact wo _ _ _ _ (t5375_ v15 v16 v17 v18 a w _ (by kernel_rfl) (K.ra Aa) F)
   refine C9 Aa ?_ ?_
   ·
    refine AF (cs := (AB)) K F Aa Fx Aa fun b6 a w K F => ?_
    refine AE F (all_cons (fun h => Ae (by kernel_rfl) h) (all_cons (fun _ => (.tail _ (.tail _ (.tail _ (.tail _ (.head _)))))) (all_cons (fun _ => (.tail _ (.tail _ (.tail _ (.head _))))) Ab))) Ab ?_
    exact wo _ _ _ _ (t5376_ b6 v15 v16 a w _ (by kernel_rfl) (K.ra Aa) F)
   refine C9 Aa ?_ ?_
   ·
    refine AF (cs := (AB)) K F Aa Fx Aa fun b7 a w K F => ?_
    refine AE F (all_cons (fun h => Ae (by kernel_rfl) h) (all_cons (fun _ => (.tail _ (.tail _ (.tail _ (.tail _ (.head _)))))) (all_cons (fun _ => (.tail _ (.tail _ (.tail _ (.head _))))) Ab))) Ab ?_
    exact wo _ _ _ _ (t5377_ b7 v15 v16 a w _ (by kernel_rfl) (K.ra Aa) F)
   refine C9 Aa ?_ ?_
   ·
    refine AF (cs := (AB)) K F Aa Fx Aa fun b8 a w K F => ?_
    refine AE F (all_cons (fun h => Ae (by kernel_rfl) h) (all_cons (fun _ => (.tail _ (.tail _ (.tail _ (.tail _ (.head _)))))) (all_cons (fun _ => (.tail _ (.tail _ (.tail _ (.head _))))) Ab))) Ab ?_
    exact wo _ _ _ _ (t5378_ b8 v15 v16 a w _ (by kernel_rfl) (K.ra Aa) F)
   exact trivial
  have t5372_ : ∀ (b6 : Nat) (a : Act) (w : World) (L : Array Bool), L = #[true, false, true, false, true, false, true, false, false, false, false, false] → Fr 139 [] [(4, .int .i64 p4), (5, .int .i64 p5), (7, .pointer (some ⟨b1, 0, none⟩)), (8, .pointer (some ⟨b2, 0, none⟩)), (9, .pointer (some ⟨b3, 0, none⟩)), (10, .pointer (some ⟨b4, 0, none⟩)), (13, .pointer (some ⟨b5, 0, none⟩)), (14, .bool false), (15, .pointer (some ⟨b6, 0, none⟩)), (42, .bool false), (44, (B1 p0 v1 v2)), (46, (B1 p1 v3 v4)), (48, (B1 p2 v5 v6))] a → Stw ⟨Y, [], w0⟩ [(b6, (AB)), (b5, (CF p6)), (b4, (CD p3 v7)), (b3, (Av p2 v5 v6)), (b2, (Av p1 v3 v4)), (b1, (Av p0 v1 v2))] [] w → W HF L a w := by
   intro b6 a w L hL K F
   subst hL
   refine wi _ _ _ _ ?_
   refine C9 Aa ?_ ?_
   ·
    refine A7 (Ml := []) (Zl := []) (β := Value × Value) (rv := fun x => (Ct x7 x.1 x.2)) (MM := fun x => []) (ZZ := fun x => [row x.1 34 Bj x7.un.2.1.un.2.2.2, row x.2 37 Bl x7.un.2.2.2.2]) K F H8 Aa Aa (fun hL => Cj _ w (v1) (v2) (Tr27.of (p0.un.1, Tr24.of (p0.un.2.1.un.1, p0.un.2.1.un.2.1, p0.un.2.1.un.2.2.1, p0.un.2.1.un.2.2.2), p0.un.2.2.1, p0.un.2.2.2.1, p0.un.2.2.2.2)) _ h13 ((Ak Da h1 (Ah h_v1)) w F).nx ((Ak Ej h2 (Ah h_v2)) w F).nx) fun x a w K F => ?_
    obtain ⟨v15, v16⟩ := x
    have F : Stw ⟨Y, [], w0⟩ [(b6, (AB)), (b5, (CF p6)), (b4, (CD p3 v7)), (b3, (Av p2 v5 v6)), (b2, (Av p1 v3 v4)), (b1, (Av p0 v1 v2))] [row v15 34 Bj x7.un.2.1.un.2.2.2, row v16 37 Bl x7.un.2.2.2.2] w := F
    refine AE F (all_cons (fun h => Ae (by kernel_rfl) h) (all_cons (fun _ => (.tail _ (.tail _ (.tail _ (.tail _ (.head _)))))) (all_cons (fun _ => (.tail _ (.tail _ (.tail _ (.head _))))) Ab))) Ab ?_
    exact wo _ _ _ _ (t5376_ b6 v15 v16 a w _ (by kernel_rfl) (K.ra Aa) F)
   refine C9 Aa ?_ ?_
   ·
    refine AF (cs := (AB)) K F Aa Fx Aa fun b7 a w K F => ?_
    refine AE F (all_cons (fun _ => (.tail _ (.tail _ (.tail _ (.tail _ (.tail _ (.tail _ (.head _)))))))) (all_cons (fun _ => (.tail _ (.tail _ (.tail _ (.tail _ (.tail _ (.head _))))))) (all_cons (fun _ => (.tail _ (.tail _ (.tail _ (.tail _ (.head _)))))) Ab))) Ab ?_
    exact wo _ _ _ _ (t5379_ b6 b7 a w _ (by kernel_rfl) (K.ra Aa) F)
   refine C9 Aa ?_ ?_
   ·
    refine AF (cs := (AB)) K F Aa Fx Aa fun b8 a w K F => ?_
    refine AE F (all_cons (fun _ => (.tail _ (.tail _ (.tail _ (.tail _ (.tail _ (.tail _ (.head _)))))))) (all_cons (fun _ => (.tail _ (.tail _ (.tail _ (.tail _ (.tail _ (.head _))))))) (all_cons (fun _ => (.tail _ (.tail _ (.tail _ (.tail _ (.head _)))))) Ab))) Ab ?_
    exact wo _ _ _ _ (t5380_ b6 b8 a w _ (by kernel_rfl) (K.ra Aa) F)
   exact trivial
  have t5373_ : ∀ (b7 : Nat) (a : Act) (w : World) (L : Array Bool), L = #[true, false, true, false, true, false, false, true, false, false, false, false] → Fr 139 [] [(4, .int .i64 p4), (5, .int .i64 p5), (7, .pointer (some ⟨b1, 0, none⟩)), (8, .pointer (some ⟨b2, 0, none⟩)), (9, .pointer (some ⟨b3, 0, none⟩)), (10, .pointer (some ⟨b4, 0, none⟩)), (13, .pointer (some ⟨b5, 0, none⟩)), (14, .bool false), (16, .pointer (some ⟨b7, 0, none⟩)), (42, .bool false), (44, (B1 p0 v1 v2)), (46, (B1 p1 v3 v4)), (48, (B1 p2 v5 v6))] a → Stw ⟨Y, [], w0⟩ [(b7, (AB)), (b5, (CF p6)), (b4, (CD p3 v7)), (b3, (Av p2 v5 v6)), (b2, (Av p1 v3 v4)), (b1, (Av p0 v1 v2))] [] w → W HE L a w := by
   intro b7 a w L hL K F
   subst hL
   refine wi _ _ _ _ ?_
   refine C9 Aa ?_ ?_
   ·
    refine A7 (Ml := []) (Zl := []) (β := Value × Value) (rv := fun x => (Ct x7 x.1 x.2)) (MM := fun x => []) (ZZ := fun x => [row x.1 34 Bj x7.un.2.1.un.2.2.2, row x.2 37 Bl x7.un.2.2.2.2]) K F H8 Aa Aa (fun hL => Cj _ w (v1) (v2) (Tr27.of (p0.un.1, Tr24.of (p0.un.2.1.un.1, p0.un.2.1.un.2.1, p0.un.2.1.un.2.2.1, p0.un.2.1.un.2.2.2), p0.un.2.2.1, p0.un.2.2.2.1, p0.un.2.2.2.2)) _ h13 ((Ak Da h1 (Ah h_v1)) w F).nx ((Ak Ej h2 (Ah h_v2)) w F).nx) fun x a w K F => ?_
    obtain ⟨v15, v16⟩ := x
    have F : Stw ⟨Y, [], w0⟩ [(b7, (AB)), (b5, (CF p6)), (b4, (CD p3 v7)), (b3, (Av p2 v5 v6)), (b2, (Av p1 v3 v4)), (b1, (Av p0 v1 v2))] [row v15 34 Bj x7.un.2.1.un.2.2.2, row v16 37 Bl x7.un.2.2.2.2] w := F
    refine AE F (all_cons (fun h => Ae (by kernel_rfl) h) (all_cons (fun _ => (.tail _ (.tail _ (.tail _ (.tail _ (.head _)))))) (all_cons (fun _ => (.tail _ (.tail _ (.tail _ (.head _))))) Ab))) Ab ?_
    exact wo _ _ _ _ (t5377_ b7 v15 v16 a w _ (by kernel_rfl) (K.ra Aa) F)
   refine C9 Aa ?_ ?_
   ·
    refine AF (cs := (AB)) K F Aa Fx Aa fun b6 a w K F => ?_
    refine AE F (all_cons (fun _ => (.tail _ (.tail _ (.tail _ (.tail _ (.tail _ (.tail _ (.head _)))))))) (all_cons (fun _ => (.tail _ (.tail _ (.tail _ (.tail _ (.tail _ (.head _))))))) (all_cons (fun _ => (.tail _ (.tail _ (.tail _ (.tail _ (.head _)))))) Ab))) Ab ?_
    have F := F.frontM (i := 1) Aa Aa
    exact wo _ _ _ _ (t5379_ b6 b7 a w _ (by kernel_rfl) (K.ra Aa) F)
   refine C9 Aa ?_ ?_
   ·
    refine AF (cs := (AB)) K F Aa Fx Aa fun b8 a w K F => ?_
    refine AE F (all_cons (fun _ => (.tail _ (.tail _ (.tail _ (.tail _ (.tail _ (.tail _ (.head _)))))))) (all_cons (fun _ => (.tail _ (.tail _ (.tail _ (.tail _ (.tail _ (.head _))))))) (all_cons (fun _ => (.tail _ (.tail _ (.tail _ (.tail _ (.head _)))))) Ab))) Ab ?_
    exact wo _ _ _ _ (t5381_ b7 b8 a w _ (by kernel_rfl) (K.ra Aa) F)
   exact trivial
  have t5374_ : ∀ (b8 : Nat) (a : Act) (w : World) (L : Array Bool), L = #[true, false, true, false, true, false, false, false, true, false, false, false] → Fr 139 [] [(4, .int .i64 p4), (5, .int .i64 p5), (7, .pointer (some ⟨b1, 0, none⟩)), (8, .pointer (some ⟨b2, 0, none⟩)), (9, .pointer (some ⟨b3, 0, none⟩)), (10, .pointer (some ⟨b4, 0, none⟩)), (13, .pointer (some ⟨b5, 0, none⟩)), (14, .bool false), (17, .pointer (some ⟨b8, 0, none⟩)), (42, .bool false), (44, (B1 p0 v1 v2)), (46, (B1 p1 v3 v4)), (48, (B1 p2 v5 v6))] a → Stw ⟨Y, [], w0⟩ [(b8, (AB)), (b5, (CF p6)), (b4, (CD p3 v7)), (b3, (Av p2 v5 v6)), (b2, (Av p1 v3 v4)), (b1, (Av p0 v1 v2))] [] w → W HK L a w := by
   intro b8 a w L hL K F
   subst hL
   refine wi _ _ _ _ ?_
   refine C9 Aa ?_ ?_
   ·
    refine A7 (Ml := []) (Zl := []) (β := Value × Value) (rv := fun x => (Ct x7 x.1 x.2)) (MM := fun x => []) (ZZ := fun x => [row x.1 34 Bj x7.un.2.1.un.2.2.2, row x.2 37 Bl x7.un.2.2.2.2]) K F H8 Aa Aa (fun hL => Cj _ w (v1) (v2) (Tr27.of (p0.un.1, Tr24.of (p0.un.2.1.un.1, p0.un.2.1.un.2.1, p0.un.2.1.un.2.2.1, p0.un.2.1.un.2.2.2), p0.un.2.2.1, p0.un.2.2.2.1, p0.un.2.2.2.2)) _ h13 ((Ak Da h1 (Ah h_v1)) w F).nx ((Ak Ej h2 (Ah h_v2)) w F).nx) fun x a w K F => ?_
    obtain ⟨v15, v16⟩ := x
    have F : Stw ⟨Y, [], w0⟩ [(b8, (AB)), (b5, (CF p6)), (b4, (CD p3 v7)), (b3, (Av p2 v5 v6)), (b2, (Av p1 v3 v4)), (b1, (Av p0 v1 v2))] [row v15 34 Bj x7.un.2.1.un.2.2.2, row v16 37 Bl x7.un.2.2.2.2] w := F
    refine AE F (all_cons (fun h => Ae (by kernel_rfl) h) (all_cons (fun _ => (.tail _ (.tail _ (.tail _ (.tail _ (.head _)))))) (all_cons (fun _ => (.tail _ (.tail _ (.tail _ (.head _))))) Ab))) Ab ?_
    exact wo _ _ _ _ (t5378_ b8 v15 v16 a w _ (by kernel_rfl) (K.ra Aa) F)
   refine C9 Aa ?_ ?_
   ·
    refine AF (cs := (AB)) K F Aa Fx Aa fun b6 a w K F => ?_
    refine AE F (all_cons (fun _ => (.tail _ (.tail _ (.tail _ (.tail _ (.tail _ (.tail _ (.head _)))))))) (all_cons (fun _ => (.tail _ (.tail _ (.tail _ (.tail _ (.tail _ (.head _))))))) (all_cons (fun _ => (.tail _ (.tail _ (.tail _ (.tail _ (.head _)))))) Ab))) Ab ?_
    have F := F.frontM (i := 1) Aa Aa
    exact wo _ _ _ _ (t5380_ b6 b8 a w _ (by kernel_rfl) (K.ra Aa) F)
   refine C9 Aa ?_ ?_
   ·
    refine AF (cs := (AB)) K F Aa Fx Aa fun b7 a w K F => ?_
    refine AE F (all_cons (fun _ => (.tail _ (.tail _ (.tail _ (.tail _ (.tail _ (.tail _ (.head _)))))))) (all_cons (fun _ => (.tail _ (.tail _ (.tail _ (.tail _ (.tail _ (.head _))))))) (all_cons (fun _ => (.tail _ (.tail _ (.tail _ (.tail _ (.head _)))))) Ab))) Ab ?_
    have F := F.frontM (i := 1) Aa Aa
    exact wo _ _ _ _ (t5381_ b7 b8 a w _ (by kernel_rfl) (K.ra Aa) F)
   exact trivial
  refine wi _ _ _ _ ?_
  refine C9 Aa ?_ ?_
  ·
   refine A7 (Ml := []) (Zl := []) (β := Value × Value) (rv := fun x => (Ct x7 x.1 x.2)) (MM := fun x => []) (ZZ := fun x => [row x.1 34 Bj x7.un.2.1.un.2.2.2, row x.2 37 Bl x7.un.2.2.2.2]) K F H8 Aa Aa (fun hL => Cj _ w (v1) (v2) (Tr27.of (p0.un.1, Tr24.of (p0.un.2.1.un.1, p0.un.2.1.un.2.1, p0.un.2.1.un.2.2.1, p0.un.2.1.un.2.2.2), p0.un.2.2.1, p0.un.2.2.2.1, p0.un.2.2.2.2)) _ h13 ((Ak Da h1 (Ah h_v1)) w F).nx ((Ak Ej h2 (Ah h_v2)) w F).nx) fun x a w K F => ?_
   obtain ⟨v15, v16⟩ := x
   have F : Stw ⟨Y, [], w0⟩ [(b5, (CF p6)), (b4, (CD p3 v7)), (b3, (Av p2 v5 v6)), (b2, (Av p1 v3 v4)), (b1, (Av p0 v1 v2))] [row v15 34 Bj x7.un.2.1.un.2.2.2, row v16 37 Bl x7.un.2.2.2.2] w := F
   refine AE F (all_cons (fun h => Ae (by kernel_rfl) h) (all_cons (fun _ => (.tail _ (.tail _ (.tail _ (.head _))))) (all_cons (fun _ => (.tail _ (.tail _ (.head _)))) Ab))) Ab ?_
   exact wo _ _ _ _ (t5371_ v15 v16 a w _ (by kernel_rfl) (K.ra Aa) F)
  refine C9 Aa ?_ ?_
  ·
   refine AF (cs := (AB)) K F Aa Fx Aa fun b6 a w K F => ?_
   refine AE F (all_cons (fun _ => (.tail _ (.tail _ (.tail _ (.tail _ (.tail _ (.head _))))))) (all_cons (fun _ => (.tail _ (.tail _ (.tail _ (.tail _ (.head _)))))) (all_cons (fun _ => (.tail _ (.tail _ (.tail _ (.head _))))) Ab))) Ab ?_
   exact wo _ _ _ _ (t5372_ b6 a w _ (by kernel_rfl) (K.ra Aa) F)
  refine C9 Aa ?_ ?_
  ·
   refine AF (cs := (AB)) K F Aa Fx Aa fun b7 a w K F => ?_
   refine AE F (all_cons (fun _ => (.tail _ (.tail _ (.tail _ (.tail _ (.tail _ (.head _))))))) (all_cons (fun _ => (.tail _ (.tail _ (.tail _ (.tail _ (.head _)))))) (all_cons (fun _ => (.tail _ (.tail _ (.tail _ (.head _))))) Ab))) Ab ?_
   exact wo _ _ _ _ (t5373_ b7 a w _ (by kernel_rfl) (K.ra Aa) F)
  refine C9 Aa ?_ ?_
  ·
   refine AF (cs := (AB)) K F Aa Fx Aa fun b8 a w K F => ?_
   refine AE F (all_cons (fun _ => (.tail _ (.tail _ (.tail _ (.tail _ (.tail _ (.head _))))))) (all_cons (fun _ => (.tail _ (.tail _ (.tail _ (.tail _ (.head _)))))) (all_cons (fun _ => (.tail _ (.tail _ (.tail _ (.head _))))) Ab))) Ab ?_
   exact wo _ _ _ _ (t5374_ b8 a w _ (by kernel_rfl) (K.ra Aa) F)
  exact trivial
 rintro a w ⟨b6, b7, b8, v15, v16, v17, v18, v19, v20, K, F⟩
 refine XV tk 3 [4] K F (ai fun a w K F => ?_)
 obtain ⟨x10, h16, H⟩ := Ag H
 refine A7 (Ml := []) (Zl := []) (β := Value) (rv := fun x => .agg #[.int .i64 x10.un.1, .int .i64 x10.un.2.1, .int .i64 x10.un.2.2.1, x]) (MM := fun x => []) (ZZ := fun x => [row x 34 Bj x10.un.2.2.2]) K F Xu Aa Aa (fun hL => LM _ w (v7) p3 _ h16 ((Ak Da h7 (Ah h_v7)) w F).nx) fun x a w K F => ?_
 obtain ⟨v21, rfl⟩ : ∃ y, y = x := ⟨x, rfl⟩
 have F : Stw ⟨Y, [], w0⟩ [(b8, (BE x9 v19 v20)), (b7, (BE x8 v17 v18)), (b6, (BE x7 v15 v16)), (b5, (CF p6)), (b4, (CD p3 v7)), (b3, (Av p2 v5 v6)), (b2, (Av p1 v3 v4)), (b1, (Av p0 v1 v2))] [row v21 34 Bj x10.un.2.2.2, row v19 34 Bj x9.un.2.1.un.2.2.2, row v20 37 Bl x9.un.2.2.2.2, row v17 34 Bj x8.un.2.1.un.2.2.2, row v18 37 Bl x8.un.2.2.2.2, row v15 34 Bj x7.un.2.1.un.2.2.2, row v16 37 Bl x7.un.2.2.2.2] w := F
 refine AF (cs := (LH)) K F Aa Uw Aa fun b9 a w K F => ?_
 refine DZ 0 K F Aa Aa Aa MT Aa Aa (Af Aa (Af Aa (Af Aa (Af (F.one (k := 0) Aa) CT)))) fun w F => ?_
 refine Gz tk 5 [0] K F (ai fun a w K F => ?_)
 refine ls K F Aa (CM (v := Value.agg #[.int .i64 1, .int .i64 x10.un.1, .int .i64 x10.un.2.1, .int .i64 x10.un.2.2.1, v21, .int .i64 0, .int .i64 0, .slice none 0 0]) Rj K Aa (A9 Aa Aa Aa (A9 Aa Aa Aa Dc)) Aa).q fun a w K F => ?_
 refine ls K F Aa (Bu (v := (Ct x7 v15 v16)) 3 K Aa Aa Is Aa).q fun a w K F => ?_
 have F := F.freeze
 have F := F.frontZ (i := 5) Aa Aa
 have F := F.freeze
 have F := F.frontZ (i := 6) Aa Aa
 have F := F.freeze
 refine Gs (z := Value.agg #[.int .i64 0, .int .i64 0, .int .i64 0, .int .i64 0, .slice none 0 0, .int .i64 0, .int .i64 0, .slice none 0 0]) (cs := [.int .i64 1, .int .i64 x10.un.1, .int .i64 x10.un.2.1, .int .i64 x10.un.2.2.1, v21, .int .i64 0, .int .i64 0, .slice none 0 0, .int .i64 x7.un.1, .int .i64 x7.un.2.1.un.1, .int .i64 x7.un.2.1.un.2.1, .int .i64 x7.un.2.1.un.2.2.1, v15, .int .i64 x7.un.2.2.1, .int .i64 x7.un.2.2.2.1, v16]) Bl ([Tr37.of (1, x10, 0, 0, ([] : List Tr37)), (BC x7)] : List Tr37) K F Aa NC Fx Aa Aa Aa (by kernel_rfl) Aa Aa ⟨[Value.int .i64 1, Value.int .i64 x10.un.1, Value.int .i64 x10.un.2.1, Value.int .i64 x10.un.2.2.1, v21, Value.int .i64 0, Value.int .i64 0, Value.slice none 0 0], _, Aa, (HA.2 ⟨[Value.int .i64 1], [Value.int .i64 x10.un.1, Value.int .i64 x10.un.2.1, Value.int .i64 x10.un.2.2.1, v21, Value.int .i64 0, Value.int .i64 0, Value.slice none 0 0], Aa, Aa, ⟨[Value.int .i64 x10.un.1, Value.int .i64 x10.un.2.1, Value.int .i64 x10.un.2.2.1, v21], [Value.int .i64 0, Value.int .i64 0, Value.slice none 0 0], Aa, (Hi.2 ⟨[Value.int .i64 x10.un.1], [Value.int .i64 x10.un.2.1, Value.int .i64 x10.un.2.2.1, v21], Aa, Aa, ⟨[Value.int .i64 x10.un.2.1], [Value.int .i64 x10.un.2.2.1, v21], Aa, Aa, ⟨[Value.int .i64 x10.un.2.2.1], [v21], Aa, Aa, ⟨_, Aa, (F.item (i := 2) Aa)⟩⟩⟩⟩), ⟨[Value.int .i64 0], [Value.int .i64 0, Value.slice none 0 0], Aa, Aa, ⟨[Value.int .i64 0], [Value.slice none 0 0], Aa, Aa, ⟨_, Aa, (Sl.nil (r := Bl))⟩⟩⟩⟩⟩), ⟨[Value.int .i64 x7.un.1, Value.int .i64 x7.un.2.1.un.1, Value.int .i64 x7.un.2.1.un.2.1, Value.int .i64 x7.un.2.1.un.2.2.1, v15, Value.int .i64 x7.un.2.2.1, Value.int .i64 x7.un.2.2.2.1, v16], _, Aa, (HA.2 ⟨[Value.int .i64 x7.un.1], [Value.int .i64 x7.un.2.1.un.1, Value.int .i64 x7.un.2.1.un.2.1, Value.int .i64 x7.un.2.1.un.2.2.1, v15, Value.int .i64 x7.un.2.2.1, Value.int .i64 x7.un.2.2.2.1, v16], Aa, Aa, ⟨[Value.int .i64 x7.un.2.1.un.1, Value.int .i64 x7.un.2.1.un.2.1, Value.int .i64 x7.un.2.1.un.2.2.1, v15], [Value.int .i64 x7.un.2.2.1, Value.int .i64 x7.un.2.2.2.1, v16], Aa, (Hi.2 ⟨[Value.int .i64 x7.un.2.1.un.1], [Value.int .i64 x7.un.2.1.un.2.1, Value.int .i64 x7.un.2.1.un.2.2.1, v15], Aa, Aa, ⟨[Value.int .i64 x7.un.2.1.un.2.1], [Value.int .i64 x7.un.2.1.un.2.2.1, v15], Aa, Aa, ⟨[Value.int .i64 x7.un.2.1.un.2.2.1], [v15], Aa, Aa, ⟨_, Aa, (F.item (i := 1) Aa)⟩⟩⟩⟩), ⟨[Value.int .i64 x7.un.2.2.1], [Value.int .i64 x7.un.2.2.2.1, v16], Aa, Aa, ⟨[Value.int .i64 x7.un.2.2.2.1], [v16], Aa, Aa, ⟨_, Aa, (F.item (i := 0) Aa)⟩⟩⟩⟩⟩), Aa⟩⟩ fun v22 a w K F => ?_
 refine ls K F Aa (CM (v := Value.agg #[.int .i64 3, .int .i64 0, .int .i64 0, .int .i64 0, .slice none 0 0, .int .i64 0, .int .i64 0, v22]) Rj K Aa (A9 Aa Aa Aa (A9 Aa (DG (F.one (k := 0) Aa)) Aa Dc)) Aa).q fun a w K F => ?_
 refine AF (cs := (AB)) K F Aa Fx Aa fun b10 a w K F => ?_
 refine DZ 0 K F Aa Aa Aa Is Aa Aa (Af Aa (Af Aa (Af Aa (Af Aa (Af Aa (Af Aa (Af Aa (Af (F.one (k := 0) Aa) CT)))))))) fun w F => ?_
 refine Gz tk 5 [1] K F (ai fun a w K F => ?_)
 refine Gs (z := Value.agg #[.int .i64 0, .int .i64 0, .int .i64 0, .slice none 0 0]) (cs := (F1 x10 v21)) Bj ([x10] : List Tr34) K F Aa Tk Uw Aa Aa Aa (A9 Aa Aa Aa Dc) Aa Aa ⟨[Value.int .i64 x10.un.1, Value.int .i64 x10.un.2.1, Value.int .i64 x10.un.2.2.1, v21], _, Aa, (Hi.2 ⟨[Value.int .i64 x10.un.1], [Value.int .i64 x10.un.2.1, Value.int .i64 x10.un.2.2.1, v21], Aa, Aa, ⟨[Value.int .i64 x10.un.2.1], [Value.int .i64 x10.un.2.2.1, v21], Aa, Aa, ⟨[Value.int .i64 x10.un.2.2.1], [v21], Aa, Aa, ⟨_, Aa, (F.item (i := 3) Aa)⟩⟩⟩⟩), Aa⟩ fun v23 a w K F => ?_
 refine ls K F Aa (CM (v := Value.agg #[.int .i64 4, .int .i64 0, .int .i64 0, v23]) XY K Aa (A9 Aa Aa Aa (A9 Aa (DG (F.one (k := 0) Aa)) Aa Dc)) Aa).q fun a w K F => ?_
 refine ls K F Aa (CM (v := Value.agg #[.int .i64 1, .int .i64 4, .int .i64 0, .int .i64 0, v23, .int .i64 0, .int .i64 0, .slice none 0 0]) Rj K Aa (A9 Aa Aa Aa (A9 Aa Aa Aa Dc)) Aa).q fun a w K F => ?_
 refine ls K F Aa (Bu (v := (Ct x8 v17 v18)) 3 K Aa Aa Is Aa).q fun a w K F => ?_
 have F := F.freeze
 have F := F.frontZ (i := 7) Aa Aa
 have F := F.freeze
 have F := F.frontZ (i := 8) Aa Aa
 have F := F.freeze
 refine Gs (z := Value.agg #[.int .i64 0, .int .i64 0, .int .i64 0, .int .i64 0, .slice none 0 0, .int .i64 0, .int .i64 0, .slice none 0 0]) (cs := [.int .i64 1, .int .i64 4, .int .i64 0, .int .i64 0, v23, .int .i64 0, .int .i64 0, .slice none 0 0, .int .i64 x8.un.1, .int .i64 x8.un.2.1.un.1, .int .i64 x8.un.2.1.un.2.1, .int .i64 x8.un.2.1.un.2.2.1, v17, .int .i64 x8.un.2.2.1, .int .i64 x8.un.2.2.2.1, v18]) Bl ([Tr37.of (1, Tr34.of (4, 0, 0, ([x10] : List Tr34)), 0, 0, ([] : List Tr37)), (BC x8)] : List Tr37) K F Aa NC Fx Aa Aa Aa (by kernel_rfl) Aa Aa ⟨[Value.int .i64 1, Value.int .i64 4, Value.int .i64 0, Value.int .i64 0, v23, Value.int .i64 0, Value.int .i64 0, Value.slice none 0 0], _, Aa, (HA.2 ⟨[Value.int .i64 1], [Value.int .i64 4, Value.int .i64 0, Value.int .i64 0, v23, Value.int .i64 0, Value.int .i64 0, Value.slice none 0 0], Aa, Aa, ⟨[Value.int .i64 4, Value.int .i64 0, Value.int .i64 0, v23], [Value.int .i64 0, Value.int .i64 0, Value.slice none 0 0], Aa, (Hi.2 ⟨[Value.int .i64 4], [Value.int .i64 0, Value.int .i64 0, v23], Aa, Aa, ⟨[Value.int .i64 0], [Value.int .i64 0, v23], Aa, Aa, ⟨[Value.int .i64 0], [v23], Aa, Aa, ⟨_, Aa, (F.item (i := 2) Aa)⟩⟩⟩⟩), ⟨[Value.int .i64 0], [Value.int .i64 0, Value.slice none 0 0], Aa, Aa, ⟨[Value.int .i64 0], [Value.slice none 0 0], Aa, Aa, ⟨_, Aa, (Sl.nil (r := Bl))⟩⟩⟩⟩⟩), ⟨[Value.int .i64 x8.un.1, Value.int .i64 x8.un.2.1.un.1, Value.int .i64 x8.un.2.1.un.2.1, Value.int .i64 x8.un.2.1.un.2.2.1, v17, Value.int .i64 x8.un.2.2.1, Value.int .i64 x8.un.2.2.2.1, v18], _, Aa, (HA.2 ⟨[Value.int .i64 x8.un.1], [Value.int .i64 x8.un.2.1.un.1, Value.int .i64 x8.un.2.1.un.2.1, Value.int .i64 x8.un.2.1.un.2.2.1, v17, Value.int .i64 x8.un.2.2.1, Value.int .i64 x8.un.2.2.2.1, v18], Aa, Aa, ⟨[Value.int .i64 x8.un.2.1.un.1, Value.int .i64 x8.un.2.1.un.2.1, Value.int .i64 x8.un.2.1.un.2.2.1, v17], [Value.int .i64 x8.un.2.2.1, Value.int .i64 x8.un.2.2.2.1, v18], Aa, (Hi.2 ⟨[Value.int .i64 x8.un.2.1.un.1], [Value.int .i64 x8.un.2.1.un.2.1, Value.int .i64 x8.un.2.1.un.2.2.1, v17], Aa, Aa, ⟨[Value.int .i64 x8.un.2.1.un.2.1], [Value.int .i64 x8.un.2.1.un.2.2.1, v17], Aa, Aa, ⟨[Value.int .i64 x8.un.2.1.un.2.2.1], [v17], Aa, Aa, ⟨_, Aa, (F.item (i := 1) Aa)⟩⟩⟩⟩), ⟨[Value.int .i64 x8.un.2.2.1], [Value.int .i64 x8.un.2.2.2.1, v18], Aa, Aa, ⟨[Value.int .i64 x8.un.2.2.2.1], [v18], Aa, Aa, ⟨_, Aa, (F.item (i := 0) Aa)⟩⟩⟩⟩⟩), Aa⟩⟩ fun v24 a w K F => ?_
 refine ls K F Aa (CM (v := Value.agg #[.int .i64 3, .int .i64 0, .int .i64 0, .int .i64 0, .slice none 0 0, .int .i64 0, .int .i64 0, v24]) Rj K Aa (A9 Aa Aa Aa (A9 Aa (DG (F.one (k := 0) Aa)) Aa Dc)) Aa).q fun a w K F => ?_
 refine AF (cs := (AB)) K F Aa Fx Aa fun b11 a w K F => ?_
 refine DZ 0 K F Aa Aa Aa Is Aa Aa (Af Aa (Af Aa (Af Aa (Af Aa (Af Aa (Af Aa (Af Aa (Af (F.one (k := 0) Aa) CT)))))))) fun w F => ?_
 refine Gz tk 6 [5, 4] K F (ai (ai fun a w K F => ?_))
 refine Gs (z := Value.agg #[.int .i64 0, .int .i64 0, .int .i64 0, .int .i64 0, .slice none 0 0, .int .i64 0, .int .i64 0, .slice none 0 0]) (cs := (TF x7 v15 v16 x8 v17 v18)) Bl ([(BC x7), (BC x8)] : List Tr37) K F Aa NC Fx Aa Aa Aa (by kernel_rfl) Aa Aa ⟨[Value.int .i64 x7.un.1, Value.int .i64 x7.un.2.1.un.1, Value.int .i64 x7.un.2.1.un.2.1, Value.int .i64 x7.un.2.1.un.2.2.1, v15, Value.int .i64 x7.un.2.2.1, Value.int .i64 x7.un.2.2.2.1, v16], _, Aa, (HA.2 ⟨[Value.int .i64 x7.un.1], [Value.int .i64 x7.un.2.1.un.1, Value.int .i64 x7.un.2.1.un.2.1, Value.int .i64 x7.un.2.1.un.2.2.1, v15, Value.int .i64 x7.un.2.2.1, Value.int .i64 x7.un.2.2.2.1, v16], Aa, Aa, ⟨[Value.int .i64 x7.un.2.1.un.1, Value.int .i64 x7.un.2.1.un.2.1, Value.int .i64 x7.un.2.1.un.2.2.1, v15], [Value.int .i64 x7.un.2.2.1, Value.int .i64 x7.un.2.2.2.1, v16], Aa, (Hi.2 ⟨[Value.int .i64 x7.un.2.1.un.1], [Value.int .i64 x7.un.2.1.un.2.1, Value.int .i64 x7.un.2.1.un.2.2.1, v15], Aa, Aa, ⟨[Value.int .i64 x7.un.2.1.un.2.1], [Value.int .i64 x7.un.2.1.un.2.2.1, v15], Aa, Aa, ⟨[Value.int .i64 x7.un.2.1.un.2.2.1], [v15], Aa, Aa, ⟨_, Aa, (F.item (i := 6) Aa)⟩⟩⟩⟩), ⟨[Value.int .i64 x7.un.2.2.1], [Value.int .i64 x7.un.2.2.2.1, v16], Aa, Aa, ⟨[Value.int .i64 x7.un.2.2.2.1], [v16], Aa, Aa, ⟨_, Aa, (F.item (i := 5) Aa)⟩⟩⟩⟩⟩), ⟨[Value.int .i64 x8.un.1, Value.int .i64 x8.un.2.1.un.1, Value.int .i64 x8.un.2.1.un.2.1, Value.int .i64 x8.un.2.1.un.2.2.1, v17, Value.int .i64 x8.un.2.2.1, Value.int .i64 x8.un.2.2.2.1, v18], _, Aa, (HA.2 ⟨[Value.int .i64 x8.un.1], [Value.int .i64 x8.un.2.1.un.1, Value.int .i64 x8.un.2.1.un.2.1, Value.int .i64 x8.un.2.1.un.2.2.1, v17, Value.int .i64 x8.un.2.2.1, Value.int .i64 x8.un.2.2.2.1, v18], Aa, Aa, ⟨[Value.int .i64 x8.un.2.1.un.1, Value.int .i64 x8.un.2.1.un.2.1, Value.int .i64 x8.un.2.1.un.2.2.1, v17], [Value.int .i64 x8.un.2.2.1, Value.int .i64 x8.un.2.2.2.1, v18], Aa, (Hi.2 ⟨[Value.int .i64 x8.un.2.1.un.1], [Value.int .i64 x8.un.2.1.un.2.1, Value.int .i64 x8.un.2.1.un.2.2.1, v17], Aa, Aa, ⟨[Value.int .i64 x8.un.2.1.un.2.1], [Value.int .i64 x8.un.2.1.un.2.2.1, v17], Aa, Aa, ⟨[Value.int .i64 x8.un.2.1.un.2.2.1], [v17], Aa, Aa, ⟨_, Aa, (F.item (i := 2) Aa)⟩⟩⟩⟩), ⟨[Value.int .i64 x8.un.2.2.1], [Value.int .i64 x8.un.2.2.2.1, v18], Aa, Aa, ⟨[Value.int .i64 x8.un.2.2.2.1], [v18], Aa, Aa, ⟨_, Aa, (F.item (i := 1) Aa)⟩⟩⟩⟩⟩), Aa⟩⟩ fun v25 a w K F => ?_
 refine ls K F Aa (CM (v := Value.agg #[.int .i64 4, .int .i64 0, .int .i64 0, .int .i64 0, .slice none 0 0, .int .i64 0, .int .i64 0, v25]) Rj K Aa (A9 Aa Aa Aa (A9 Aa (DG (F.one (k := 0) Aa)) Aa Dc)) Aa).q fun a w K F => ?_
 refine Hw tk 3 [4, 5, 4] K F (ai (ai (ai fun a w K F => ?_)))
 refine Gs (z := Value.agg #[.int .i64 0, .int .i64 0, .int .i64 0, .int .i64 0, .slice none 0 0, .int .i64 0, .int .i64 0, .slice none 0 0]) (cs := [.int .i64 x8.un.1, .int .i64 x8.un.2.1.un.1, .int .i64 x8.un.2.1.un.2.1, .int .i64 x8.un.2.1.un.2.2.1, v17, .int .i64 x8.un.2.2.1, .int .i64 x8.un.2.2.2.1, v18, .int .i64 x7.un.1, .int .i64 x7.un.2.1.un.1, .int .i64 x7.un.2.1.un.2.1, .int .i64 x7.un.2.1.un.2.2.1, v15, .int .i64 x7.un.2.2.1, .int .i64 x7.un.2.2.2.1, v16, .int .i64 x8.un.1, .int .i64 x8.un.2.1.un.1, .int .i64 x8.un.2.1.un.2.1, .int .i64 x8.un.2.1.un.2.2.1, v17, .int .i64 x8.un.2.2.1, .int .i64 x8.un.2.2.2.1, v18]) Bl ([(BC x8), (BC x7), (BC x8)] : List Tr37) K F Aa NC Fx Aa Aa Aa (by kernel_rfl) Aa Aa ⟨[Value.int .i64 x8.un.1, Value.int .i64 x8.un.2.1.un.1, Value.int .i64 x8.un.2.1.un.2.1, Value.int .i64 x8.un.2.1.un.2.2.1, v17, Value.int .i64 x8.un.2.2.1, Value.int .i64 x8.un.2.2.2.1, v18], _, Aa, (HA.2 ⟨[Value.int .i64 x8.un.1], [Value.int .i64 x8.un.2.1.un.1, Value.int .i64 x8.un.2.1.un.2.1, Value.int .i64 x8.un.2.1.un.2.2.1, v17, Value.int .i64 x8.un.2.2.1, Value.int .i64 x8.un.2.2.2.1, v18], Aa, Aa, ⟨[Value.int .i64 x8.un.2.1.un.1, Value.int .i64 x8.un.2.1.un.2.1, Value.int .i64 x8.un.2.1.un.2.2.1, v17], [Value.int .i64 x8.un.2.2.1, Value.int .i64 x8.un.2.2.2.1, v18], Aa, (Hi.2 ⟨[Value.int .i64 x8.un.2.1.un.1], [Value.int .i64 x8.un.2.1.un.2.1, Value.int .i64 x8.un.2.1.un.2.2.1, v17], Aa, Aa, ⟨[Value.int .i64 x8.un.2.1.un.2.1], [Value.int .i64 x8.un.2.1.un.2.2.1, v17], Aa, Aa, ⟨[Value.int .i64 x8.un.2.1.un.2.2.1], [v17], Aa, Aa, ⟨_, Aa, (F.item (i := 3) Aa)⟩⟩⟩⟩), ⟨[Value.int .i64 x8.un.2.2.1], [Value.int .i64 x8.un.2.2.2.1, v18], Aa, Aa, ⟨[Value.int .i64 x8.un.2.2.2.1], [v18], Aa, Aa, ⟨_, Aa, (F.item (i := 2) Aa)⟩⟩⟩⟩⟩), ⟨[Value.int .i64 x7.un.1, Value.int .i64 x7.un.2.1.un.1, Value.int .i64 x7.un.2.1.un.2.1, Value.int .i64 x7.un.2.1.un.2.2.1, v15, Value.int .i64 x7.un.2.2.1, Value.int .i64 x7.un.2.2.2.1, v16], _, Aa, (HA.2 ⟨[Value.int .i64 x7.un.1], [Value.int .i64 x7.un.2.1.un.1, Value.int .i64 x7.un.2.1.un.2.1, Value.int .i64 x7.un.2.1.un.2.2.1, v15, Value.int .i64 x7.un.2.2.1, Value.int .i64 x7.un.2.2.2.1, v16], Aa, Aa, ⟨[Value.int .i64 x7.un.2.1.un.1, Value.int .i64 x7.un.2.1.un.2.1, Value.int .i64 x7.un.2.1.un.2.2.1, v15], [Value.int .i64 x7.un.2.2.1, Value.int .i64 x7.un.2.2.2.1, v16], Aa, (Hi.2 ⟨[Value.int .i64 x7.un.2.1.un.1], [Value.int .i64 x7.un.2.1.un.2.1, Value.int .i64 x7.un.2.1.un.2.2.1, v15], Aa, Aa, ⟨[Value.int .i64 x7.un.2.1.un.2.1], [Value.int .i64 x7.un.2.1.un.2.2.1, v15], Aa, Aa, ⟨[Value.int .i64 x7.un.2.1.un.2.2.1], [v15], Aa, Aa, ⟨_, Aa, (F.item (i := 7) Aa)⟩⟩⟩⟩), ⟨[Value.int .i64 x7.un.2.2.1], [Value.int .i64 x7.un.2.2.2.1, v16], Aa, Aa, ⟨[Value.int .i64 x7.un.2.2.2.1], [v16], Aa, Aa, ⟨_, Aa, (F.item (i := 6) Aa)⟩⟩⟩⟩⟩), ⟨[Value.int .i64 x8.un.1, Value.int .i64 x8.un.2.1.un.1, Value.int .i64 x8.un.2.1.un.2.1, Value.int .i64 x8.un.2.1.un.2.2.1, v17, Value.int .i64 x8.un.2.2.1, Value.int .i64 x8.un.2.2.2.1, v18], _, Aa, (HA.2 ⟨[Value.int .i64 x8.un.1], [Value.int .i64 x8.un.2.1.un.1, Value.int .i64 x8.un.2.1.un.2.1, Value.int .i64 x8.un.2.1.un.2.2.1, v17, Value.int .i64 x8.un.2.2.1, Value.int .i64 x8.un.2.2.2.1, v18], Aa, Aa, ⟨[Value.int .i64 x8.un.2.1.un.1, Value.int .i64 x8.un.2.1.un.2.1, Value.int .i64 x8.un.2.1.un.2.2.1, v17], [Value.int .i64 x8.un.2.2.1, Value.int .i64 x8.un.2.2.2.1, v18], Aa, (Hi.2 ⟨[Value.int .i64 x8.un.2.1.un.1], [Value.int .i64 x8.un.2.1.un.2.1, Value.int .i64 x8.un.2.1.un.2.2.1, v17], Aa, Aa, ⟨[Value.int .i64 x8.un.2.1.un.2.1], [Value.int .i64 x8.un.2.1.un.2.2.1, v17], Aa, Aa, ⟨[Value.int .i64 x8.un.2.1.un.2.2.1], [v17], Aa, Aa, ⟨_, Aa, (F.item (i := 3) Aa)⟩⟩⟩⟩), ⟨[Value.int .i64 x8.un.2.2.1], [Value.int .i64 x8.un.2.2.2.1, v18], Aa, Aa, ⟨[Value.int .i64 x8.un.2.2.2.1], [v18], Aa, Aa, ⟨_, Aa, (F.item (i := 2) Aa)⟩⟩⟩⟩⟩), Aa⟩⟩⟩ fun v26 a w K F => ?_
 refine ls K F Aa (CM (v := Value.agg #[.int .i64 4, .int .i64 0, .int .i64 0, .int .i64 0, .slice none 0 0, .int .i64 0, .int .i64 0, v26]) Rj K Aa (A9 Aa Aa Aa (A9 Aa (DG (F.one (k := 0) Aa)) Aa Dc)) Aa).q fun a w K F => ?_
 have F := F.frontZ (i := 1) Aa Aa
 have F := F.freeze
 have F := F.frontZ (i := 1) Aa Aa
 have F := F.freeze
 refine Gs (z := Value.agg #[.int .i64 0, .int .i64 0, .int .i64 0, .int .i64 0, .slice none 0 0, .int .i64 0, .int .i64 0, .slice none 0 0]) (cs := [.int .i64 4, .int .i64 0, .int .i64 0, .int .i64 0, .slice none 0 0, .int .i64 0, .int .i64 0, v25, .int .i64 4, .int .i64 0, .int .i64 0, .int .i64 0, .slice none 0 0, .int .i64 0, .int .i64 0, v26]) Bl ([Tr37.of (4, Tr34.of (0, 0, 0, ([] : List Tr34)), 0, 0, ([(BC x7), (BC x8)] : List Tr37)), Tr37.of (4, Tr34.of (0, 0, 0, ([] : List Tr34)), 0, 0, ([(BC x8), (BC x7), (BC x8)] : List Tr37))] : List Tr37) K F Aa NC Fx Aa Aa Aa (by kernel_rfl) Aa Aa ⟨[Value.int .i64 4, Value.int .i64 0, Value.int .i64 0, Value.int .i64 0, Value.slice none 0 0, Value.int .i64 0, Value.int .i64 0, v25], _, Aa, (HA.2 ⟨[Value.int .i64 4], [Value.int .i64 0, Value.int .i64 0, Value.int .i64 0, Value.slice none 0 0, Value.int .i64 0, Value.int .i64 0, v25], Aa, Aa, ⟨[Value.int .i64 0, Value.int .i64 0, Value.int .i64 0, Value.slice none 0 0], [Value.int .i64 0, Value.int .i64 0, v25], Aa, (Hi.2 ⟨[Value.int .i64 0], [Value.int .i64 0, Value.int .i64 0, Value.slice none 0 0], Aa, Aa, ⟨[Value.int .i64 0], [Value.int .i64 0, Value.slice none 0 0], Aa, Aa, ⟨[Value.int .i64 0], [Value.slice none 0 0], Aa, Aa, ⟨_, Aa, (Sl.nil (r := Bj))⟩⟩⟩⟩), ⟨[Value.int .i64 0], [Value.int .i64 0, v25], Aa, Aa, ⟨[Value.int .i64 0], [v25], Aa, Aa, ⟨_, Aa, (F.item (i := 1) Aa)⟩⟩⟩⟩⟩), ⟨[Value.int .i64 4, Value.int .i64 0, Value.int .i64 0, Value.int .i64 0, Value.slice none 0 0, Value.int .i64 0, Value.int .i64 0, v26], _, Aa, (HA.2 ⟨[Value.int .i64 4], [Value.int .i64 0, Value.int .i64 0, Value.int .i64 0, Value.slice none 0 0, Value.int .i64 0, Value.int .i64 0, v26], Aa, Aa, ⟨[Value.int .i64 0, Value.int .i64 0, Value.int .i64 0, Value.slice none 0 0], [Value.int .i64 0, Value.int .i64 0, v26], Aa, (Hi.2 ⟨[Value.int .i64 0], [Value.int .i64 0, Value.int .i64 0, Value.slice none 0 0], Aa, Aa, ⟨[Value.int .i64 0], [Value.int .i64 0, Value.slice none 0 0], Aa, Aa, ⟨[Value.int .i64 0], [Value.slice none 0 0], Aa, Aa, ⟨_, Aa, (Sl.nil (r := Bj))⟩⟩⟩⟩), ⟨[Value.int .i64 0], [Value.int .i64 0, v26], Aa, Aa, ⟨[Value.int .i64 0], [v26], Aa, Aa, ⟨_, Aa, (F.item (i := 0) Aa)⟩⟩⟩⟩⟩), Aa⟩⟩ fun v27 a w K F => ?_
 refine Hw tk 3 [5, 4, 3] K F (ai (ai (ai fun a w K F => ?_)))
 have F := F.frontZ (i := 11) Aa Aa
 have F := F.freeze
 have F := F.frontZ (i := 12) Aa Aa
 have F := F.freeze
 refine Gs (z := Value.agg #[.int .i64 0, .int .i64 0, .int .i64 0, .int .i64 0, .slice none 0 0, .int .i64 0, .int .i64 0, .slice none 0 0]) (cs := [.int .i64 x7.un.1, .int .i64 x7.un.2.1.un.1, .int .i64 x7.un.2.1.un.2.1, .int .i64 x7.un.2.1.un.2.2.1, v15, .int .i64 x7.un.2.2.1, .int .i64 x7.un.2.2.2.1, v16, .int .i64 x8.un.1, .int .i64 x8.un.2.1.un.1, .int .i64 x8.un.2.1.un.2.1, .int .i64 x8.un.2.1.un.2.2.1, v17, .int .i64 x8.un.2.2.1, .int .i64 x8.un.2.2.2.1, v18, .int .i64 x9.un.1, .int .i64 x9.un.2.1.un.1, .int .i64 x9.un.2.1.un.2.1, .int .i64 x9.un.2.1.un.2.2.1, v19, .int .i64 x9.un.2.2.1, .int .i64 x9.un.2.2.2.1, v20]) Bl ([(BC x7), (BC x8), (BC x9)] : List Tr37) K F Aa NC Fx Aa Aa Aa (by kernel_rfl) Aa Aa ⟨[Value.int .i64 x7.un.1, Value.int .i64 x7.un.2.1.un.1, Value.int .i64 x7.un.2.1.un.2.1, Value.int .i64 x7.un.2.1.un.2.2.1, v15, Value.int .i64 x7.un.2.2.1, Value.int .i64 x7.un.2.2.2.1, v16], _, Aa, (HA.2 ⟨[Value.int .i64 x7.un.1], [Value.int .i64 x7.un.2.1.un.1, Value.int .i64 x7.un.2.1.un.2.1, Value.int .i64 x7.un.2.1.un.2.2.1, v15, Value.int .i64 x7.un.2.2.1, Value.int .i64 x7.un.2.2.2.1, v16], Aa, Aa, ⟨[Value.int .i64 x7.un.2.1.un.1, Value.int .i64 x7.un.2.1.un.2.1, Value.int .i64 x7.un.2.1.un.2.2.1, v15], [Value.int .i64 x7.un.2.2.1, Value.int .i64 x7.un.2.2.2.1, v16], Aa, (Hi.2 ⟨[Value.int .i64 x7.un.2.1.un.1], [Value.int .i64 x7.un.2.1.un.2.1, Value.int .i64 x7.un.2.1.un.2.2.1, v15], Aa, Aa, ⟨[Value.int .i64 x7.un.2.1.un.2.1], [Value.int .i64 x7.un.2.1.un.2.2.1, v15], Aa, Aa, ⟨[Value.int .i64 x7.un.2.1.un.2.2.1], [v15], Aa, Aa, ⟨_, Aa, (F.item (i := 11) Aa)⟩⟩⟩⟩), ⟨[Value.int .i64 x7.un.2.2.1], [Value.int .i64 x7.un.2.2.2.1, v16], Aa, Aa, ⟨[Value.int .i64 x7.un.2.2.2.1], [v16], Aa, Aa, ⟨_, Aa, (F.item (i := 10) Aa)⟩⟩⟩⟩⟩), ⟨[Value.int .i64 x8.un.1, Value.int .i64 x8.un.2.1.un.1, Value.int .i64 x8.un.2.1.un.2.1, Value.int .i64 x8.un.2.1.un.2.2.1, v17, Value.int .i64 x8.un.2.2.1, Value.int .i64 x8.un.2.2.2.1, v18], _, Aa, (HA.2 ⟨[Value.int .i64 x8.un.1], [Value.int .i64 x8.un.2.1.un.1, Value.int .i64 x8.un.2.1.un.2.1, Value.int .i64 x8.un.2.1.un.2.2.1, v17, Value.int .i64 x8.un.2.2.1, Value.int .i64 x8.un.2.2.2.1, v18], Aa, Aa, ⟨[Value.int .i64 x8.un.2.1.un.1, Value.int .i64 x8.un.2.1.un.2.1, Value.int .i64 x8.un.2.1.un.2.2.1, v17], [Value.int .i64 x8.un.2.2.1, Value.int .i64 x8.un.2.2.2.1, v18], Aa, (Hi.2 ⟨[Value.int .i64 x8.un.2.1.un.1], [Value.int .i64 x8.un.2.1.un.2.1, Value.int .i64 x8.un.2.1.un.2.2.1, v17], Aa, Aa, ⟨[Value.int .i64 x8.un.2.1.un.2.1], [Value.int .i64 x8.un.2.1.un.2.2.1, v17], Aa, Aa, ⟨[Value.int .i64 x8.un.2.1.un.2.2.1], [v17], Aa, Aa, ⟨_, Aa, (F.item (i := 7) Aa)⟩⟩⟩⟩), ⟨[Value.int .i64 x8.un.2.2.1], [Value.int .i64 x8.un.2.2.2.1, v18], Aa, Aa, ⟨[Value.int .i64 x8.un.2.2.2.1], [v18], Aa, Aa, ⟨_, Aa, (F.item (i := 6) Aa)⟩⟩⟩⟩⟩), ⟨[Value.int .i64 x9.un.1, Value.int .i64 x9.un.2.1.un.1, Value.int .i64 x9.un.2.1.un.2.1, Value.int .i64 x9.un.2.1.un.2.2.1, v19, Value.int .i64 x9.un.2.2.1, Value.int .i64 x9.un.2.2.2.1, v20], _, Aa, (HA.2 ⟨[Value.int .i64 x9.un.1], [Value.int .i64 x9.un.2.1.un.1, Value.int .i64 x9.un.2.1.un.2.1, Value.int .i64 x9.un.2.1.un.2.2.1, v19, Value.int .i64 x9.un.2.2.1, Value.int .i64 x9.un.2.2.2.1, v20], Aa, Aa, ⟨[Value.int .i64 x9.un.2.1.un.1, Value.int .i64 x9.un.2.1.un.2.1, Value.int .i64 x9.un.2.1.un.2.2.1, v19], [Value.int .i64 x9.un.2.2.1, Value.int .i64 x9.un.2.2.2.1, v20], Aa, (Hi.2 ⟨[Value.int .i64 x9.un.2.1.un.1], [Value.int .i64 x9.un.2.1.un.2.1, Value.int .i64 x9.un.2.1.un.2.2.1, v19], Aa, Aa, ⟨[Value.int .i64 x9.un.2.1.un.2.1], [Value.int .i64 x9.un.2.1.un.2.2.1, v19], Aa, Aa, ⟨[Value.int .i64 x9.un.2.1.un.2.2.1], [v19], Aa, Aa, ⟨_, Aa, (F.item (i := 1) Aa)⟩⟩⟩⟩), ⟨[Value.int .i64 x9.un.2.2.1], [Value.int .i64 x9.un.2.2.2.1, v20], Aa, Aa, ⟨[Value.int .i64 x9.un.2.2.2.1], [v20], Aa, Aa, ⟨_, Aa, (F.item (i := 0) Aa)⟩⟩⟩⟩⟩), Aa⟩⟩⟩ fun v28 a w K F => ?_
 refine ls K F Aa (CM (v := Value.agg #[.int .i64 3, .int .i64 0, .int .i64 0, .int .i64 0, .slice none 0 0, .int .i64 0, .int .i64 0, v28]) Rj K Aa (A9 Aa Aa Aa (A9 Aa (DG (F.one (k := 0) Aa)) Aa Dc)) Aa).q fun a w K F => ?_
 refine Hw tk 3 [5, 4, 3] K F (ai (ai (ai fun a w K F => ?_)))
 refine Gs (z := Value.agg #[.int .i64 0, .int .i64 0, .int .i64 0, .int .i64 0, .slice none 0 0, .int .i64 0, .int .i64 0, .slice none 0 0]) (cs := (TF x8 v17 v18 x9 v19 v20)) Bl ([(BC x8), (BC x9)] : List Tr37) K F Aa NC Fx Aa Aa Aa (by kernel_rfl) Aa Aa ⟨[Value.int .i64 x8.un.1, Value.int .i64 x8.un.2.1.un.1, Value.int .i64 x8.un.2.1.un.2.1, Value.int .i64 x8.un.2.1.un.2.2.1, v17, Value.int .i64 x8.un.2.2.1, Value.int .i64 x8.un.2.2.2.1, v18], _, Aa, (HA.2 ⟨[Value.int .i64 x8.un.1], [Value.int .i64 x8.un.2.1.un.1, Value.int .i64 x8.un.2.1.un.2.1, Value.int .i64 x8.un.2.1.un.2.2.1, v17, Value.int .i64 x8.un.2.2.1, Value.int .i64 x8.un.2.2.2.1, v18], Aa, Aa, ⟨[Value.int .i64 x8.un.2.1.un.1, Value.int .i64 x8.un.2.1.un.2.1, Value.int .i64 x8.un.2.1.un.2.2.1, v17], [Value.int .i64 x8.un.2.2.1, Value.int .i64 x8.un.2.2.2.1, v18], Aa, (Hi.2 ⟨[Value.int .i64 x8.un.2.1.un.1], [Value.int .i64 x8.un.2.1.un.2.1, Value.int .i64 x8.un.2.1.un.2.2.1, v17], Aa, Aa, ⟨[Value.int .i64 x8.un.2.1.un.2.1], [Value.int .i64 x8.un.2.1.un.2.2.1, v17], Aa, Aa, ⟨[Value.int .i64 x8.un.2.1.un.2.2.1], [v17], Aa, Aa, ⟨_, Aa, (F.item (i := 8) Aa)⟩⟩⟩⟩), ⟨[Value.int .i64 x8.un.2.2.1], [Value.int .i64 x8.un.2.2.2.1, v18], Aa, Aa, ⟨[Value.int .i64 x8.un.2.2.2.1], [v18], Aa, Aa, ⟨_, Aa, (F.item (i := 7) Aa)⟩⟩⟩⟩⟩), ⟨[Value.int .i64 x9.un.1, Value.int .i64 x9.un.2.1.un.1, Value.int .i64 x9.un.2.1.un.2.1, Value.int .i64 x9.un.2.1.un.2.2.1, v19, Value.int .i64 x9.un.2.2.1, Value.int .i64 x9.un.2.2.2.1, v20], _, Aa, (HA.2 ⟨[Value.int .i64 x9.un.1], [Value.int .i64 x9.un.2.1.un.1, Value.int .i64 x9.un.2.1.un.2.1, Value.int .i64 x9.un.2.1.un.2.2.1, v19, Value.int .i64 x9.un.2.2.1, Value.int .i64 x9.un.2.2.2.1, v20], Aa, Aa, ⟨[Value.int .i64 x9.un.2.1.un.1, Value.int .i64 x9.un.2.1.un.2.1, Value.int .i64 x9.un.2.1.un.2.2.1, v19], [Value.int .i64 x9.un.2.2.1, Value.int .i64 x9.un.2.2.2.1, v20], Aa, (Hi.2 ⟨[Value.int .i64 x9.un.2.1.un.1], [Value.int .i64 x9.un.2.1.un.2.1, Value.int .i64 x9.un.2.1.un.2.2.1, v19], Aa, Aa, ⟨[Value.int .i64 x9.un.2.1.un.2.1], [Value.int .i64 x9.un.2.1.un.2.2.1, v19], Aa, Aa, ⟨[Value.int .i64 x9.un.2.1.un.2.2.1], [v19], Aa, Aa, ⟨_, Aa, (F.item (i := 2) Aa)⟩⟩⟩⟩), ⟨[Value.int .i64 x9.un.2.2.1], [Value.int .i64 x9.un.2.2.2.1, v20], Aa, Aa, ⟨[Value.int .i64 x9.un.2.2.2.1], [v20], Aa, Aa, ⟨_, Aa, (F.item (i := 1) Aa)⟩⟩⟩⟩⟩), Aa⟩⟩ fun v29 a w K F => ?_
 refine ls K F Aa (CM (v := Value.agg #[.int .i64 3, .int .i64 0, .int .i64 0, .int .i64 0, .slice none 0 0, .int .i64 0, .int .i64 0, v29]) Rj K Aa (A9 Aa Aa Aa (A9 Aa (DG (F.one (k := 0) Aa)) Aa Dc)) Aa).q fun a w K F => ?_
 have F := F.freeze
 refine Gs (z := Value.agg #[.int .i64 0, .int .i64 0, .int .i64 0, .int .i64 0, .slice none 0 0, .int .i64 0, .int .i64 0, .slice none 0 0]) (cs := [.int .i64 x7.un.1, .int .i64 x7.un.2.1.un.1, .int .i64 x7.un.2.1.un.2.1, .int .i64 x7.un.2.1.un.2.2.1, v15, .int .i64 x7.un.2.2.1, .int .i64 x7.un.2.2.2.1, v16, .int .i64 3, .int .i64 0, .int .i64 0, .int .i64 0, .slice none 0 0, .int .i64 0, .int .i64 0, v29]) Bl ([(BC x7), Tr37.of (3, Tr34.of (0, 0, 0, ([] : List Tr34)), 0, 0, ([(BC x8), (BC x9)] : List Tr37))] : List Tr37) K F Aa NC Fx Aa Aa Aa (by kernel_rfl) Aa Aa ⟨[Value.int .i64 x7.un.1, Value.int .i64 x7.un.2.1.un.1, Value.int .i64 x7.un.2.1.un.2.1, Value.int .i64 x7.un.2.1.un.2.2.1, v15, Value.int .i64 x7.un.2.2.1, Value.int .i64 x7.un.2.2.2.1, v16], _, Aa, (HA.2 ⟨[Value.int .i64 x7.un.1], [Value.int .i64 x7.un.2.1.un.1, Value.int .i64 x7.un.2.1.un.2.1, Value.int .i64 x7.un.2.1.un.2.2.1, v15, Value.int .i64 x7.un.2.2.1, Value.int .i64 x7.un.2.2.2.1, v16], Aa, Aa, ⟨[Value.int .i64 x7.un.2.1.un.1, Value.int .i64 x7.un.2.1.un.2.1, Value.int .i64 x7.un.2.1.un.2.2.1, v15], [Value.int .i64 x7.un.2.2.1, Value.int .i64 x7.un.2.2.2.1, v16], Aa, (Hi.2 ⟨[Value.int .i64 x7.un.2.1.un.1], [Value.int .i64 x7.un.2.1.un.2.1, Value.int .i64 x7.un.2.1.un.2.2.1, v15], Aa, Aa, ⟨[Value.int .i64 x7.un.2.1.un.2.1], [Value.int .i64 x7.un.2.1.un.2.2.1, v15], Aa, Aa, ⟨[Value.int .i64 x7.un.2.1.un.2.2.1], [v15], Aa, Aa, ⟨_, Aa, (F.item (i := 13) Aa)⟩⟩⟩⟩), ⟨[Value.int .i64 x7.un.2.2.1], [Value.int .i64 x7.un.2.2.2.1, v16], Aa, Aa, ⟨[Value.int .i64 x7.un.2.2.2.1], [v16], Aa, Aa, ⟨_, Aa, (F.item (i := 12) Aa)⟩⟩⟩⟩⟩), ⟨[Value.int .i64 3, Value.int .i64 0, Value.int .i64 0, Value.int .i64 0, Value.slice none 0 0, Value.int .i64 0, Value.int .i64 0, v29], _, Aa, (HA.2 ⟨[Value.int .i64 3], [Value.int .i64 0, Value.int .i64 0, Value.int .i64 0, Value.slice none 0 0, Value.int .i64 0, Value.int .i64 0, v29], Aa, Aa, ⟨[Value.int .i64 0, Value.int .i64 0, Value.int .i64 0, Value.slice none 0 0], [Value.int .i64 0, Value.int .i64 0, v29], Aa, (Hi.2 ⟨[Value.int .i64 0], [Value.int .i64 0, Value.int .i64 0, Value.slice none 0 0], Aa, Aa, ⟨[Value.int .i64 0], [Value.int .i64 0, Value.slice none 0 0], Aa, Aa, ⟨[Value.int .i64 0], [Value.slice none 0 0], Aa, Aa, ⟨_, Aa, (Sl.nil (r := Bj))⟩⟩⟩⟩), ⟨[Value.int .i64 0], [Value.int .i64 0, v29], Aa, Aa, ⟨[Value.int .i64 0], [v29], Aa, Aa, ⟨_, Aa, (F.item (i := 0) Aa)⟩⟩⟩⟩⟩), Aa⟩⟩ fun v30 a w K F => ?_
 refine ls K F Aa (CM (v := Value.agg #[.int .i64 3, .int .i64 0, .int .i64 0, .int .i64 0, .slice none 0 0, .int .i64 0, .int .i64 0, v30]) Rj K Aa (A9 Aa Aa Aa (A9 Aa (DG (F.one (k := 0) Aa)) Aa Dc)) Aa).q fun a w K F => ?_
 have F := F.frontZ (i := 2) Aa Aa
 have F := F.freeze
 have F := F.frontZ (i := 1) Aa Aa
 have F := F.freeze
 refine Gs (z := Value.agg #[.int .i64 0, .int .i64 0, .int .i64 0, .int .i64 0, .slice none 0 0, .int .i64 0, .int .i64 0, .slice none 0 0]) (cs := (Vm v28 v30)) Bl ([Tr37.of (3, Tr34.of (0, 0, 0, ([] : List Tr34)), 0, 0, ([(BC x7), (BC x8), (BC x9)] : List Tr37)), Tr37.of (3, Tr34.of (0, 0, 0, ([] : List Tr34)), 0, 0, ([(BC x7), Tr37.of (3, Tr34.of (0, 0, 0, ([] : List Tr34)), 0, 0, ([(BC x8), (BC x9)] : List Tr37))] : List Tr37))] : List Tr37) K F Aa NC Fx Aa Aa Aa (by kernel_rfl) Aa Aa ⟨[Value.int .i64 3, Value.int .i64 0, Value.int .i64 0, Value.int .i64 0, Value.slice none 0 0, Value.int .i64 0, Value.int .i64 0, v28], _, Aa, (HA.2 ⟨[Value.int .i64 3], [Value.int .i64 0, Value.int .i64 0, Value.int .i64 0, Value.slice none 0 0, Value.int .i64 0, Value.int .i64 0, v28], Aa, Aa, ⟨[Value.int .i64 0, Value.int .i64 0, Value.int .i64 0, Value.slice none 0 0], [Value.int .i64 0, Value.int .i64 0, v28], Aa, (Hi.2 ⟨[Value.int .i64 0], [Value.int .i64 0, Value.int .i64 0, Value.slice none 0 0], Aa, Aa, ⟨[Value.int .i64 0], [Value.int .i64 0, Value.slice none 0 0], Aa, Aa, ⟨[Value.int .i64 0], [Value.slice none 0 0], Aa, Aa, ⟨_, Aa, (Sl.nil (r := Bj))⟩⟩⟩⟩), ⟨[Value.int .i64 0], [Value.int .i64 0, v28], Aa, Aa, ⟨[Value.int .i64 0], [v28], Aa, Aa, ⟨_, Aa, (F.item (i := 1) Aa)⟩⟩⟩⟩⟩), ⟨[Value.int .i64 3, Value.int .i64 0, Value.int .i64 0, Value.int .i64 0, Value.slice none 0 0, Value.int .i64 0, Value.int .i64 0, v30], _, Aa, (HA.2 ⟨[Value.int .i64 3], [Value.int .i64 0, Value.int .i64 0, Value.int .i64 0, Value.slice none 0 0, Value.int .i64 0, Value.int .i64 0, v30], Aa, Aa, ⟨[Value.int .i64 0, Value.int .i64 0, Value.int .i64 0, Value.slice none 0 0], [Value.int .i64 0, Value.int .i64 0, v30], Aa, (Hi.2 ⟨[Value.int .i64 0], [Value.int .i64 0, Value.int .i64 0, Value.slice none 0 0], Aa, Aa, ⟨[Value.int .i64 0], [Value.int .i64 0, Value.slice none 0 0], Aa, Aa, ⟨[Value.int .i64 0], [Value.slice none 0 0], Aa, Aa, ⟨_, Aa, (Sl.nil (r := Bj))⟩⟩⟩⟩), ⟨[Value.int .i64 0], [Value.int .i64 0, v30], Aa, Aa, ⟨[Value.int .i64 0], [v30], Aa, Aa, ⟨_, Aa, (F.item (i := 0) Aa)⟩⟩⟩⟩⟩), Aa⟩⟩ fun v31 a w K F => ?_
 refine Hw tk 3 [2, 5, 4] K F (ai (ai (ai fun a w K F => ?_)))
 refine Gs (z := Value.agg #[.int .i64 0, .int .i64 0, .int .i64 0, .int .i64 0, .slice none 0 0, .int .i64 0, .int .i64 0, .slice none 0 0]) (cs := (TF x7 v15 v16 x8 v17 v18)) Bl ([(BC x7), (BC x8)] : List Tr37) K F Aa NC Fx Aa Aa Aa (by kernel_rfl) Aa Aa ⟨[Value.int .i64 x7.un.1, Value.int .i64 x7.un.2.1.un.1, Value.int .i64 x7.un.2.1.un.2.1, Value.int .i64 x7.un.2.1.un.2.2.1, v15, Value.int .i64 x7.un.2.2.1, Value.int .i64 x7.un.2.2.2.1, v16], _, Aa, (HA.2 ⟨[Value.int .i64 x7.un.1], [Value.int .i64 x7.un.2.1.un.1, Value.int .i64 x7.un.2.1.un.2.1, Value.int .i64 x7.un.2.1.un.2.2.1, v15, Value.int .i64 x7.un.2.2.1, Value.int .i64 x7.un.2.2.2.1, v16], Aa, Aa, ⟨[Value.int .i64 x7.un.2.1.un.1, Value.int .i64 x7.un.2.1.un.2.1, Value.int .i64 x7.un.2.1.un.2.2.1, v15], [Value.int .i64 x7.un.2.2.1, Value.int .i64 x7.un.2.2.2.1, v16], Aa, (Hi.2 ⟨[Value.int .i64 x7.un.2.1.un.1], [Value.int .i64 x7.un.2.1.un.2.1, Value.int .i64 x7.un.2.1.un.2.2.1, v15], Aa, Aa, ⟨[Value.int .i64 x7.un.2.1.un.2.1], [Value.int .i64 x7.un.2.1.un.2.2.1, v15], Aa, Aa, ⟨[Value.int .i64 x7.un.2.1.un.2.2.1], [v15], Aa, Aa, ⟨_, Aa, (F.item (i := 15) Aa)⟩⟩⟩⟩), ⟨[Value.int .i64 x7.un.2.2.1], [Value.int .i64 x7.un.2.2.2.1, v16], Aa, Aa, ⟨[Value.int .i64 x7.un.2.2.2.1], [v16], Aa, Aa, ⟨_, Aa, (F.item (i := 14) Aa)⟩⟩⟩⟩⟩), ⟨[Value.int .i64 x8.un.1, Value.int .i64 x8.un.2.1.un.1, Value.int .i64 x8.un.2.1.un.2.1, Value.int .i64 x8.un.2.1.un.2.2.1, v17, Value.int .i64 x8.un.2.2.1, Value.int .i64 x8.un.2.2.2.1, v18], _, Aa, (HA.2 ⟨[Value.int .i64 x8.un.1], [Value.int .i64 x8.un.2.1.un.1, Value.int .i64 x8.un.2.1.un.2.1, Value.int .i64 x8.un.2.1.un.2.2.1, v17, Value.int .i64 x8.un.2.2.1, Value.int .i64 x8.un.2.2.2.1, v18], Aa, Aa, ⟨[Value.int .i64 x8.un.2.1.un.1, Value.int .i64 x8.un.2.1.un.2.1, Value.int .i64 x8.un.2.1.un.2.2.1, v17], [Value.int .i64 x8.un.2.2.1, Value.int .i64 x8.un.2.2.2.1, v18], Aa, (Hi.2 ⟨[Value.int .i64 x8.un.2.1.un.1], [Value.int .i64 x8.un.2.1.un.2.1, Value.int .i64 x8.un.2.1.un.2.2.1, v17], Aa, Aa, ⟨[Value.int .i64 x8.un.2.1.un.2.1], [Value.int .i64 x8.un.2.1.un.2.2.1, v17], Aa, Aa, ⟨[Value.int .i64 x8.un.2.1.un.2.2.1], [v17], Aa, Aa, ⟨_, Aa, (F.item (i := 11) Aa)⟩⟩⟩⟩), ⟨[Value.int .i64 x8.un.2.2.1], [Value.int .i64 x8.un.2.2.2.1, v18], Aa, Aa, ⟨[Value.int .i64 x8.un.2.2.2.1], [v18], Aa, Aa, ⟨_, Aa, (F.item (i := 10) Aa)⟩⟩⟩⟩⟩), Aa⟩⟩ fun v32 a w K F => ?_
 refine ls K F Aa (CM (v := Value.agg #[.int .i64 5, .int .i64 x10.un.1, .int .i64 x10.un.2.1, .int .i64 x10.un.2.2.1, v21, .int .i64 0, .int .i64 0, v32]) Rj K Aa (A9 Aa Aa Aa (A9 Aa Aa Aa (A9 Aa (DG (F.one (k := 0) Aa)) Aa Dc))) Aa).q fun a w K F => ?_
 refine Hw tk 2 [1, 0] K F (ai (ai fun a w K F => ?_))
 have F := F.frontZ (i := 14) Aa Aa
 have F := F.freeze
 have F := F.frontZ (i := 11) Aa Aa
 have F := F.freeze
 refine Gs (z := Value.agg #[.int .i64 0, .int .i64 0, .int .i64 0, .int .i64 0, .slice none 0 0, .int .i64 0, .int .i64 0, .slice none 0 0]) (cs := (Vm v22 v24)) Bl ([Tr37.of (3, Tr34.of (0, 0, 0, ([] : List Tr34)), 0, 0, ([Tr37.of (1, x10, 0, 0, ([] : List Tr37)), (BC x7)] : List Tr37)), Tr37.of (3, Tr34.of (0, 0, 0, ([] : List Tr34)), 0, 0, ([Tr37.of (1, Tr34.of (4, 0, 0, ([x10] : List Tr34)), 0, 0, ([] : List Tr37)), (BC x8)] : List Tr37))] : List Tr37) K F Aa NC Fx Aa Aa Aa (by kernel_rfl) Aa Aa ⟨[Value.int .i64 3, Value.int .i64 0, Value.int .i64 0, Value.int .i64 0, Value.slice none 0 0, Value.int .i64 0, Value.int .i64 0, v22], _, Aa, (HA.2 ⟨[Value.int .i64 3], [Value.int .i64 0, Value.int .i64 0, Value.int .i64 0, Value.slice none 0 0, Value.int .i64 0, Value.int .i64 0, v22], Aa, Aa, ⟨[Value.int .i64 0, Value.int .i64 0, Value.int .i64 0, Value.slice none 0 0], [Value.int .i64 0, Value.int .i64 0, v22], Aa, (Hi.2 ⟨[Value.int .i64 0], [Value.int .i64 0, Value.int .i64 0, Value.slice none 0 0], Aa, Aa, ⟨[Value.int .i64 0], [Value.int .i64 0, Value.slice none 0 0], Aa, Aa, ⟨[Value.int .i64 0], [Value.slice none 0 0], Aa, Aa, ⟨_, Aa, (Sl.nil (r := Bj))⟩⟩⟩⟩), ⟨[Value.int .i64 0], [Value.int .i64 0, v22], Aa, Aa, ⟨[Value.int .i64 0], [v22], Aa, Aa, ⟨_, Aa, (F.item (i := 1) Aa)⟩⟩⟩⟩⟩), ⟨[Value.int .i64 3, Value.int .i64 0, Value.int .i64 0, Value.int .i64 0, Value.slice none 0 0, Value.int .i64 0, Value.int .i64 0, v24], _, Aa, (HA.2 ⟨[Value.int .i64 3], [Value.int .i64 0, Value.int .i64 0, Value.int .i64 0, Value.slice none 0 0, Value.int .i64 0, Value.int .i64 0, v24], Aa, Aa, ⟨[Value.int .i64 0, Value.int .i64 0, Value.int .i64 0, Value.slice none 0 0], [Value.int .i64 0, Value.int .i64 0, v24], Aa, (Hi.2 ⟨[Value.int .i64 0], [Value.int .i64 0, Value.int .i64 0, Value.slice none 0 0], Aa, Aa, ⟨[Value.int .i64 0], [Value.int .i64 0, Value.slice none 0 0], Aa, Aa, ⟨[Value.int .i64 0], [Value.slice none 0 0], Aa, Aa, ⟨_, Aa, (Sl.nil (r := Bj))⟩⟩⟩⟩), ⟨[Value.int .i64 0], [Value.int .i64 0, v24], Aa, Aa, ⟨[Value.int .i64 0], [v24], Aa, Aa, ⟨_, Aa, (F.item (i := 0) Aa)⟩⟩⟩⟩⟩), Aa⟩⟩ fun v33 a w K F => ?_
 refine ls K F Aa (CM (v := Value.agg #[.int .i64 4, .int .i64 0, .int .i64 0, .int .i64 0, .slice none 0 0, .int .i64 0, .int .i64 0, v33]) Rj K Aa (A9 Aa Aa Aa (A9 Aa (DG (F.one (k := 0) Aa)) Aa Dc)) Aa).q fun a w K F => ?_
 have F := F.frontZ (i := 3) Aa Aa
 have F := F.freeze
 have F := F.frontZ (i := 1) Aa Aa
 have F := F.freeze
 refine Gs (z := Value.agg #[.int .i64 0, .int .i64 0, .int .i64 0, .int .i64 0, .slice none 0 0, .int .i64 0, .int .i64 0, .slice none 0 0]) (cs := [.int .i64 5, .int .i64 x10.un.1, .int .i64 x10.un.2.1, .int .i64 x10.un.2.2.1, v21, .int .i64 0, .int .i64 0, v32, .int .i64 4, .int .i64 0, .int .i64 0, .int .i64 0, .slice none 0 0, .int .i64 0, .int .i64 0, v33]) Bl ([Tr37.of (5, x10, 0, 0, ([(BC x7), (BC x8)] : List Tr37)), Tr37.of (4, Tr34.of (0, 0, 0, ([] : List Tr34)), 0, 0, ([Tr37.of (3, Tr34.of (0, 0, 0, ([] : List Tr34)), 0, 0, ([Tr37.of (1, x10, 0, 0, ([] : List Tr37)), (BC x7)] : List Tr37)), Tr37.of (3, Tr34.of (0, 0, 0, ([] : List Tr34)), 0, 0, ([Tr37.of (1, Tr34.of (4, 0, 0, ([x10] : List Tr34)), 0, 0, ([] : List Tr37)), (BC x8)] : List Tr37))] : List Tr37))] : List Tr37) K F Aa NC Fx Aa Aa Aa (by kernel_rfl) Aa Aa ⟨[Value.int .i64 5, Value.int .i64 x10.un.1, Value.int .i64 x10.un.2.1, Value.int .i64 x10.un.2.2.1, v21, Value.int .i64 0, Value.int .i64 0, v32], _, Aa, (HA.2 ⟨[Value.int .i64 5], [Value.int .i64 x10.un.1, Value.int .i64 x10.un.2.1, Value.int .i64 x10.un.2.2.1, v21, Value.int .i64 0, Value.int .i64 0, v32], Aa, Aa, ⟨[Value.int .i64 x10.un.1, Value.int .i64 x10.un.2.1, Value.int .i64 x10.un.2.2.1, v21], [Value.int .i64 0, Value.int .i64 0, v32], Aa, (Hi.2 ⟨[Value.int .i64 x10.un.1], [Value.int .i64 x10.un.2.1, Value.int .i64 x10.un.2.2.1, v21], Aa, Aa, ⟨[Value.int .i64 x10.un.2.1], [Value.int .i64 x10.un.2.2.1, v21], Aa, Aa, ⟨[Value.int .i64 x10.un.2.2.1], [v21], Aa, Aa, ⟨_, Aa, (F.item (i := 18) Aa)⟩⟩⟩⟩), ⟨[Value.int .i64 0], [Value.int .i64 0, v32], Aa, Aa, ⟨[Value.int .i64 0], [v32], Aa, Aa, ⟨_, Aa, (F.item (i := 1) Aa)⟩⟩⟩⟩⟩), ⟨[Value.int .i64 4, Value.int .i64 0, Value.int .i64 0, Value.int .i64 0, Value.slice none 0 0, Value.int .i64 0, Value.int .i64 0, v33], _, Aa, (HA.2 ⟨[Value.int .i64 4], [Value.int .i64 0, Value.int .i64 0, Value.int .i64 0, Value.slice none 0 0, Value.int .i64 0, Value.int .i64 0, v33], Aa, Aa, ⟨[Value.int .i64 0, Value.int .i64 0, Value.int .i64 0, Value.slice none 0 0], [Value.int .i64 0, Value.int .i64 0, v33], Aa, (Hi.2 ⟨[Value.int .i64 0], [Value.int .i64 0, Value.int .i64 0, Value.slice none 0 0], Aa, Aa, ⟨[Value.int .i64 0], [Value.int .i64 0, Value.slice none 0 0], Aa, Aa, ⟨[Value.int .i64 0], [Value.slice none 0 0], Aa, Aa, ⟨_, Aa, (Sl.nil (r := Bj))⟩⟩⟩⟩), ⟨[Value.int .i64 0], [Value.int .i64 0, v33], Aa, Aa, ⟨[Value.int .i64 0], [v33], Aa, Aa, ⟨_, Aa, (F.item (i := 0) Aa)⟩⟩⟩⟩⟩), Aa⟩⟩ fun v34 a w K F => ?_
 have F := F.frontZ (i := 11) Aa Aa
 have F := F.freeze
 have F := F.frontZ (i := 6) Aa Aa
 have F := F.freeze
 have F := F.frontZ (i := 2) Aa Aa
 have F := F.freeze
 refine Gs (z := Value.slice none 0 0) (cs := [v27, v31, v34]) (Rp.slice Bl) ([([Tr37.of (4, Tr34.of (0, 0, 0, ([] : List Tr34)), 0, 0, ([(BC x7), (BC x8)] : List Tr37)), Tr37.of (4, Tr34.of (0, 0, 0, ([] : List Tr34)), 0, 0, ([(BC x8), (BC x7), (BC x8)] : List Tr37))] : List Tr37), ([Tr37.of (3, Tr34.of (0, 0, 0, ([] : List Tr34)), 0, 0, ([(BC x7), (BC x8), (BC x9)] : List Tr37)), Tr37.of (3, Tr34.of (0, 0, 0, ([] : List Tr34)), 0, 0, ([(BC x7), Tr37.of (3, Tr34.of (0, 0, 0, ([] : List Tr34)), 0, 0, ([(BC x8), (BC x9)] : List Tr37))] : List Tr37))] : List Tr37), ([Tr37.of (5, x10, 0, 0, ([(BC x7), (BC x8)] : List Tr37)), Tr37.of (4, Tr34.of (0, 0, 0, ([] : List Tr34)), 0, 0, ([Tr37.of (3, Tr34.of (0, 0, 0, ([] : List Tr34)), 0, 0, ([Tr37.of (1, x10, 0, 0, ([] : List Tr37)), (BC x7)] : List Tr37)), Tr37.of (3, Tr34.of (0, 0, 0, ([] : List Tr34)), 0, 0, ([Tr37.of (1, Tr34.of (4, 0, 0, ([x10] : List Tr34)), 0, 0, ([] : List Tr37)), (BC x8)] : List Tr37))] : List Tr37))] : List Tr37)] : List (List Tr37)) K F Aa X1 Zk Aa Aa Aa (A9 Aa (DG (F.oneF (k := 2) Aa)) Aa (A9 Aa (DG (F.oneF (k := 1) Aa)) Aa (A9 Aa (DG (F.oneF (k := 0) Aa)) Aa Dc))) Aa Aa ⟨[v27], _, Aa, ⟨_, Aa, (F.item (i := 2) Aa)⟩, ⟨[v31], _, Aa, ⟨_, Aa, (F.item (i := 1) Aa)⟩, ⟨[v34], _, Aa, ⟨_, Aa, (F.item (i := 0) Aa)⟩, Aa⟩⟩⟩ fun v35 a w K F => ?_
 refine vl tk 2 K F fun a w K F => ?_
 refine Ad ?_
 obtain ⟨o2, G2, K2, L2⟩ := RM H
 refine AA (fun a w => some (Sum.inl ()) = some o2 ∧ Fr 139 [] [(14, .bool false)] a ∧ Stw ⟨Y, [], w0⟩ [(b11, (EL v24)), (b10, (EL v22)), (b9, (F1 x10 v21)), (b8, (BE x9 v19 v20)), (b7, (BE x8 v17 v18)), (b6, (BE x7 v15 v16)), (b5, (CF p6)), (b4, (CD p3 v7)), (b3, (Av p2 v5 v6)), (b2, (Av p1 v3 v4)), (b1, (Av p0 v1 v2))] [B7 v24 Bl ([Tr37.of (1, Tr34.of (4, 0, 0, ([x10] : List Tr34)), 0, 0, ([] : List Tr37)), (BC x8)] : List Tr37), B7 v22 Bl ([Tr37.of (1, x10, 0, 0, ([] : List Tr37)), (BC x7)] : List Tr37), B7 v21 Bj x10.un.2.2.2, B7 v19 Bj x9.un.2.1.un.2.2.2, B7 v20 Bl x9.un.2.2.2.2, B7 v17 Bj x8.un.2.1.un.2.2.2, B7 v18 Bl x8.un.2.2.2.2, B7 v15 Bj x7.un.2.1.un.2.2.2, B7 v16 Bl x7.un.2.2.2.2] w) ?_ ?_
 ·
  have H := G2
  clear G2 K2
  refine vc tk 6 K F fun a w K F => ?_
  have F := F.frontZ (i := 18) Aa Aa
  have F := F.frontZ (i := 19) Aa Aa
  have F := F.frontZ (i := 17) Aa Aa
  have F := F.frontZ (i := 18) Aa Aa
  have F := F.frontZ (i := 15) Aa Aa
  have F := F.frontZ (i := 16) Aa Aa
  have F := F.frontZ (i := 20) Aa Aa
  have F := F.frontZ (i := 14) Aa Aa
  have F := F.frontZ (i := 14) Aa Aa
  have F := F.frontZ (i := 9) Aa Aa
  have F := F.frontM (i := 10) Aa Aa
  have F := F.frontM (i := 10) Aa Aa
  have F := F.frontM (i := 10) Aa Aa
  have F := F.frontM (i := 10) Aa Aa
  have F := F.frontM (i := 10) Aa Aa
  have F := F.frontM (i := 10) Aa Aa
  have F := F.frontM (i := 10) Aa Aa
  have F := F.frontM (i := 10) Aa Aa
  have F := F.frontM (i := 10) Aa Aa
  have F := F.frontM (i := 10) Aa Aa
  have F := F.frontM (i := 10) Aa Aa
  have F := F.sub (M' := [(b11, (EL v24)), (b10, (EL v22)), (b9, (F1 x10 v21)), (b8, (BE x9 v19 v20)), (b7, (BE x8 v17 v18)), (b6, (BE x7 v15 v16)), (b5, (CF p6)), (b4, (CD p3 v7)), (b3, (Av p2 v5 v6)), (b2, (Av p1 v3 v4)), (b1, (Av p0 v1 v2))]) (Z' := [row v35 35 (Rp.slice Bl) ([([Tr37.of (4, Tr34.of (0, 0, 0, ([] : List Tr34)), 0, 0, ([(BC x7), (BC x8)] : List Tr37)), Tr37.of (4, Tr34.of (0, 0, 0, ([] : List Tr34)), 0, 0, ([(BC x8), (BC x7), (BC x8)] : List Tr37))] : List Tr37), ([Tr37.of (3, Tr34.of (0, 0, 0, ([] : List Tr34)), 0, 0, ([(BC x7), (BC x8), (BC x9)] : List Tr37)), Tr37.of (3, Tr34.of (0, 0, 0, ([] : List Tr34)), 0, 0, ([(BC x7), Tr37.of (3, Tr34.of (0, 0, 0, ([] : List Tr34)), 0, 0, ([(BC x8), (BC x9)] : List Tr37))] : List Tr37))] : List Tr37), ([Tr37.of (5, x10, 0, 0, ([(BC x7), (BC x8)] : List Tr37)), Tr37.of (4, Tr34.of (0, 0, 0, ([] : List Tr34)), 0, 0, ([Tr37.of (3, Tr34.of (0, 0, 0, ([] : List Tr34)), 0, 0, ([Tr37.of (1, x10, 0, 0, ([] : List Tr37)), (BC x7)] : List Tr37)), Tr37.of (3, Tr34.of (0, 0, 0, ([] : List Tr34)), 0, 0, ([Tr37.of (1, Tr34.of (4, 0, 0, ([x10] : List Tr34)), 0, 0, ([] : List Tr37)), (BC x8)] : List Tr37))] : List Tr37))] : List Tr37)] : List (List Tr37)), B7 v24 Bl ([Tr37.of (1, Tr34.of (4, 0, 0, ([x10] : List Tr34)), 0, 0, ([] : List Tr37)), (BC x8)] : List Tr37), B7 v22 Bl ([Tr37.of (1, x10, 0, 0, ([] : List Tr37)), (BC x7)] : List Tr37), B7 v21 Bj x10.un.2.2.2, B7 v19 Bj x9.un.2.1.un.2.2.2, B7 v20 Bl x9.un.2.2.2.2, B7 v17 Bj x8.un.2.1.un.2.2.2, B7 v18 Bl x8.un.2.2.2.2, B7 v15 Bj x7.un.2.1.un.2.2.2, B7 v16 Bl x7.un.2.2.2.2]) (List.Sublist.refl _) (List.Sublist.cons_cons _ (List.Sublist.cons_cons _ (List.Sublist.cons_cons _ (List.Sublist.cons_cons _ (List.Sublist.cons_cons _ (List.Sublist.cons_cons _ (List.Sublist.cons_cons _ (List.Sublist.cons_cons _ (List.Sublist.cons_cons _ (List.Sublist.cons_cons _ (List.nil_sublist _)))))))))))
  refine BN H (fun s a w => Fr 139 [] [(4, .int .i64 p4), (5, .int .i64 p5), (13, .pointer (some ⟨b5, 0, none⟩)), (14, .bool false), (21, v35), (22, .int .i64 s)] a ∧ Stw ⟨Y, [], w0⟩ [(b11, (EL v24)), (b10, (EL v22)), (b9, (F1 x10 v21)), (b8, (BE x9 v19 v20)), (b7, (BE x8 v17 v18)), (b6, (BE x7 v15 v16)), (b5, (CF p6)), (b4, (CD p3 v7)), (b3, (Av p2 v5 v6)), (b2, (Av p1 v3 v4)), (b1, (Av p0 v1 v2))] [row v35 35 (Rp.slice Bl) ([([Tr37.of (4, Tr34.of (0, 0, 0, ([] : List Tr34)), 0, 0, ([(BC x7), (BC x8)] : List Tr37)), Tr37.of (4, Tr34.of (0, 0, 0, ([] : List Tr34)), 0, 0, ([(BC x8), (BC x7), (BC x8)] : List Tr37))] : List Tr37), ([Tr37.of (3, Tr34.of (0, 0, 0, ([] : List Tr34)), 0, 0, ([(BC x7), (BC x8), (BC x9)] : List Tr37)), Tr37.of (3, Tr34.of (0, 0, 0, ([] : List Tr34)), 0, 0, ([(BC x7), Tr37.of (3, Tr34.of (0, 0, 0, ([] : List Tr34)), 0, 0, ([(BC x8), (BC x9)] : List Tr37))] : List Tr37))] : List Tr37), ([Tr37.of (5, x10, 0, 0, ([(BC x7), (BC x8)] : List Tr37)), Tr37.of (4, Tr34.of (0, 0, 0, ([] : List Tr34)), 0, 0, ([Tr37.of (3, Tr34.of (0, 0, 0, ([] : List Tr34)), 0, 0, ([Tr37.of (1, x10, 0, 0, ([] : List Tr37)), (BC x7)] : List Tr37)), Tr37.of (3, Tr34.of (0, 0, 0, ([] : List Tr34)), 0, 0, ([Tr37.of (1, Tr34.of (4, 0, 0, ([x10] : List Tr34)), 0, 0, ([] : List Tr37)), (BC x8)] : List Tr37))] : List Tr37))] : List Tr37)] : List (List Tr37)), B7 v24 Bl ([Tr37.of (1, Tr34.of (4, 0, 0, ([x10] : List Tr34)), 0, 0, ([] : List Tr37)), (BC x8)] : List Tr37), B7 v22 Bl ([Tr37.of (1, x10, 0, 0, ([] : List Tr37)), (BC x7)] : List Tr37), B7 v21 Bj x10.un.2.2.2, B7 v19 Bj x9.un.2.1.un.2.2.2, B7 v20 Bl x9.un.2.2.2.2, B7 v17 Bj x8.un.2.1.un.2.2.2, B7 v18 Bl x8.un.2.2.2.2, B7 v15 Bj x7.un.2.1.un.2.2.2, B7 v16 Bl x7.un.2.2.2.2] w) ⟨K.ra Aa, F⟩ fun s o a w H L3 hR => ?_
  obtain ⟨x11, rfl⟩ : ∃ x, x = s := ⟨s, rfl⟩
  obtain ⟨K, F⟩ := hR
  have K : Fr 139 [] [(4, .int .i64 p4), (5, .int .i64 p5), (13, .pointer (some ⟨b5, 0, none⟩)), (14, .bool false), (21, v35), (22, .int .i64 x11)] a := K
  have F : Stw ⟨Y, [], w0⟩ [(b11, (EL v24)), (b10, (EL v22)), (b9, (F1 x10 v21)), (b8, (BE x9 v19 v20)), (b7, (BE x8 v17 v18)), (b6, (BE x7 v15 v16)), (b5, (CF p6)), (b4, (CD p3 v7)), (b3, (Av p2 v5 v6)), (b2, (Av p1 v3 v4)), (b1, (Av p0 v1 v2))] [row v35 35 (Rp.slice Bl) ([([Tr37.of (4, Tr34.of (0, 0, 0, ([] : List Tr34)), 0, 0, ([(BC x7), (BC x8)] : List Tr37)), Tr37.of (4, Tr34.of (0, 0, 0, ([] : List Tr34)), 0, 0, ([(BC x8), (BC x7), (BC x8)] : List Tr37))] : List Tr37), ([Tr37.of (3, Tr34.of (0, 0, 0, ([] : List Tr34)), 0, 0, ([(BC x7), (BC x8), (BC x9)] : List Tr37)), Tr37.of (3, Tr34.of (0, 0, 0, ([] : List Tr34)), 0, 0, ([(BC x7), Tr37.of (3, Tr34.of (0, 0, 0, ([] : List Tr34)), 0, 0, ([(BC x8), (BC x9)] : List Tr37))] : List Tr37))] : List Tr37), ([Tr37.of (5, x10, 0, 0, ([(BC x7), (BC x8)] : List Tr37)), Tr37.of (4, Tr34.of (0, 0, 0, ([] : List Tr34)), 0, 0, ([Tr37.of (3, Tr34.of (0, 0, 0, ([] : List Tr34)), 0, 0, ([Tr37.of (1, x10, 0, 0, ([] : List Tr37)), (BC x7)] : List Tr37)), Tr37.of (3, Tr34.of (0, 0, 0, ([] : List Tr34)), 0, 0, ([Tr37.of (1, Tr34.of (4, 0, 0, ([x10] : List Tr34)), 0, 0, ([] : List Tr37)), (BC x8)] : List Tr37))] : List Tr37))] : List Tr37)] : List (List Tr37)), B7 v24 Bl ([Tr37.of (1, Tr34.of (4, 0, 0, ([x10] : List Tr34)), 0, 0, ([] : List Tr37)), (BC x8)] : List Tr37), B7 v22 Bl ([Tr37.of (1, x10, 0, 0, ([] : List Tr37)), (BC x7)] : List Tr37), B7 v21 Bj x10.un.2.2.2, B7 v19 Bj x9.un.2.1.un.2.2.2, B7 v20 Bl x9.un.2.2.2.2, B7 v17 Bj x8.un.2.1.un.2.2.2, B7 v18 Bl x8.un.2.2.2.2, B7 v15 Bj x7.un.2.1.un.2.2.2, B7 v16 Bl x7.un.2.2.2.2] w := F
  rw [C0] at H
  refine vc tk 5 K F fun a w K F => ?_
  refine ls K F Aa (C2 (r := (Rp.slice Bl)) (l := ([([Tr37.of (4, Tr34.of (0, 0, 0, ([] : List Tr34)), 0, 0, ([(BC x7), (BC x8)] : List Tr37)), Tr37.of (4, Tr34.of (0, 0, 0, ([] : List Tr34)), 0, 0, ([(BC x8), (BC x7), (BC x8)] : List Tr37))] : List Tr37), ([Tr37.of (3, Tr34.of (0, 0, 0, ([] : List Tr34)), 0, 0, ([(BC x7), (BC x8), (BC x9)] : List Tr37)), Tr37.of (3, Tr34.of (0, 0, 0, ([] : List Tr34)), 0, 0, ([(BC x7), Tr37.of (3, Tr34.of (0, 0, 0, ([] : List Tr34)), 0, 0, ([(BC x8), (BC x9)] : List Tr37))] : List Tr37))] : List Tr37), ([Tr37.of (5, x10, 0, 0, ([(BC x7), (BC x8)] : List Tr37)), Tr37.of (4, Tr34.of (0, 0, 0, ([] : List Tr34)), 0, 0, ([Tr37.of (3, Tr34.of (0, 0, 0, ([] : List Tr34)), 0, 0, ([Tr37.of (1, x10, 0, 0, ([] : List Tr37)), (BC x7)] : List Tr37)), Tr37.of (3, Tr34.of (0, 0, 0, ([] : List Tr34)), 0, 0, ([Tr37.of (1, Tr34.of (4, 0, 0, ([x10] : List Tr34)), 0, 0, ([] : List Tr37)), (BC x8)] : List Tr37))] : List Tr37))] : List Tr37)] : List (List Tr37))) W9 Aa K Aa (Al 0 Aa)).q fun a w K F => ?_
  refine Cv tk 3 K F fun a w K F => ?_
  refine BU K Aa H (fun K H => ?_) fun K H => ?_
  ·
   refine Gp tk 5 K F fun a w K F => ?_
   obtain ⟨v36, h17, F⟩ := F.exR UH
   have F := F.frontZ (i := 1) Aa Aa
   obtain ⟨v37, h18, F⟩ := F.exF Dy
   have F := F.frontZ (i := 2) Aa Aa
   obtain ⟨v38, h19, F⟩ := F.exF Dy
   have F := F.frontZ (i := 3) Aa Aa
   obtain ⟨v39, h20, F⟩ := F.exF Co
   have F := F.frontZ (i := 4) Aa Aa
   obtain ⟨v40, h21, F⟩ := F.exF Co
   have F := F.frontZ (i := 5) Aa Aa
   obtain ⟨v41, h22, F⟩ := F.exF Dy
   have F := F.frontZ (i := 6) Aa Aa
   obtain ⟨v42, h23, F⟩ := F.exF Co
   have F := F.frontZ (i := 7) Aa Aa
   obtain ⟨v43, h24, F⟩ := F.exF Dy
   have F := F.frontZ (i := 8) Aa Aa
   obtain ⟨v44, h25, F⟩ := F.exF Co
   have F := F.frontZ (i := 9) Aa Aa
   obtain ⟨v45, h26, F⟩ := F.exF Dy
   obtain ⟨x12, h27, H⟩ := Ag H
   obtain ⟨v46, h28, h29⟩ := DQ h17 h27
   have h30 : Tw v46 = [(v46.1)] := congrArg (fun q : List Tr37 => ([(v46.1)] : List Value)) h29
   obtain ⟨x13, h31, H⟩ := Ag H
   have F := F.note (F.rowAt (k := 9) Aa h28 Ai.here (congrArg (fun q : List Tr37 => q) h29))
   obtain ⟨v47, h32, F⟩ := F.exF Dy
   obtain ⟨v48, h33, h34⟩ := DQ h32 h31
   have h35 : IU v48 = (C5 x13 (v48.2.1.2.2.2.1) (v48.2.2.2.2.1)) := congrArg (fun q : Tr37 => ((C5 q (v48.2.1.2.2.2.1) (v48.2.2.2.2.1)) : List Value)) h34
   obtain ⟨x14, h36, H⟩ := Ag H
   obtain ⟨v49, h37, h38⟩ := DQ h17 h36
   have h39 : Tw v49 = [(v49.1)] := congrArg (fun q : List Tr37 => ([(v49.1)] : List Value)) h38
   obtain ⟨x15, h40, H⟩ := Ag H
   have F := F.note (F.rowAt (k := 10) Aa h37 Ai.here (congrArg (fun q : List Tr37 => q) h38))
   obtain ⟨v50, h41, F⟩ := F.exF Dy
   obtain ⟨v51, h42, h43⟩ := DQ h41 h40
   have h44 : IU v51 = (C5 x15 (v51.2.1.2.2.2.1) (v51.2.2.2.2.1)) := congrArg (fun q : Tr37 => ((C5 q (v51.2.1.2.2.2.1) (v51.2.2.2.2.1)) : List Value)) h43
   refine N0 (fun a w => ∃ b12 : Nat, ∃ b13 : Nat, Fr 139 [] [(4, .int .i64 p4), (5, .int .i64 p5), (13, .pointer (some ⟨b5, 0, none⟩)), (14, .bool false), (21, v35), (22, .int .i64 x11), (23, .pointer (some ⟨b12, 0, none⟩)), (24, .pointer (some ⟨b13, 0, none⟩)), (98, .int .i64 x11), (99, v35), (100, .int .i64 (([([Tr37.of (4, Tr34.of (0, 0, 0, ([] : List Tr34)), 0, 0, ([(BC x7), (BC x8)] : List Tr37)), Tr37.of (4, Tr34.of (0, 0, 0, ([] : List Tr34)), 0, 0, ([(BC x8), (BC x7), (BC x8)] : List Tr37))] : List Tr37), ([Tr37.of (3, Tr34.of (0, 0, 0, ([] : List Tr34)), 0, 0, ([(BC x7), (BC x8), (BC x9)] : List Tr37)), Tr37.of (3, Tr34.of (0, 0, 0, ([] : List Tr34)), 0, 0, ([(BC x7), Tr37.of (3, Tr34.of (0, 0, 0, ([] : List Tr34)), 0, 0, ([(BC x8), (BC x9)] : List Tr37))] : List Tr37))] : List Tr37), ([Tr37.of (5, x10, 0, 0, ([(BC x7), (BC x8)] : List Tr37)), Tr37.of (4, Tr34.of (0, 0, 0, ([] : List Tr34)), 0, 0, ([Tr37.of (3, Tr34.of (0, 0, 0, ([] : List Tr34)), 0, 0, ([Tr37.of (1, x10, 0, 0, ([] : List Tr37)), (BC x7)] : List Tr37)), Tr37.of (3, Tr34.of (0, 0, 0, ([] : List Tr34)), 0, 0, ([Tr37.of (1, Tr34.of (4, 0, 0, ([x10] : List Tr34)), 0, 0, ([] : List Tr37)), (BC x8)] : List Tr37))] : List Tr37))] : List Tr37)] : List (List Tr37)).length : Int)), (101, .bool true), (104, v35), (105, .int .i64 x11), (106, .pointer (some ⟨LR v35, LN v35 + (x11).toNat * 1, none⟩)), (107, (v46.1)), (108, .pointer (some ⟨LR (v46.1), LN (v46.1) + (0 : Int).toNat * 8, none⟩)), (109, (Ct x13 (v48.2.1.2.2.2.1) (v48.2.2.2.2.1))), (110, v35), (111, .int .i64 x11), (112, .pointer (some ⟨LR v35, LN v35 + (x11).toNat * 1, none⟩)), (113, (v49.1)), (114, .pointer (some ⟨LR (v49.1), LN (v49.1) + (1 : Int).toNat * 8, none⟩)), (115, (Ct x15 (v51.2.1.2.2.2.1) (v51.2.2.2.2.1)))] a ∧ Stw ⟨Y, [], w0⟩ [(b13, (C5 x15 (v51.2.1.2.2.2.1) (v51.2.2.2.2.1))), (b12, (C5 x13 (v48.2.1.2.2.2.1) (v48.2.2.2.2.1))), (b11, (EL v24)), (b10, (EL v22)), (b9, (F1 x10 v21)), (b8, (BE x9 v19 v20)), (b7, (BE x8 v17 v18)), (b6, (BE x7 v15 v16)), (b5, (CF p6)), (b4, (CD p3 v7)), (b3, (Av p2 v5 v6)), (b2, (Av p1 v3 v4)), (b1, (Av p0 v1 v2))] [B7 (v49.1) Dd v50, B7 (v46.1) Dd v47, B7 v16 Dd v45, B7 v15 Gr v44, B7 v18 Dd v43, B7 v17 Gr v42, B7 v20 Dd v41, B7 v19 Gr v40, B7 v21 Gr v39, B7 v22 Dd v38, B7 v24 Dd v37, row v35 35 (Rp.vsl Bl) v36] w) ?_ ?_
   ·
    refine Ms (PT.st 0 (PT.st 1 (PT.st 2 (PT.st 3 (PT.st 4 (PT.st 5 (PT.st 6 (PT.st 7 (PT.st 8 (PT.st 9 (PT.st 10 (PT.st 11 (PT.alt 12 (PT.alt 13 (PT.alt 14 (PT.alt 15 PT.done PT.stop) PT.stop) PT.stop) (PT.alt 13 (PT.alt 12 (PT.alt 14 (PT.alt 15 PT.done PT.stop) PT.stop) PT.stop) PT.stop)))))))))))))) (CN ⟨Y, [], w0⟩ [] [(some 14, row v35 35 (Rp.vsl Bl) v36), (some 14, B7 (v46.1) Dd v47), (some 15, row v35 35 (Rp.vsl Bl) v36), (some 15, B7 (v49.1) Dd v50)]) (fun ch a d v w h => by cases d <;> exact h) MO (by kernel_rfl) F (fun w F => ⟨_, _, F, Ab, (all_cons (fun _ => (.tail _ (.tail _ (.tail _ (.tail _ (.tail _ (.tail _ (.tail _ (.tail _ (.tail _ (.tail _ (.tail _ (.head _))))))))))))) (all_cons (fun _ => (.tail _ (.head _))) (all_cons (fun _ => (.tail _ (.tail _ (.tail _ (.tail _ (.tail _ (.tail _ (.tail _ (.tail _ (.tail _ (.tail _ (.tail _ (.head _))))))))))))) (all_cons (fun _ => (.head _)) Ab))))⟩) fun w F => ?_
    iterate 2 refine GT (R := []) K Aa Aa (yC fun M Z hN hZ => Aq K Aa) Aa Aa fun a K => ?_
    refine GT (R := []) K Aa Aa (yC fun M Z hN hZ => Cy (r := (Rp.vsl Bl)) X1 K Aa Aa (EK F (Al 11 Aa)) h28) Aa Aa fun a K => ?_
    refine GT (R := [14]) K Aa Aa (yC fun M Z hN hZ => An (y := (v46.1)) (j := 0) (i := x11) (enc := Tw) K Aa Aa (D3 (hZ ((some 14), row v35 35 (Rp.vsl Bl) v36) (.head _) Aa)) h28 W4 Ti (by rw [h30]; rfl)) (by kernel_rfl) Aa fun a K => ?_
    refine GT (R := [14]) K Aa Aa (yC fun M Z hN hZ => Aw (r := Dd) NC K Aa Aa (MP (hZ ((some 14), B7 (v46.1) Dd v47) (.tail _ (.head _)) Aa)) h33) (by kernel_rfl) Aa fun a K => ?_
    refine GT (R := [14]) K Aa Aa (yC fun M Z hN hZ => An (y := (Ct x13 (v48.2.1.2.2.2.1) (v48.2.2.2.2.1))) (j := 0) (i := 0) (enc := IU) K Aa Aa (MP (hZ ((some 14), B7 (v46.1) Dd v47) (.tail _ (.head _)) Aa)) h33 OA Is (by rw [h35]; rfl)) (by kernel_rfl) Aa fun a K => ?_
    iterate 2 refine GT (R := []) K Aa Aa (yC fun M Z hN hZ => Aq K Aa) Aa Aa fun a K => ?_
    refine GT (R := []) K Aa Aa (yC fun M Z hN hZ => Cy (r := (Rp.vsl Bl)) X1 K Aa Aa (EK F (Al 11 Aa)) h37) Aa Aa fun a K => ?_
    refine GT (R := [15]) K Aa Aa (yC fun M Z hN hZ => An (y := (v49.1)) (j := 0) (i := x11) (enc := Tw) K Aa Aa (D3 (hZ ((some 15), row v35 35 (Rp.vsl Bl) v36) (.tail _ (.tail _ (.head _))) Aa)) h37 W4 Ti (by rw [h39]; rfl)) (by kernel_rfl) Aa fun a K => ?_
    refine GT (R := [15]) K Aa Aa (yC fun M Z hN hZ => Aw (r := Dd) NC K Aa Aa (MP (hZ ((some 15), B7 (v49.1) Dd v50) (.tail _ (.tail _ (.tail _ (.head _)))) Aa)) h42) (by kernel_rfl) Aa fun a K => ?_
    refine GT (R := [15]) K Aa Aa (yC fun M Z hN hZ => An (y := (Ct x15 (v51.2.1.2.2.2.1) (v51.2.2.2.2.1))) (j := 0) (i := 1) (enc := IU) K Aa Aa (MP (hZ ((some 15), B7 (v49.1) Dd v50) (.tail _ (.tail _ (.tail _ (.head _)))) Aa)) h42 OA Is (by rw [h44]; rfl)) (by kernel_rfl) Aa fun a K => ?_
    refine C9 Aa ?_ ?_
    ·
     refine AF (cs := (AB)) K F Aa Fx Aa fun b12 a w K F => ?_
     refine DJ (N2 := []) (NZ2 := []) (N3 := []) (NZ3 := [(some 14, row v35 35 (Rp.vsl Bl) v36), (some 14, B7 (v46.1) Dd v47), (some 15, row v35 35 (Rp.vsl Bl) v36), (some 15, B7 (v49.1) Dd v50)]) F Aa Aa Ab (all_cons (fun _ => (.tail _ (.tail _ (.tail _ (.tail _ (.tail _ (.tail _ (.tail _ (.tail _ (.tail _ (.tail _ (.tail _ (.head _))))))))))))) (all_cons (fun _ => (.tail _ (.head _))) (all_cons (fun _ => (.tail _ (.tail _ (.tail _ (.tail _ (.tail _ (.tail _ (.tail _ (.tail _ (.tail _ (.tail _ (.tail _ (.head _))))))))))))) (all_cons (fun _ => (.head _)) Ab)))) ?_
     refine Gw Aa ?_
     refine AF (cs := (AB)) K F Aa Fx Aa fun b13 a w K F => ?_
     refine DJ (N2 := []) (NZ2 := []) (N3 := []) (NZ3 := [(some 14, row v35 35 (Rp.vsl Bl) v36), (some 14, B7 (v46.1) Dd v47), (some 15, row v35 35 (Rp.vsl Bl) v36), (some 15, B7 (v49.1) Dd v50)]) F Aa Aa Ab (all_cons (fun _ => (.tail _ (.tail _ (.tail _ (.tail _ (.tail _ (.tail _ (.tail _ (.tail _ (.tail _ (.tail _ (.tail _ (.head _))))))))))))) (all_cons (fun _ => (.tail _ (.head _))) (all_cons (fun _ => (.tail _ (.tail _ (.tail _ (.tail _ (.tail _ (.tail _ (.tail _ (.tail _ (.tail _ (.tail _ (.tail _ (.head _))))))))))))) (all_cons (fun _ => (.head _)) Ab)))) ?_
     refine Gw Aa ?_
     refine DZ 1 K F Aa Aa Aa Is Aa Aa (Af Aa (Af Aa (Af Aa (Af Aa (Af ((Br (Ea 1 Aa) h33 (Ai.snd (Ai.fst (Ai.snd (Ai.snd (Ai.snd Ai.here))))) (congrArg (fun q : Tr37 => q.un.2.1.un.2.2.2) h34)) _ F).one (Af Aa (Af Aa (Af ((Br (Ea 1 Aa) h33 (Ai.snd (Ai.snd (Ai.snd (Ai.snd Ai.here)))) (congrArg (fun q : Tr37 => q.un.2.2.2.2) h34)) _ F).one CT)))))))) fun w F => ?_
     refine DJ (N2 := []) (NZ2 := []) (N3 := []) (NZ3 := [(some 14, row v35 35 (Rp.vsl Bl) v36), (some 14, B7 (v46.1) Dd v47), (some 15, row v35 35 (Rp.vsl Bl) v36), (some 15, B7 (v49.1) Dd v50)]) F Aa Aa Ab (all_cons (fun h => Ae (by kernel_rfl) h) (all_cons (fun h => Ae (by kernel_rfl) h) (all_cons (fun _ => (.tail _ (.tail _ (.tail _ (.tail _ (.tail _ (.tail _ (.tail _ (.tail _ (.tail _ (.tail _ (.tail _ (.head _))))))))))))) (all_cons (fun _ => (.head _)) Ab)))) ?_
     refine Gw Aa ?_
     refine DZ 0 K F Aa Aa Aa Is Aa Aa (Af Aa (Af Aa (Af Aa (Af Aa (Af ((Br (Ea 0 Aa) h42 (Ai.snd (Ai.fst (Ai.snd (Ai.snd (Ai.snd Ai.here))))) (congrArg (fun q : Tr37 => q.un.2.1.un.2.2.2) h43)) _ F).one (Af Aa (Af Aa (Af ((Br (Ea 0 Aa) h42 (Ai.snd (Ai.snd (Ai.snd (Ai.snd Ai.here)))) (congrArg (fun q : Tr37 => q.un.2.2.2.2) h43)) _ F).one CT)))))))) fun w F => ?_
     refine DJ (N2 := []) (NZ2 := []) (N3 := []) (NZ3 := [(some 14, row v35 35 (Rp.vsl Bl) v36), (some 14, B7 (v46.1) Dd v47), (some 15, row v35 35 (Rp.vsl Bl) v36), (some 15, B7 (v49.1) Dd v50)]) F Aa Aa Ab (all_cons (fun h => Ae (by kernel_rfl) h) (all_cons (fun h => Ae (by kernel_rfl) h) (all_cons (fun h => Ae (by kernel_rfl) h) (all_cons (fun h => Ae (by kernel_rfl) h) Ab)))) ?_
     have F := F.frontZ (i := 11) Aa Aa
     have F := F.frontZ (i := 11) Aa Aa
     have F := F.frontZ (i := 11) Aa Aa
     have F := F.frontZ (i := 11) Aa Aa
     have F := F.frontZ (i := 11) Aa Aa
     have F := F.frontZ (i := 11) Aa Aa
     have F := F.frontZ (i := 11) Aa Aa
     have F := F.frontZ (i := 11) Aa Aa
     have F := F.frontZ (i := 11) Aa Aa
     have F := F.frontZ (i := 11) Aa Aa
     have F := F.frontZ (i := 11) Aa Aa
     have F := F.frontZ (i := 11) Aa Aa
     have F := F.frontM (i := 12) Aa Aa
     have F := F.frontM (i := 12) Aa Aa
     have F := F.frontM (i := 12) Aa Aa
     have F := F.frontM (i := 12) Aa Aa
     have F := F.frontM (i := 12) Aa Aa
     have F := F.frontM (i := 12) Aa Aa
     have F := F.frontM (i := 12) Aa Aa
     have F := F.frontM (i := 12) Aa Aa
     have F := F.frontM (i := 12) Aa Aa
     have F := F.frontM (i := 12) Aa Aa
     have F := F.frontM (i := 12) Aa Aa
     have F := F.frontM (i := 12) Aa Aa
     have F := F.frontM (i := 12) Aa Aa
     refine LK ?_
     exact ⟨b12, b13, K.ra Aa, F⟩
    refine C9 Aa ?_ ?_
    ·
     refine AF (cs := (AB)) K F Aa Fx Aa fun b13 a w K F => ?_
     refine DJ (N2 := []) (NZ2 := []) (N3 := []) (NZ3 := [(some 14, row v35 35 (Rp.vsl Bl) v36), (some 14, B7 (v46.1) Dd v47), (some 15, row v35 35 (Rp.vsl Bl) v36), (some 15, B7 (v49.1) Dd v50)]) F Aa Aa Ab (all_cons (fun _ => (.tail _ (.tail _ (.tail _ (.tail _ (.tail _ (.tail _ (.tail _ (.tail _ (.tail _ (.tail _ (.tail _ (.head _))))))))))))) (all_cons (fun _ => (.tail _ (.head _))) (all_cons (fun _ => (.tail _ (.tail _ (.tail _ (.tail _ (.tail _ (.tail _ (.tail _ (.tail _ (.tail _ (.tail _ (.tail _ (.head _))))))))))))) (all_cons (fun _ => (.head _)) Ab)))) ?_
     refine Gw Aa ?_
     refine AF (cs := (AB)) K F Aa Fx Aa fun b12 a w K F => ?_
     refine DJ (N2 := []) (NZ2 := []) (N3 := []) (NZ3 := [(some 14, row v35 35 (Rp.vsl Bl) v36), (some 14, B7 (v46.1) Dd v47), (some 15, row v35 35 (Rp.vsl Bl) v36), (some 15, B7 (v49.1) Dd v50)]) F Aa Aa Ab (all_cons (fun _ => (.tail _ (.tail _ (.tail _ (.tail _ (.tail _ (.tail _ (.tail _ (.tail _ (.tail _ (.tail _ (.tail _ (.head _))))))))))))) (all_cons (fun _ => (.tail _ (.head _))) (all_cons (fun _ => (.tail _ (.tail _ (.tail _ (.tail _ (.tail _ (.tail _ (.tail _ (.tail _ (.tail _ (.tail _ (.tail _ (.head _))))))))))))) (all_cons (fun _ => (.head _)) Ab)))) ?_
     refine Gw Aa ?_
     refine DZ 0 K F Aa Aa Aa Is Aa Aa (Af Aa (Af Aa (Af Aa (Af Aa (Af ((Br (Ea 1 Aa) h33 (Ai.snd (Ai.fst (Ai.snd (Ai.snd (Ai.snd Ai.here))))) (congrArg (fun q : Tr37 => q.un.2.1.un.2.2.2) h34)) _ F).one (Af Aa (Af Aa (Af ((Br (Ea 1 Aa) h33 (Ai.snd (Ai.snd (Ai.snd (Ai.snd Ai.here)))) (congrArg (fun q : Tr37 => q.un.2.2.2.2) h34)) _ F).one CT)))))))) fun w F => ?_
     refine DJ (N2 := []) (NZ2 := []) (N3 := []) (NZ3 := [(some 14, row v35 35 (Rp.vsl Bl) v36), (some 14, B7 (v46.1) Dd v47), (some 15, row v35 35 (Rp.vsl Bl) v36), (some 15, B7 (v49.1) Dd v50)]) F Aa Aa Ab (all_cons (fun h => Ae (by kernel_rfl) h) (all_cons (fun h => Ae (by kernel_rfl) h) (all_cons (fun _ => (.tail _ (.tail _ (.tail _ (.tail _ (.tail _ (.tail _ (.tail _ (.tail _ (.tail _ (.tail _ (.tail _ (.head _))))))))))))) (all_cons (fun _ => (.head _)) Ab)))) ?_
     refine Gw Aa ?_
     refine DZ 1 K F Aa Aa Aa Is Aa Aa (Af Aa (Af Aa (Af Aa (Af Aa (Af ((Br (Ea 0 Aa) h42 (Ai.snd (Ai.fst (Ai.snd (Ai.snd (Ai.snd Ai.here))))) (congrArg (fun q : Tr37 => q.un.2.1.un.2.2.2) h43)) _ F).one (Af Aa (Af Aa (Af ((Br (Ea 0 Aa) h42 (Ai.snd (Ai.snd (Ai.snd (Ai.snd Ai.here)))) (congrArg (fun q : Tr37 => q.un.2.2.2.2) h43)) _ F).one CT)))))))) fun w F => ?_
     refine DJ (N2 := []) (NZ2 := []) (N3 := []) (NZ3 := [(some 14, row v35 35 (Rp.vsl Bl) v36), (some 14, B7 (v46.1) Dd v47), (some 15, row v35 35 (Rp.vsl Bl) v36), (some 15, B7 (v49.1) Dd v50)]) F Aa Aa Ab (all_cons (fun h => Ae (by kernel_rfl) h) (all_cons (fun h => Ae (by kernel_rfl) h) (all_cons (fun h => Ae (by kernel_rfl) h) (all_cons (fun h => Ae (by kernel_rfl) h) Ab)))) ?_
     have F := F.frontZ (i := 11) Aa Aa
     have F := F.frontZ (i := 11) Aa Aa
     have F := F.frontZ (i := 11) Aa Aa
     have F := F.frontZ (i := 11) Aa Aa
     have F := F.frontZ (i := 11) Aa Aa
     have F := F.frontZ (i := 11) Aa Aa
     have F := F.frontZ (i := 11) Aa Aa
     have F := F.frontZ (i := 11) Aa Aa
     have F := F.frontZ (i := 11) Aa Aa
     have F := F.frontZ (i := 11) Aa Aa
     have F := F.frontZ (i := 11) Aa Aa
     have F := F.frontZ (i := 11) Aa Aa
     have F := F.frontM (i := 12) Aa Aa
     have F := F.frontM (i := 12) Aa Aa
     have F := F.frontM (i := 12) Aa Aa
     have F := F.frontM (i := 12) Aa Aa
     have F := F.frontM (i := 12) Aa Aa
     have F := F.frontM (i := 12) Aa Aa
     have F := F.frontM (i := 12) Aa Aa
     have F := F.frontM (i := 12) Aa Aa
     have F := F.frontM (i := 12) Aa Aa
     have F := F.frontM (i := 12) Aa Aa
     have F := F.frontM (i := 12) Aa Aa
     have F := F.frontM (i := 11) Aa Aa
     have F := F.frontM (i := 12) Aa Aa
     refine LK ?_
     exact ⟨b12, b13, K.ra Aa, F⟩
    exact trivial
   rintro a w ⟨b12, b13, K, F⟩
   refine Ad ?_
   obtain ⟨o4, G4, K4⟩ := Ag H
   refine AA (fun a w => ∃ x16 : Bool, some (x16) = some o4 ∧ Fr 139 [] [(4, .int .i64 p4), (5, .int .i64 p5), (13, .pointer (some ⟨b5, 0, none⟩)), (14, .bool false), (21, v35), (22, .int .i64 x11), (137, .bool x16)] a ∧ Stw ⟨Y, [], w0⟩ [(b13, (C5 x15 (v51.2.1.2.2.2.1) (v51.2.2.2.2.1))), (b12, (C5 x13 (v48.2.1.2.2.2.1) (v48.2.2.2.2.1))), (b11, (EL v24)), (b10, (EL v22)), (b9, (F1 x10 v21)), (b8, (BE x9 v19 v20)), (b7, (BE x8 v17 v18)), (b6, (BE x7 v15 v16)), (b5, (CF p6)), (b4, (CD p3 v7)), (b3, (Av p2 v5 v6)), (b2, (Av p1 v3 v4)), (b1, (Av p0 v1 v2))] [row v35 35 (Rp.slice Bl) ([([Tr37.of (4, Tr34.of (0, 0, 0, ([] : List Tr34)), 0, 0, ([(BC x7), (BC x8)] : List Tr37)), Tr37.of (4, Tr34.of (0, 0, 0, ([] : List Tr34)), 0, 0, ([(BC x8), (BC x7), (BC x8)] : List Tr37))] : List Tr37), ([Tr37.of (3, Tr34.of (0, 0, 0, ([] : List Tr34)), 0, 0, ([(BC x7), (BC x8), (BC x9)] : List Tr37)), Tr37.of (3, Tr34.of (0, 0, 0, ([] : List Tr34)), 0, 0, ([(BC x7), Tr37.of (3, Tr34.of (0, 0, 0, ([] : List Tr34)), 0, 0, ([(BC x8), (BC x9)] : List Tr37))] : List Tr37))] : List Tr37), ([Tr37.of (5, x10, 0, 0, ([(BC x7), (BC x8)] : List Tr37)), Tr37.of (4, Tr34.of (0, 0, 0, ([] : List Tr34)), 0, 0, ([Tr37.of (3, Tr34.of (0, 0, 0, ([] : List Tr34)), 0, 0, ([Tr37.of (1, x10, 0, 0, ([] : List Tr37)), (BC x7)] : List Tr37)), Tr37.of (3, Tr34.of (0, 0, 0, ([] : List Tr34)), 0, 0, ([Tr37.of (1, Tr34.of (4, 0, 0, ([x10] : List Tr34)), 0, 0, ([] : List Tr37)), (BC x8)] : List Tr37))] : List Tr37))] : List Tr37)] : List (List Tr37)), B7 (v51.2.1.2.2.2.1) Bj x15.un.2.1.un.2.2.2, B7 (v51.2.2.2.2.1) Bl x15.un.2.2.2.2, B7 (v48.2.1.2.2.2.1) Bj x13.un.2.1.un.2.2.2, B7 (v48.2.2.2.2.1) Bl x13.un.2.2.2.2, B7 v24 Bl ([Tr37.of (1, Tr34.of (4, 0, 0, ([x10] : List Tr34)), 0, 0, ([] : List Tr37)), (BC x8)] : List Tr37), B7 v22 Bl ([Tr37.of (1, x10, 0, 0, ([] : List Tr37)), (BC x7)] : List Tr37), B7 v21 Bj x10.un.2.2.2, B7 v19 Bj x9.un.2.1.un.2.2.2, B7 v20 Bl x9.un.2.2.2.2, B7 v17 Bj x8.un.2.1.un.2.2.2, B7 v18 Bl x8.un.2.2.2.2, B7 v15 Bj x7.un.2.1.un.2.2.2, B7 v16 Bl x7.un.2.2.2.2] w) ?_ ?_
   ·
    have H := G4
    clear G4 K4
    refine EX [(true, 0), (false, 1), (false, 2), (true, 3), (true, 4), (false, 5), (false, 6), (true, 7), (true, 8), (true, 9), (true, 10), (true, 11), (true, 12), (true, 14), (true, 15), (true, 16), (true, 17), (false, 13), (false, 18), (false, 19), (true, 20), (true, 21)] (CN ⟨Y, [], w0⟩ [(some 1, b12, (C5 x13 (v48.2.1.2.2.2.1) (v48.2.2.2.2.1)))] []) (fun ch a d v w h => by cases d <;> exact h) MO (by kernel_rfl) F (fun w F => ⟨_, _, F, (all_cons (fun _ => (.tail _ (.head _))) Ab), Ab⟩) fun w F => ?_
    refine BD (R := [1]) K Aa Aa (yC fun M Z hN hZ => Cw (cs := (C5 x13 (v48.2.1.2.2.2.1) (v48.2.2.2.2.1))) (v := (Ct x13 (v48.2.1.2.2.2.1) (v48.2.2.2.2.1))) K Aa (hN ((some 1), b12, (C5 x13 (v48.2.1.2.2.2.1) (v48.2.2.2.2.1))) (.head _) Aa) Is Aa) (by kernel_rfl) Aa fun a K => ?_
    refine DU Aa ?_
    obtain ⟨x17, h45, H⟩ := Ag H
    refine A7 (Ml := []) (Zl := []) (β := Value × Value) (rv := fun x => (B1 x17 x.1 x.2)) (MM := fun x => []) (ZZ := fun x => [row x.1 24 DT x17.un.2.1.un.2.2.2, row x.2 27 Hx x17.un.2.2.2.2]) K F XK Aa Aa (fun hL => ML _ w ((v48.2.1.2.2.2.1)) ((v48.2.2.2.2.1)) ((BC x13)) _ h45 ((Br (Ea 1 Aa) h33 (Ai.snd (Ai.fst (Ai.snd (Ai.snd (Ai.snd Ai.here))))) (congrArg (fun q : Tr37 => q.un.2.1.un.2.2.2) h34)) w F).nx ((Br (Ea 1 Aa) h33 (Ai.snd (Ai.snd (Ai.snd (Ai.snd Ai.here)))) (congrArg (fun q : Tr37 => q.un.2.2.2.2) h34)) w F).nx) fun x a w K F => ?_
    obtain ⟨v52, v53⟩ := x
    have F : Stw ⟨Y, [], w0⟩ [(b13, (C5 x15 (v51.2.1.2.2.2.1) (v51.2.2.2.2.1))), (b12, (C5 x13 (v48.2.1.2.2.2.1) (v48.2.2.2.2.1))), (b11, (EL v24)), (b10, (EL v22)), (b9, (F1 x10 v21)), (b8, (BE x9 v19 v20)), (b7, (BE x8 v17 v18)), (b6, (BE x7 v15 v16)), (b5, (CF p6)), (b4, (CD p3 v7)), (b3, (Av p2 v5 v6)), (b2, (Av p1 v3 v4)), (b1, (Av p0 v1 v2))] [row v52 24 DT x17.un.2.1.un.2.2.2, row v53 27 Hx x17.un.2.2.2.2, B7 (v49.1) Dd v50, B7 (v46.1) Dd v47, B7 v16 Dd v45, B7 v15 Gr v44, B7 v18 Dd v43, B7 v17 Gr v42, B7 v20 Dd v41, B7 v19 Gr v40, B7 v21 Gr v39, B7 v22 Dd v38, B7 v24 Dd v37, row v35 35 (Rp.vsl Bl) v36] w := F
    refine BG (N2 := []) (NZ2 := []) (N3 := [(some 1, b12, (C5 x13 (v48.2.1.2.2.2.1) (v48.2.2.2.2.1)))]) (NZ3 := []) F Aa Aa (all_cons (fun h => Ae (by kernel_rfl) h) Ab) Ab ?_
    refine DU Aa ?_
    obtain ⟨x18, h46, H⟩ := Ag H
    refine ls K F Aa (AL (v := Value.bool x18) K WB Aa (fun w F => H3 any w (v52) (v53) (Tr27.of (x17.un.1, Tr24.of (x17.un.2.1.un.1, x17.un.2.1.un.2.1, x17.un.2.1.un.2.2.1, x17.un.2.1.un.2.2.2), x17.un.2.2.1, x17.un.2.2.2.1, x17.un.2.2.2.2)) _ h46 (Er (Al 0 Aa) F) (Er (Al 1 Aa) F))) fun a w K F => ?_
    refine BG (N2 := [(some 5, b13, (C5 x15 (v51.2.1.2.2.2.1) (v51.2.2.2.2.1)))]) (NZ2 := []) (N3 := [(some 1, b12, (C5 x13 (v48.2.1.2.2.2.1) (v48.2.2.2.2.1))), (some 5, b13, (C5 x15 (v51.2.1.2.2.2.1) (v51.2.2.2.2.1)))]) (NZ3 := []) F Aa Aa (all_cons (fun h => Ae (by kernel_rfl) h) (all_cons (fun _ => (.head _)) Ab)) Ab ?_
    refine BD (R := []) K Aa Aa (yC fun M Z hN hZ => Aq K Aa) Aa Aa fun a K => ?_
    rcases bxq x18 with hb | hb
    ·
     have H := Cg hb H
     rw [hb] at K
     clear hb
     refine Ry (R := [5]) K Aa (Ac K Aa Aa Aa Aa) Aa Aa (yC fun M Z hN hZ => Cw (cs := (C5 x15 (v51.2.1.2.2.2.1) (v51.2.2.2.2.1))) (v := (Ct x15 (v51.2.1.2.2.2.1) (v51.2.2.2.2.1))) K Aa (hN ((some 5), b13, (C5 x15 (v51.2.1.2.2.2.1) (v51.2.2.2.2.1))) (.tail _ (.head _)) Aa) Is Aa) (by kernel_rfl) Aa fun a K => ?_
     refine DU Aa ?_
     refine Iq (Ac K Aa Aa Aa Aa) ?_
     obtain ⟨x19, h47, H⟩ := Ag H
     refine A7 (Ml := []) (Zl := []) (β := Value × Value) (rv := fun x => (B1 x19 x.1 x.2)) (MM := fun x => []) (ZZ := fun x => [row x.1 24 DT x19.un.2.1.un.2.2.2, row x.2 27 Hx x19.un.2.2.2.2]) K F XK Aa Aa (fun hL => ML _ w ((v51.2.1.2.2.2.1)) ((v51.2.2.2.2.1)) ((BC x15)) _ h47 ((Br (Ea 2 Aa) h42 (Ai.snd (Ai.fst (Ai.snd (Ai.snd (Ai.snd Ai.here))))) (congrArg (fun q : Tr37 => q.un.2.1.un.2.2.2) h43)) w F).nx ((Br (Ea 2 Aa) h42 (Ai.snd (Ai.snd (Ai.snd (Ai.snd Ai.here)))) (congrArg (fun q : Tr37 => q.un.2.2.2.2) h43)) w F).nx) fun x a w K F => ?_
     obtain ⟨v54, v55⟩ := x
     have F : Stw ⟨Y, [], w0⟩ [(b13, (C5 x15 (v51.2.1.2.2.2.1) (v51.2.2.2.2.1))), (b12, (C5 x13 (v48.2.1.2.2.2.1) (v48.2.2.2.2.1))), (b11, (EL v24)), (b10, (EL v22)), (b9, (F1 x10 v21)), (b8, (BE x9 v19 v20)), (b7, (BE x8 v17 v18)), (b6, (BE x7 v15 v16)), (b5, (CF p6)), (b4, (CD p3 v7)), (b3, (Av p2 v5 v6)), (b2, (Av p1 v3 v4)), (b1, (Av p0 v1 v2))] [row v54 24 DT x19.un.2.1.un.2.2.2, row v55 27 Hx x19.un.2.2.2.2, row v52 24 DT x17.un.2.1.un.2.2.2, row v53 27 Hx x17.un.2.2.2.2, B7 (v49.1) Dd v50, B7 (v46.1) Dd v47, B7 v16 Dd v45, B7 v15 Gr v44, B7 v18 Dd v43, B7 v17 Gr v42, B7 v20 Dd v41, B7 v19 Gr v40, B7 v21 Gr v39, B7 v22 Dd v38, B7 v24 Dd v37, row v35 35 (Rp.vsl Bl) v36] w := F
     refine BG (N2 := []) (NZ2 := []) (N3 := [(some 1, b12, (C5 x13 (v48.2.1.2.2.2.1) (v48.2.2.2.2.1))), (some 5, b13, (C5 x15 (v51.2.1.2.2.2.1) (v51.2.2.2.2.1)))]) (NZ3 := []) F Aa Aa (all_cons (fun h => Ae (by kernel_rfl) h) (all_cons (fun h => Ae (by kernel_rfl) h) Ab)) Ab ?_
     refine DU Aa ?_
     refine Iq (Ac K Aa Aa Aa Aa) ?_
     obtain ⟨x20, h48, H⟩ := Ag H
     refine ls K F Aa (AL (v := Value.bool x20) K WB Aa (fun w F => H3 any w (v54) (v55) (Tr27.of (x19.un.1, Tr24.of (x19.un.2.1.un.1, x19.un.2.1.un.2.1, x19.un.2.1.un.2.2.1, x19.un.2.1.un.2.2.2), x19.un.2.2.1, x19.un.2.2.2.1, x19.un.2.2.2.2)) _ h48 (Er (Al 0 Aa) F) (Er (Al 1 Aa) F))) fun a w K F => ?_
     refine BG (N2 := [(some 13, b12, (C5 x13 (v48.2.1.2.2.2.1) (v48.2.2.2.2.1))), (some 13, b5, [.int .i64 p6.1, .int .i64 p6.2.1, .int .i64 p6.2.2.1, .int .i64 p6.2.2.2]), (some 18, b13, (C5 x15 (v51.2.1.2.2.2.1) (v51.2.2.2.2.1))), (some 18, b5, [.int .i64 p6.1, .int .i64 p6.2.1, .int .i64 p6.2.2.1, .int .i64 p6.2.2.2])]) (NZ2 := []) (N3 := [(some 1, b12, (C5 x13 (v48.2.1.2.2.2.1) (v48.2.2.2.2.1))), (some 5, b13, (C5 x15 (v51.2.1.2.2.2.1) (v51.2.2.2.2.1))), (some 13, b12, (C5 x13 (v48.2.1.2.2.2.1) (v48.2.2.2.2.1))), (some 13, b5, [.int .i64 p6.1, .int .i64 p6.2.1, .int .i64 p6.2.2.1, .int .i64 p6.2.2.2]), (some 18, b13, (C5 x15 (v51.2.1.2.2.2.1) (v51.2.2.2.2.1))), (some 18, b5, [.int .i64 p6.1, .int .i64 p6.2.1, .int .i64 p6.2.2.1, .int .i64 p6.2.2.2])]) (NZ3 := []) F Aa Aa (all_cons (fun h => Ae (by kernel_rfl) h) (all_cons (fun h => Ae (by kernel_rfl) h) (all_cons (fun _ => (.tail _ (.head _))) (all_cons (fun _ => (.tail _ (.tail _ (.tail _ (.tail _ (.tail _ (.tail _ (.tail _ (.tail _ (.head _)))))))))) (all_cons (fun _ => (.head _)) (all_cons (fun _ => (.tail _ (.tail _ (.tail _ (.tail _ (.tail _ (.tail _ (.tail _ (.tail _ (.head _)))))))))) Ab)))))) Ab ?_
     refine BD (R := []) K Aa Aa (yC fun M Z hN hZ => BI K Aa Aa Aa) Aa Aa fun a K => ?_
     refine BD (R := []) K Aa Aa (yC fun M Z hN hZ => Aq K Aa) Aa Aa fun a K => ?_
     rcases bxq x20 with hb | hb
     ·
      have H := Cg hb H
      rw [hb] at K
      clear hb
      refine Ry (R := [13]) K Aa (Ac K Aa Aa Aa Aa) Aa Aa (yC fun M Z hN hZ => Cw (cs := (C5 x13 (v48.2.1.2.2.2.1) (v48.2.2.2.2.1))) (v := (Ct x13 (v48.2.1.2.2.2.1) (v48.2.2.2.2.1))) K Aa (hN ((some 13), b12, (C5 x13 (v48.2.1.2.2.2.1) (v48.2.2.2.2.1))) (.tail _ (.tail _ (.head _))) Aa) Is Aa) (by kernel_rfl) Aa fun a K => ?_
      iterate 2 refine Ry (R := []) K Aa (Ac K Aa Aa Aa Aa) Aa Aa (yC fun M Z hN hZ => Aq K Aa) Aa Aa fun a K => ?_
      refine Ry (R := [13]) K Aa (Ac K Aa Aa Aa Aa) Aa Aa (yC fun M Z hN hZ => Cw (cs := (CF p6)) (v := Value.agg #[.int .i64 p6.1, .int .i64 p6.2.1, .int .i64 p6.2.2.1, .int .i64 p6.2.2.2]) K Aa (hN ((some 13), b5, (CF p6)) (.tail _ (.tail _ (.tail _ (.head _)))) Aa) Tz Aa) (by kernel_rfl) Aa fun a K => ?_
      refine Ry (R := [18]) K Aa (Ac K Aa Aa Aa Aa) Aa Aa (yC fun M Z hN hZ => Cw (cs := (C5 x15 (v51.2.1.2.2.2.1) (v51.2.2.2.2.1))) (v := (Ct x15 (v51.2.1.2.2.2.1) (v51.2.2.2.2.1))) K Aa (hN ((some 18), b13, (C5 x15 (v51.2.1.2.2.2.1) (v51.2.2.2.2.1))) (.tail _ (.tail _ (.tail _ (.tail _ (.head _))))) Aa) Is Aa) (by kernel_rfl) Aa fun a K => ?_
      iterate 2 refine Ry (R := []) K Aa (Ac K Aa Aa Aa Aa) Aa Aa (yC fun M Z hN hZ => Aq K Aa) Aa Aa fun a K => ?_
      refine Ry (R := [18]) K Aa (Ac K Aa Aa Aa Aa) Aa Aa (yC fun M Z hN hZ => Cw (cs := (CF p6)) (v := Value.agg #[.int .i64 p6.1, .int .i64 p6.2.1, .int .i64 p6.2.2.1, .int .i64 p6.2.2.2]) K Aa (hN ((some 18), b5, (CF p6)) (.tail _ (.tail _ (.tail _ (.tail _ (.tail _ (.head _)))))) Aa) Tz Aa) (by kernel_rfl) Aa fun a K => ?_
      refine DU Aa ?_
      refine Iq (Ac K Aa Aa Aa Aa) ?_
      obtain ⟨x21, h49, H⟩ := Ag H
      refine A7 (Ml := []) (Zl := []) (β := Value) (rv := fun x => x) (MM := fun x => []) (ZZ := fun x => [row x 63 Bo x21]) K F XQ Aa Aa (fun hL => JT _ w ((v48.2.1.2.2.2.1)) ((v48.2.2.2.2.1)) ((BC x13)) p4 p5 p6 _ h49 ((Br (Ea 5 Aa) h33 (Ai.snd (Ai.fst (Ai.snd (Ai.snd (Ai.snd Ai.here))))) (congrArg (fun q : Tr37 => q.un.2.1.un.2.2.2) h34)) w F).nx (Sl.at_ (F.item (i := 5) Aa) h33 (Ai.snd (Ai.snd (Ai.snd (Ai.snd Ai.here)))) (congrArg (fun q : Tr37 => q.un.2.2.2.2) h34))) fun x a w K F => ?_
      obtain ⟨v56, rfl⟩ : ∃ y, y = x := ⟨x, rfl⟩
      have F : Stw ⟨Y, [], w0⟩ [(b13, (C5 x15 (v51.2.1.2.2.2.1) (v51.2.2.2.2.1))), (b12, (C5 x13 (v48.2.1.2.2.2.1) (v48.2.2.2.2.1))), (b11, (EL v24)), (b10, (EL v22)), (b9, (F1 x10 v21)), (b8, (BE x9 v19 v20)), (b7, (BE x8 v17 v18)), (b6, (BE x7 v15 v16)), (b5, (CF p6)), (b4, (CD p3 v7)), (b3, (Av p2 v5 v6)), (b2, (Av p1 v3 v4)), (b1, (Av p0 v1 v2))] [row v56 63 Bo x21, row v54 24 DT x19.un.2.1.un.2.2.2, row v55 27 Hx x19.un.2.2.2.2, row v52 24 DT x17.un.2.1.un.2.2.2, row v53 27 Hx x17.un.2.2.2.2, B7 (v49.1) Dd v50, B7 (v46.1) Dd v47, B7 v16 Dd v45, B7 v15 Gr v44, B7 v18 Dd v43, B7 v17 Gr v42, B7 v20 Dd v41, B7 v19 Gr v40, B7 v21 Gr v39, B7 v22 Dd v38, B7 v24 Dd v37, row v35 35 (Rp.vsl Bl) v36] w := F
      refine BG (N2 := []) (NZ2 := []) (N3 := [(some 1, b12, (C5 x13 (v48.2.1.2.2.2.1) (v48.2.2.2.2.1))), (some 5, b13, (C5 x15 (v51.2.1.2.2.2.1) (v51.2.2.2.2.1))), (some 13, b12, (C5 x13 (v48.2.1.2.2.2.1) (v48.2.2.2.2.1))), (some 13, b5, [.int .i64 p6.1, .int .i64 p6.2.1, .int .i64 p6.2.2.1, .int .i64 p6.2.2.2]), (some 18, b13, (C5 x15 (v51.2.1.2.2.2.1) (v51.2.2.2.2.1))), (some 18, b5, [.int .i64 p6.1, .int .i64 p6.2.1, .int .i64 p6.2.2.1, .int .i64 p6.2.2.2])]) (NZ3 := []) F Aa Aa (all_cons (fun h => Ae (by kernel_rfl) h) (all_cons (fun h => Ae (by kernel_rfl) h) (all_cons (fun h => Ae (by kernel_rfl) h) (all_cons (fun h => Ae (by kernel_rfl) h) (all_cons (fun _ => (.head _)) (all_cons (fun _ => (.tail _ (.tail _ (.tail _ (.tail _ (.tail _ (.tail _ (.tail _ (.tail _ (.head _)))))))))) Ab)))))) Ab ?_
      refine DU Aa ?_
      refine Iq (Ac K Aa Aa Aa Aa) ?_
      obtain ⟨x22, h50, H⟩ := Ag H
      refine A7 (Ml := []) (Zl := []) (β := Value) (rv := fun x => x) (MM := fun x => []) (ZZ := fun x => [row x 63 Bo x22]) K F XQ Aa Aa (fun hL => JT _ w ((v51.2.1.2.2.2.1)) ((v51.2.2.2.2.1)) ((BC x15)) p4 p5 p6 _ h50 ((Br (Ea 5 Aa) h42 (Ai.snd (Ai.fst (Ai.snd (Ai.snd (Ai.snd Ai.here))))) (congrArg (fun q : Tr37 => q.un.2.1.un.2.2.2) h43)) w F).nx (Sl.at_ (F.item (i := 5) Aa) h42 (Ai.snd (Ai.snd (Ai.snd (Ai.snd Ai.here)))) (congrArg (fun q : Tr37 => q.un.2.2.2.2) h43))) fun x a w K F => ?_
      obtain ⟨v57, rfl⟩ : ∃ y, y = x := ⟨x, rfl⟩
      have F : Stw ⟨Y, [], w0⟩ [(b13, (C5 x15 (v51.2.1.2.2.2.1) (v51.2.2.2.2.1))), (b12, (C5 x13 (v48.2.1.2.2.2.1) (v48.2.2.2.2.1))), (b11, (EL v24)), (b10, (EL v22)), (b9, (F1 x10 v21)), (b8, (BE x9 v19 v20)), (b7, (BE x8 v17 v18)), (b6, (BE x7 v15 v16)), (b5, (CF p6)), (b4, (CD p3 v7)), (b3, (Av p2 v5 v6)), (b2, (Av p1 v3 v4)), (b1, (Av p0 v1 v2))] [row v57 63 Bo x22, row v56 63 Bo x21, row v54 24 DT x19.un.2.1.un.2.2.2, row v55 27 Hx x19.un.2.2.2.2, row v52 24 DT x17.un.2.1.un.2.2.2, row v53 27 Hx x17.un.2.2.2.2, B7 (v49.1) Dd v50, B7 (v46.1) Dd v47, B7 v16 Dd v45, B7 v15 Gr v44, B7 v18 Dd v43, B7 v17 Gr v42, B7 v20 Dd v41, B7 v19 Gr v40, B7 v21 Gr v39, B7 v22 Dd v38, B7 v24 Dd v37, row v35 35 (Rp.vsl Bl) v36] w := F
      refine BG (N2 := []) (NZ2 := []) (N3 := [(some 1, b12, (C5 x13 (v48.2.1.2.2.2.1) (v48.2.2.2.2.1))), (some 5, b13, (C5 x15 (v51.2.1.2.2.2.1) (v51.2.2.2.2.1))), (some 13, b12, (C5 x13 (v48.2.1.2.2.2.1) (v48.2.2.2.2.1))), (some 13, b5, [.int .i64 p6.1, .int .i64 p6.2.1, .int .i64 p6.2.2.1, .int .i64 p6.2.2.2]), (some 18, b13, (C5 x15 (v51.2.1.2.2.2.1) (v51.2.2.2.2.1))), (some 18, b5, [.int .i64 p6.1, .int .i64 p6.2.1, .int .i64 p6.2.2.1, .int .i64 p6.2.2.2])]) (NZ3 := []) F Aa Aa (all_cons (fun h => Ae (by kernel_rfl) h) (all_cons (fun h => Ae (by kernel_rfl) h) (all_cons (fun h => Ae (by kernel_rfl) h) (all_cons (fun h => Ae (by kernel_rfl) h) (all_cons (fun h => Ae (by kernel_rfl) h) (all_cons (fun h => Ae (by kernel_rfl) h) Ab)))))) Ab ?_
      refine DU Aa ?_
      refine Iq (Ac K Aa Aa Aa Aa) ?_
      obtain ⟨x23, h51, H⟩ := Ag H
      refine ls K F Aa (AL (v := Value.bool x23) K Zu Aa (fun w F => RR any w (v56) (v57) x21 x22 _ h51 (Er (Al 1 Aa) F) (Er (Al 0 Aa) F))) fun a w K F => ?_
      refine BG (N2 := []) (NZ2 := []) (N3 := [(some 1, b12, (C5 x13 (v48.2.1.2.2.2.1) (v48.2.2.2.2.1))), (some 5, b13, (C5 x15 (v51.2.1.2.2.2.1) (v51.2.2.2.2.1))), (some 13, b12, (C5 x13 (v48.2.1.2.2.2.1) (v48.2.2.2.2.1))), (some 13, b5, [.int .i64 p6.1, .int .i64 p6.2.1, .int .i64 p6.2.2.1, .int .i64 p6.2.2.2]), (some 18, b13, (C5 x15 (v51.2.1.2.2.2.1) (v51.2.2.2.2.1))), (some 18, b5, [.int .i64 p6.1, .int .i64 p6.2.1, .int .i64 p6.2.2.1, .int .i64 p6.2.2.2])]) (NZ3 := []) F Aa Aa (all_cons (fun h => Ae (by kernel_rfl) h) (all_cons (fun h => Ae (by kernel_rfl) h) (all_cons (fun h => Ae (by kernel_rfl) h) (all_cons (fun h => Ae (by kernel_rfl) h) (all_cons (fun h => Ae (by kernel_rfl) h) (all_cons (fun h => Ae (by kernel_rfl) h) Ab)))))) Ab ?_
      refine Ry (R := []) K Aa (Ac K Aa Aa Aa Aa) Aa Aa (yC fun M Z hN hZ => Kx K Aa) Aa Aa fun a K => ?_
      refine BD (R := []) K Aa Aa (yC fun M Z hN hZ => BI K Aa Aa Aa) Aa Aa fun a K => ?_
      refine GM ?_
      have F := F.note (Sl.at_ (F.item (i := 7) Aa) h33 (Ai.snd (Ai.fst (Ai.snd (Ai.snd (Ai.snd Ai.here))))) (congrArg (fun q : Tr37 => q.un.2.1.un.2.2.2) h34))
      have F := F.note (Sl.at_ (F.item (i := 8) Aa) h33 (Ai.snd (Ai.snd (Ai.snd (Ai.snd Ai.here)))) (congrArg (fun q : Tr37 => q.un.2.2.2.2) h34))
      have F := F.note (Sl.at_ (F.item (i := 8) Aa) h42 (Ai.snd (Ai.fst (Ai.snd (Ai.snd (Ai.snd Ai.here))))) (congrArg (fun q : Tr37 => q.un.2.1.un.2.2.2) h43))
      have F := F.note (Sl.at_ (F.item (i := 9) Aa) h42 (Ai.snd (Ai.snd (Ai.snd (Ai.snd Ai.here)))) (congrArg (fun q : Tr37 => q.un.2.2.2.2) h43))
      refine Ad ?_
      have F := F.frontZ (i := 21) Aa Aa
      have F := F.hideR UH h17
      have F := F.frontZ (i := 21) Aa Aa
      have F := F.hideF Dy h18
      have F := F.frontZ (i := 21) Aa Aa
      have F := F.hideF Dy h19
      have F := F.frontZ (i := 21) Aa Aa
      have F := F.hideF Co h20
      have F := F.frontZ (i := 21) Aa Aa
      have F := F.hideF Co h21
      have F := F.frontZ (i := 21) Aa Aa
      have F := F.hideF Dy h22
      have F := F.frontZ (i := 21) Aa Aa
      have F := F.hideF Co h23
      have F := F.frontZ (i := 21) Aa Aa
      have F := F.hideF Dy h24
      have F := F.frontZ (i := 21) Aa Aa
      have F := F.hideF Co h25
      have F := F.frontZ (i := 21) Aa Aa
      have F := F.hideF Dy h26
      have F := F.frontZ (i := 1) Aa Aa
      have F := F.frontZ (i := 2) Aa Aa
      have F := F.frontZ (i := 3) Aa Aa
      have F := F.frontZ (i := 4) Aa Aa
      have F := F.frontZ (i := 5) Aa Aa
      have F := F.frontZ (i := 6) Aa Aa
      have F := F.frontZ (i := 7) Aa Aa
      have F := F.frontZ (i := 8) Aa Aa
      have F := F.frontZ (i := 12) Aa Aa
      have F := F.frontZ (i := 13) Aa Aa
      have F := F.frontZ (i := 12) Aa Aa
      have F := F.frontZ (i := 13) Aa Aa
      have F := F.frontZ (i := 13) Aa Aa
      have F := F.frontM (i := 12) Aa Aa
      have F := F.frontM (i := 12) Aa Aa
      have F := F.frontM (i := 12) Aa Aa
      have F := F.frontM (i := 12) Aa Aa
      have F := F.frontM (i := 12) Aa Aa
      have F := F.frontM (i := 12) Aa Aa
      have F := F.frontM (i := 12) Aa Aa
      have F := F.frontM (i := 12) Aa Aa
      have F := F.frontM (i := 12) Aa Aa
      have F := F.frontM (i := 12) Aa Aa
      have F := F.frontM (i := 12) Aa Aa
      have F := F.frontM (i := 12) Aa Aa
      have F := F.frontM (i := 12) Aa Aa
      have F := F.sub (M' := [(b13, (C5 x15 (v51.2.1.2.2.2.1) (v51.2.2.2.2.1))), (b12, (C5 x13 (v48.2.1.2.2.2.1) (v48.2.2.2.2.1))), (b11, (EL v24)), (b10, (EL v22)), (b9, (F1 x10 v21)), (b8, (BE x9 v19 v20)), (b7, (BE x8 v17 v18)), (b6, (BE x7 v15 v16)), (b5, (CF p6)), (b4, (CD p3 v7)), (b3, (Av p2 v5 v6)), (b2, (Av p1 v3 v4)), (b1, (Av p0 v1 v2))]) (Z' := [row v35 35 (Rp.slice Bl) ([([Tr37.of (4, Tr34.of (0, 0, 0, ([] : List Tr34)), 0, 0, ([(BC x7), (BC x8)] : List Tr37)), Tr37.of (4, Tr34.of (0, 0, 0, ([] : List Tr34)), 0, 0, ([(BC x8), (BC x7), (BC x8)] : List Tr37))] : List Tr37), ([Tr37.of (3, Tr34.of (0, 0, 0, ([] : List Tr34)), 0, 0, ([(BC x7), (BC x8), (BC x9)] : List Tr37)), Tr37.of (3, Tr34.of (0, 0, 0, ([] : List Tr34)), 0, 0, ([(BC x7), Tr37.of (3, Tr34.of (0, 0, 0, ([] : List Tr34)), 0, 0, ([(BC x8), (BC x9)] : List Tr37))] : List Tr37))] : List Tr37), ([Tr37.of (5, x10, 0, 0, ([(BC x7), (BC x8)] : List Tr37)), Tr37.of (4, Tr34.of (0, 0, 0, ([] : List Tr34)), 0, 0, ([Tr37.of (3, Tr34.of (0, 0, 0, ([] : List Tr34)), 0, 0, ([Tr37.of (1, x10, 0, 0, ([] : List Tr37)), (BC x7)] : List Tr37)), Tr37.of (3, Tr34.of (0, 0, 0, ([] : List Tr34)), 0, 0, ([Tr37.of (1, Tr34.of (4, 0, 0, ([x10] : List Tr34)), 0, 0, ([] : List Tr37)), (BC x8)] : List Tr37))] : List Tr37))] : List Tr37)] : List (List Tr37)), B7 (v51.2.1.2.2.2.1) Bj x15.un.2.1.un.2.2.2, B7 (v51.2.2.2.2.1) Bl x15.un.2.2.2.2, B7 (v48.2.1.2.2.2.1) Bj x13.un.2.1.un.2.2.2, B7 (v48.2.2.2.2.1) Bl x13.un.2.2.2.2, B7 v24 Bl ([Tr37.of (1, Tr34.of (4, 0, 0, ([x10] : List Tr34)), 0, 0, ([] : List Tr37)), (BC x8)] : List Tr37), B7 v22 Bl ([Tr37.of (1, x10, 0, 0, ([] : List Tr37)), (BC x7)] : List Tr37), B7 v21 Bj x10.un.2.2.2, B7 v19 Bj x9.un.2.1.un.2.2.2, B7 v20 Bl x9.un.2.2.2.2, B7 v17 Bj x8.un.2.1.un.2.2.2, B7 v18 Bl x8.un.2.2.2.2, B7 v15 Bj x7.un.2.1.un.2.2.2, B7 v16 Bl x7.un.2.2.2.2]) (List.Sublist.refl _) (List.Sublist.cons_cons _ (List.Sublist.cons_cons _ (List.Sublist.cons_cons _ (List.Sublist.cons_cons _ (List.Sublist.cons_cons _ (List.Sublist.cons_cons _ (List.Sublist.cons_cons _ (List.Sublist.cons_cons _ (List.Sublist.cons_cons _ (List.Sublist.cons_cons _ (List.Sublist.cons_cons _ (List.Sublist.cons_cons _ (List.Sublist.cons_cons _ (List.Sublist.cons_cons _ (List.nil_sublist _)))))))))))))))
      exact ⟨_, H, K.ra Aa, F⟩
     have H := Cf (by rw [hb]; decide) H
     rw [hb] at K
     clear hb
     iterate 8 refine Md K Aa (Be K Aa Aa Aa Aa Aa) Aa Aa Aa fun a K => ?_
     refine DU Aa ?_
     refine Vx K Aa Aa Aa Aa Aa Aa Aa fun a K => ?_
     refine BG (N2 := []) (NZ2 := []) (N3 := [(some 1, b12, (C5 x13 (v48.2.1.2.2.2.1) (v48.2.2.2.2.1))), (some 5, b13, (C5 x15 (v51.2.1.2.2.2.1) (v51.2.2.2.2.1))), (some 13, b12, (C5 x13 (v48.2.1.2.2.2.1) (v48.2.2.2.2.1))), (some 13, b5, [.int .i64 p6.1, .int .i64 p6.2.1, .int .i64 p6.2.2.1, .int .i64 p6.2.2.2]), (some 18, b13, (C5 x15 (v51.2.1.2.2.2.1) (v51.2.2.2.2.1))), (some 18, b5, [.int .i64 p6.1, .int .i64 p6.2.1, .int .i64 p6.2.2.1, .int .i64 p6.2.2.2])]) (NZ3 := []) F Aa Aa (all_cons (fun h => Ae (by kernel_rfl) h) (all_cons (fun h => Ae (by kernel_rfl) h) (all_cons (fun h => Ae (by kernel_rfl) h) (all_cons (fun h => Ae (by kernel_rfl) h) (all_cons (fun _ => (.head _)) (all_cons (fun _ => (.tail _ (.tail _ (.tail _ (.tail _ (.tail _ (.tail _ (.tail _ (.tail _ (.head _)))))))))) Ab)))))) Ab ?_
     refine DU Aa ?_
     refine Vx K Aa Aa Aa Aa Aa Aa Aa fun a K => ?_
     refine BG (N2 := []) (NZ2 := []) (N3 := [(some 1, b12, (C5 x13 (v48.2.1.2.2.2.1) (v48.2.2.2.2.1))), (some 5, b13, (C5 x15 (v51.2.1.2.2.2.1) (v51.2.2.2.2.1))), (some 13, b12, (C5 x13 (v48.2.1.2.2.2.1) (v48.2.2.2.2.1))), (some 13, b5, [.int .i64 p6.1, .int .i64 p6.2.1, .int .i64 p6.2.2.1, .int .i64 p6.2.2.2]), (some 18, b13, (C5 x15 (v51.2.1.2.2.2.1) (v51.2.2.2.2.1))), (some 18, b5, [.int .i64 p6.1, .int .i64 p6.2.1, .int .i64 p6.2.2.1, .int .i64 p6.2.2.2])]) (NZ3 := []) F Aa Aa (all_cons (fun h => Ae (by kernel_rfl) h) (all_cons (fun h => Ae (by kernel_rfl) h) (all_cons (fun h => Ae (by kernel_rfl) h) (all_cons (fun h => Ae (by kernel_rfl) h) (all_cons (fun h => Ae (by kernel_rfl) h) (all_cons (fun h => Ae (by kernel_rfl) h) Ab)))))) Ab ?_
     refine DU Aa ?_
     refine Vx K Aa Aa Aa Aa Aa Aa Aa fun a K => ?_
     refine BG (N2 := []) (NZ2 := []) (N3 := [(some 1, b12, (C5 x13 (v48.2.1.2.2.2.1) (v48.2.2.2.2.1))), (some 5, b13, (C5 x15 (v51.2.1.2.2.2.1) (v51.2.2.2.2.1))), (some 13, b12, (C5 x13 (v48.2.1.2.2.2.1) (v48.2.2.2.2.1))), (some 13, b5, [.int .i64 p6.1, .int .i64 p6.2.1, .int .i64 p6.2.2.1, .int .i64 p6.2.2.2]), (some 18, b13, (C5 x15 (v51.2.1.2.2.2.1) (v51.2.2.2.2.1))), (some 18, b5, [.int .i64 p6.1, .int .i64 p6.2.1, .int .i64 p6.2.2.1, .int .i64 p6.2.2.2])]) (NZ3 := []) F Aa Aa (all_cons (fun h => Ae (by kernel_rfl) h) (all_cons (fun h => Ae (by kernel_rfl) h) (all_cons (fun h => Ae (by kernel_rfl) h) (all_cons (fun h => Ae (by kernel_rfl) h) (all_cons (fun h => Ae (by kernel_rfl) h) (all_cons (fun h => Ae (by kernel_rfl) h) Ab)))))) Ab ?_
     refine Md K Aa (Be K Aa Aa Aa Aa Aa) Aa Aa Aa fun a K => ?_
     refine BD (R := []) K Aa Aa (yC fun M Z hN hZ => BA K Aa Aa Aa) Aa Aa fun a K => ?_
     refine GM ?_
     have F := F.note (Sl.at_ (F.item (i := 5) Aa) h33 (Ai.snd (Ai.fst (Ai.snd (Ai.snd (Ai.snd Ai.here))))) (congrArg (fun q : Tr37 => q.un.2.1.un.2.2.2) h34))
     have F := F.note (Sl.at_ (F.item (i := 6) Aa) h33 (Ai.snd (Ai.snd (Ai.snd (Ai.snd Ai.here)))) (congrArg (fun q : Tr37 => q.un.2.2.2.2) h34))
     have F := F.note (Sl.at_ (F.item (i := 6) Aa) h42 (Ai.snd (Ai.fst (Ai.snd (Ai.snd (Ai.snd Ai.here))))) (congrArg (fun q : Tr37 => q.un.2.1.un.2.2.2) h43))
     have F := F.note (Sl.at_ (F.item (i := 7) Aa) h42 (Ai.snd (Ai.snd (Ai.snd (Ai.snd Ai.here)))) (congrArg (fun q : Tr37 => q.un.2.2.2.2) h43))
     refine Ad ?_
     have F := F.frontZ (i := 19) Aa Aa
     have F := F.hideR UH h17
     have F := F.frontZ (i := 19) Aa Aa
     have F := F.hideF Dy h18
     have F := F.frontZ (i := 19) Aa Aa
     have F := F.hideF Dy h19
     have F := F.frontZ (i := 19) Aa Aa
     have F := F.hideF Co h20
     have F := F.frontZ (i := 19) Aa Aa
     have F := F.hideF Co h21
     have F := F.frontZ (i := 19) Aa Aa
     have F := F.hideF Dy h22
     have F := F.frontZ (i := 19) Aa Aa
     have F := F.hideF Co h23
     have F := F.frontZ (i := 19) Aa Aa
     have F := F.hideF Dy h24
     have F := F.frontZ (i := 19) Aa Aa
     have F := F.hideF Co h25
     have F := F.frontZ (i := 19) Aa Aa
     have F := F.hideF Dy h26
     have F := F.frontZ (i := 1) Aa Aa
     have F := F.frontZ (i := 2) Aa Aa
     have F := F.frontZ (i := 3) Aa Aa
     have F := F.frontZ (i := 4) Aa Aa
     have F := F.frontZ (i := 5) Aa Aa
     have F := F.frontZ (i := 6) Aa Aa
     have F := F.frontZ (i := 7) Aa Aa
     have F := F.frontZ (i := 8) Aa Aa
     have F := F.frontZ (i := 12) Aa Aa
     have F := F.frontZ (i := 13) Aa Aa
     have F := F.frontZ (i := 12) Aa Aa
     have F := F.frontZ (i := 13) Aa Aa
     have F := F.frontZ (i := 13) Aa Aa
     have F := F.frontM (i := 12) Aa Aa
     have F := F.frontM (i := 12) Aa Aa
     have F := F.frontM (i := 12) Aa Aa
     have F := F.frontM (i := 12) Aa Aa
     have F := F.frontM (i := 12) Aa Aa
     have F := F.frontM (i := 12) Aa Aa
     have F := F.frontM (i := 12) Aa Aa
     have F := F.frontM (i := 12) Aa Aa
     have F := F.frontM (i := 12) Aa Aa
     have F := F.frontM (i := 12) Aa Aa
     have F := F.frontM (i := 12) Aa Aa
     have F := F.frontM (i := 12) Aa Aa
     have F := F.frontM (i := 12) Aa Aa
     have F := F.sub (M' := [(b13, (C5 x15 (v51.2.1.2.2.2.1) (v51.2.2.2.2.1))), (b12, (C5 x13 (v48.2.1.2.2.2.1) (v48.2.2.2.2.1))), (b11, (EL v24)), (b10, (EL v22)), (b9, (F1 x10 v21)), (b8, (BE x9 v19 v20)), (b7, (BE x8 v17 v18)), (b6, (BE x7 v15 v16)), (b5, (CF p6)), (b4, (CD p3 v7)), (b3, (Av p2 v5 v6)), (b2, (Av p1 v3 v4)), (b1, (Av p0 v1 v2))]) (Z' := [row v35 35 (Rp.slice Bl) ([([Tr37.of (4, Tr34.of (0, 0, 0, ([] : List Tr34)), 0, 0, ([(BC x7), (BC x8)] : List Tr37)), Tr37.of (4, Tr34.of (0, 0, 0, ([] : List Tr34)), 0, 0, ([(BC x8), (BC x7), (BC x8)] : List Tr37))] : List Tr37), ([Tr37.of (3, Tr34.of (0, 0, 0, ([] : List Tr34)), 0, 0, ([(BC x7), (BC x8), (BC x9)] : List Tr37)), Tr37.of (3, Tr34.of (0, 0, 0, ([] : List Tr34)), 0, 0, ([(BC x7), Tr37.of (3, Tr34.of (0, 0, 0, ([] : List Tr34)), 0, 0, ([(BC x8), (BC x9)] : List Tr37))] : List Tr37))] : List Tr37), ([Tr37.of (5, x10, 0, 0, ([(BC x7), (BC x8)] : List Tr37)), Tr37.of (4, Tr34.of (0, 0, 0, ([] : List Tr34)), 0, 0, ([Tr37.of (3, Tr34.of (0, 0, 0, ([] : List Tr34)), 0, 0, ([Tr37.of (1, x10, 0, 0, ([] : List Tr37)), (BC x7)] : List Tr37)), Tr37.of (3, Tr34.of (0, 0, 0, ([] : List Tr34)), 0, 0, ([Tr37.of (1, Tr34.of (4, 0, 0, ([x10] : List Tr34)), 0, 0, ([] : List Tr37)), (BC x8)] : List Tr37))] : List Tr37))] : List Tr37)] : List (List Tr37)), B7 (v51.2.1.2.2.2.1) Bj x15.un.2.1.un.2.2.2, B7 (v51.2.2.2.2.1) Bl x15.un.2.2.2.2, B7 (v48.2.1.2.2.2.1) Bj x13.un.2.1.un.2.2.2, B7 (v48.2.2.2.2.1) Bl x13.un.2.2.2.2, B7 v24 Bl ([Tr37.of (1, Tr34.of (4, 0, 0, ([x10] : List Tr34)), 0, 0, ([] : List Tr37)), (BC x8)] : List Tr37), B7 v22 Bl ([Tr37.of (1, x10, 0, 0, ([] : List Tr37)), (BC x7)] : List Tr37), B7 v21 Bj x10.un.2.2.2, B7 v19 Bj x9.un.2.1.un.2.2.2, B7 v20 Bl x9.un.2.2.2.2, B7 v17 Bj x8.un.2.1.un.2.2.2, B7 v18 Bl x8.un.2.2.2.2, B7 v15 Bj x7.un.2.1.un.2.2.2, B7 v16 Bl x7.un.2.2.2.2]) (List.Sublist.refl _) (List.Sublist.cons_cons _ (List.Sublist.cons_cons _ (List.Sublist.cons_cons _ (List.Sublist.cons_cons _ (List.Sublist.cons_cons _ (List.Sublist.cons_cons _ (List.Sublist.cons_cons _ (List.Sublist.cons_cons _ (List.Sublist.cons_cons _ (List.Sublist.cons_cons _ (List.Sublist.cons_cons _ (List.Sublist.cons_cons _ (List.Sublist.cons_cons _ (List.Sublist.cons_cons _ (List.nil_sublist _)))))))))))))))
     exact ⟨_, H, K.ra Aa, F⟩
    have H := Cf (by rw [hb]; decide) H
    rw [hb] at K
    clear hb
    refine Md K Aa (Be K Aa Aa Aa Aa Aa) Aa Aa Aa fun a K => ?_
    refine DU Aa ?_
    refine Vx K Aa Aa Aa Aa Aa Aa Aa fun a K => ?_
    refine BG (N2 := []) (NZ2 := []) (N3 := [(some 1, b12, (C5 x13 (v48.2.1.2.2.2.1) (v48.2.2.2.2.1))), (some 5, b13, (C5 x15 (v51.2.1.2.2.2.1) (v51.2.2.2.2.1)))]) (NZ3 := []) F Aa Aa (all_cons (fun h => Ae (by kernel_rfl) h) (all_cons (fun h => Ae (by kernel_rfl) h) Ab)) Ab ?_
    refine DU Aa ?_
    refine Vx K Aa Aa Aa Aa Aa Aa Aa fun a K => ?_
    refine BG (N2 := []) (NZ2 := []) (N3 := [(some 1, b12, (C5 x13 (v48.2.1.2.2.2.1) (v48.2.2.2.2.1))), (some 5, b13, (C5 x15 (v51.2.1.2.2.2.1) (v51.2.2.2.2.1)))]) (NZ3 := []) F Aa Aa (all_cons (fun h => Ae (by kernel_rfl) h) (all_cons (fun h => Ae (by kernel_rfl) h) Ab)) Ab ?_
    refine BD (R := []) K Aa Aa (yC fun M Z hN hZ => BA K Aa Aa Aa) Aa Aa fun a K => ?_
    refine BD (R := []) K Aa Aa (yC fun M Z hN hZ => Aq K Aa) Aa Aa fun a K => ?_
    iterate 8 refine Md K Aa (Be K Aa Aa Aa Aa Aa) Aa Aa Aa fun a K => ?_
    refine DU Aa ?_
    refine Vx K Aa Aa Aa Aa Aa Aa Aa fun a K => ?_
    refine BG (N2 := []) (NZ2 := []) (N3 := [(some 1, b12, (C5 x13 (v48.2.1.2.2.2.1) (v48.2.2.2.2.1))), (some 5, b13, (C5 x15 (v51.2.1.2.2.2.1) (v51.2.2.2.2.1)))]) (NZ3 := []) F Aa Aa (all_cons (fun h => Ae (by kernel_rfl) h) (all_cons (fun h => Ae (by kernel_rfl) h) Ab)) Ab ?_
    refine DU Aa ?_
    refine Vx K Aa Aa Aa Aa Aa Aa Aa fun a K => ?_
    refine BG (N2 := []) (NZ2 := []) (N3 := [(some 1, b12, (C5 x13 (v48.2.1.2.2.2.1) (v48.2.2.2.2.1))), (some 5, b13, (C5 x15 (v51.2.1.2.2.2.1) (v51.2.2.2.2.1)))]) (NZ3 := []) F Aa Aa (all_cons (fun h => Ae (by kernel_rfl) h) (all_cons (fun h => Ae (by kernel_rfl) h) Ab)) Ab ?_
    refine DU Aa ?_
    refine Vx K Aa Aa Aa Aa Aa Aa Aa fun a K => ?_
    refine BG (N2 := []) (NZ2 := []) (N3 := [(some 1, b12, (C5 x13 (v48.2.1.2.2.2.1) (v48.2.2.2.2.1))), (some 5, b13, (C5 x15 (v51.2.1.2.2.2.1) (v51.2.2.2.2.1)))]) (NZ3 := []) F Aa Aa (all_cons (fun h => Ae (by kernel_rfl) h) (all_cons (fun h => Ae (by kernel_rfl) h) Ab)) Ab ?_
    refine Md K Aa (Be K Aa Aa Aa Aa Aa) Aa Aa Aa fun a K => ?_
    refine BD (R := []) K Aa Aa (yC fun M Z hN hZ => BA K Aa Aa Aa) Aa Aa fun a K => ?_
    refine GM ?_
    have F := F.note (Sl.at_ (F.item (i := 3) Aa) h33 (Ai.snd (Ai.fst (Ai.snd (Ai.snd (Ai.snd Ai.here))))) (congrArg (fun q : Tr37 => q.un.2.1.un.2.2.2) h34))
    have F := F.note (Sl.at_ (F.item (i := 4) Aa) h33 (Ai.snd (Ai.snd (Ai.snd (Ai.snd Ai.here)))) (congrArg (fun q : Tr37 => q.un.2.2.2.2) h34))
    have F := F.note (Sl.at_ (F.item (i := 4) Aa) h42 (Ai.snd (Ai.fst (Ai.snd (Ai.snd (Ai.snd Ai.here))))) (congrArg (fun q : Tr37 => q.un.2.1.un.2.2.2) h43))
    have F := F.note (Sl.at_ (F.item (i := 5) Aa) h42 (Ai.snd (Ai.snd (Ai.snd (Ai.snd Ai.here)))) (congrArg (fun q : Tr37 => q.un.2.2.2.2) h43))
    refine Ad ?_
    have F := F.frontZ (i := 17) Aa Aa
    have F := F.hideR UH h17
    have F := F.frontZ (i := 17) Aa Aa
    have F := F.hideF Dy h18
    have F := F.frontZ (i := 17) Aa Aa
    have F := F.hideF Dy h19
    have F := F.frontZ (i := 17) Aa Aa
    have F := F.hideF Co h20
    have F := F.frontZ (i := 17) Aa Aa
    have F := F.hideF Co h21
    have F := F.frontZ (i := 17) Aa Aa
    have F := F.hideF Dy h22
    have F := F.frontZ (i := 17) Aa Aa
    have F := F.hideF Co h23
    have F := F.frontZ (i := 17) Aa Aa
    have F := F.hideF Dy h24
    have F := F.frontZ (i := 17) Aa Aa
    have F := F.hideF Co h25
    have F := F.frontZ (i := 17) Aa Aa
    have F := F.hideF Dy h26
    have F := F.frontZ (i := 1) Aa Aa
    have F := F.frontZ (i := 2) Aa Aa
    have F := F.frontZ (i := 3) Aa Aa
    have F := F.frontZ (i := 4) Aa Aa
    have F := F.frontZ (i := 5) Aa Aa
    have F := F.frontZ (i := 6) Aa Aa
    have F := F.frontZ (i := 7) Aa Aa
    have F := F.frontZ (i := 8) Aa Aa
    have F := F.frontZ (i := 12) Aa Aa
    have F := F.frontZ (i := 13) Aa Aa
    have F := F.frontZ (i := 12) Aa Aa
    have F := F.frontZ (i := 13) Aa Aa
    have F := F.frontZ (i := 13) Aa Aa
    have F := F.frontM (i := 12) Aa Aa
    have F := F.frontM (i := 12) Aa Aa
    have F := F.frontM (i := 12) Aa Aa
    have F := F.frontM (i := 12) Aa Aa
    have F := F.frontM (i := 12) Aa Aa
    have F := F.frontM (i := 12) Aa Aa
    have F := F.frontM (i := 12) Aa Aa
    have F := F.frontM (i := 12) Aa Aa
    have F := F.frontM (i := 12) Aa Aa
    have F := F.frontM (i := 12) Aa Aa
    have F := F.frontM (i := 12) Aa Aa
    have F := F.frontM (i := 12) Aa Aa
    have F := F.frontM (i := 12) Aa Aa
    have F := F.sub (M' := [(b13, (C5 x15 (v51.2.1.2.2.2.1) (v51.2.2.2.2.1))), (b12, (C5 x13 (v48.2.1.2.2.2.1) (v48.2.2.2.2.1))), (b11, (EL v24)), (b10, (EL v22)), (b9, (F1 x10 v21)), (b8, (BE x9 v19 v20)), (b7, (BE x8 v17 v18)), (b6, (BE x7 v15 v16)), (b5, (CF p6)), (b4, (CD p3 v7)), (b3, (Av p2 v5 v6)), (b2, (Av p1 v3 v4)), (b1, (Av p0 v1 v2))]) (Z' := [row v35 35 (Rp.slice Bl) ([([Tr37.of (4, Tr34.of (0, 0, 0, ([] : List Tr34)), 0, 0, ([(BC x7), (BC x8)] : List Tr37)), Tr37.of (4, Tr34.of (0, 0, 0, ([] : List Tr34)), 0, 0, ([(BC x8), (BC x7), (BC x8)] : List Tr37))] : List Tr37), ([Tr37.of (3, Tr34.of (0, 0, 0, ([] : List Tr34)), 0, 0, ([(BC x7), (BC x8), (BC x9)] : List Tr37)), Tr37.of (3, Tr34.of (0, 0, 0, ([] : List Tr34)), 0, 0, ([(BC x7), Tr37.of (3, Tr34.of (0, 0, 0, ([] : List Tr34)), 0, 0, ([(BC x8), (BC x9)] : List Tr37))] : List Tr37))] : List Tr37), ([Tr37.of (5, x10, 0, 0, ([(BC x7), (BC x8)] : List Tr37)), Tr37.of (4, Tr34.of (0, 0, 0, ([] : List Tr34)), 0, 0, ([Tr37.of (3, Tr34.of (0, 0, 0, ([] : List Tr34)), 0, 0, ([Tr37.of (1, x10, 0, 0, ([] : List Tr37)), (BC x7)] : List Tr37)), Tr37.of (3, Tr34.of (0, 0, 0, ([] : List Tr34)), 0, 0, ([Tr37.of (1, Tr34.of (4, 0, 0, ([x10] : List Tr34)), 0, 0, ([] : List Tr37)), (BC x8)] : List Tr37))] : List Tr37))] : List Tr37)] : List (List Tr37)), B7 (v51.2.1.2.2.2.1) Bj x15.un.2.1.un.2.2.2, B7 (v51.2.2.2.2.1) Bl x15.un.2.2.2.2, B7 (v48.2.1.2.2.2.1) Bj x13.un.2.1.un.2.2.2, B7 (v48.2.2.2.2.1) Bl x13.un.2.2.2.2, B7 v24 Bl ([Tr37.of (1, Tr34.of (4, 0, 0, ([x10] : List Tr34)), 0, 0, ([] : List Tr37)), (BC x8)] : List Tr37), B7 v22 Bl ([Tr37.of (1, x10, 0, 0, ([] : List Tr37)), (BC x7)] : List Tr37), B7 v21 Bj x10.un.2.2.2, B7 v19 Bj x9.un.2.1.un.2.2.2, B7 v20 Bl x9.un.2.2.2.2, B7 v17 Bj x8.un.2.1.un.2.2.2, B7 v18 Bl x8.un.2.2.2.2, B7 v15 Bj x7.un.2.1.un.2.2.2, B7 v16 Bl x7.un.2.2.2.2]) (List.Sublist.refl _) (List.Sublist.cons_cons _ (List.Sublist.cons_cons _ (List.Sublist.cons_cons _ (List.Sublist.cons_cons _ (List.Sublist.cons_cons _ (List.Sublist.cons_cons _ (List.Sublist.cons_cons _ (List.Sublist.cons_cons _ (List.Sublist.cons_cons _ (List.Sublist.cons_cons _ (List.Sublist.cons_cons _ (List.Sublist.cons_cons _ (List.Sublist.cons_cons _ (List.Sublist.cons_cons _ (List.nil_sublist _)))))))))))))))
    exact ⟨_, H, K.ra Aa, F⟩
   rintro a w ⟨x16, hj, K, F⟩
   have hj := AC hj
   subst hj
   have H := K4
   clear G4 K4
   refine CK K Aa H (fun K H => ?_) fun K H => ?_
   ·
    refine vc tk 5 K F fun a w K F => ?_
    refine Am (AH ?_)
    iterate 2 refine Az ?_
    refine AH (Az ?_)
    have H := L3 _ H
    have H := L2 _ H
    have H := AC H
    subst H
    refine Ax (.inl Aa) K F Aa (Ap K Aa) ?_
    exact ⟨rfl, F.done⟩
   refine Bc (AM ?_)
   refine vn tk 5 K F fun a w K F => ?_
   refine Ad ?_
   have F := F.frontZ (i := 13) Aa Aa
   have F := F.frontZ (i := 13) Aa Aa
   have F := F.frontZ (i := 13) Aa Aa
   have F := F.frontZ (i := 13) Aa Aa
   have F := F.frontZ (i := 13) Aa Aa
   have F := F.frontZ (i := 13) Aa Aa
   have F := F.frontZ (i := 13) Aa Aa
   have F := F.frontZ (i := 13) Aa Aa
   have F := F.frontZ (i := 13) Aa Aa
   have F := F.frontZ (i := 9) Aa Aa
   have F := F.frontM (i := 12) Aa Aa
   have F := F.frontM (i := 12) Aa Aa
   have F := F.frontM (i := 12) Aa Aa
   have F := F.frontM (i := 12) Aa Aa
   have F := F.frontM (i := 12) Aa Aa
   have F := F.frontM (i := 12) Aa Aa
   have F := F.frontM (i := 12) Aa Aa
   have F := F.frontM (i := 12) Aa Aa
   have F := F.frontM (i := 12) Aa Aa
   have F := F.frontM (i := 12) Aa Aa
   have F := F.frontM (i := 12) Aa Aa
   have F := F.sub (M' := [(b11, (EL v24)), (b10, (EL v22)), (b9, (F1 x10 v21)), (b8, (BE x9 v19 v20)), (b7, (BE x8 v17 v18)), (b6, (BE x7 v15 v16)), (b5, (CF p6)), (b4, (CD p3 v7)), (b3, (Av p2 v5 v6)), (b2, (Av p1 v3 v4)), (b1, (Av p0 v1 v2))]) (Z' := [row v35 35 (Rp.slice Bl) ([([Tr37.of (4, Tr34.of (0, 0, 0, ([] : List Tr34)), 0, 0, ([(BC x7), (BC x8)] : List Tr37)), Tr37.of (4, Tr34.of (0, 0, 0, ([] : List Tr34)), 0, 0, ([(BC x8), (BC x7), (BC x8)] : List Tr37))] : List Tr37), ([Tr37.of (3, Tr34.of (0, 0, 0, ([] : List Tr34)), 0, 0, ([(BC x7), (BC x8), (BC x9)] : List Tr37)), Tr37.of (3, Tr34.of (0, 0, 0, ([] : List Tr34)), 0, 0, ([(BC x7), Tr37.of (3, Tr34.of (0, 0, 0, ([] : List Tr34)), 0, 0, ([(BC x8), (BC x9)] : List Tr37))] : List Tr37))] : List Tr37), ([Tr37.of (5, x10, 0, 0, ([(BC x7), (BC x8)] : List Tr37)), Tr37.of (4, Tr34.of (0, 0, 0, ([] : List Tr34)), 0, 0, ([Tr37.of (3, Tr34.of (0, 0, 0, ([] : List Tr34)), 0, 0, ([Tr37.of (1, x10, 0, 0, ([] : List Tr37)), (BC x7)] : List Tr37)), Tr37.of (3, Tr34.of (0, 0, 0, ([] : List Tr34)), 0, 0, ([Tr37.of (1, Tr34.of (4, 0, 0, ([x10] : List Tr34)), 0, 0, ([] : List Tr37)), (BC x8)] : List Tr37))] : List Tr37))] : List Tr37)] : List (List Tr37)), B7 v24 Bl ([Tr37.of (1, Tr34.of (4, 0, 0, ([x10] : List Tr34)), 0, 0, ([] : List Tr37)), (BC x8)] : List Tr37), B7 v22 Bl ([Tr37.of (1, x10, 0, 0, ([] : List Tr37)), (BC x7)] : List Tr37), B7 v21 Bj x10.un.2.2.2, B7 v19 Bj x9.un.2.1.un.2.2.2, B7 v20 Bl x9.un.2.2.2.2, B7 v17 Bj x8.un.2.1.un.2.2.2, B7 v18 Bl x8.un.2.2.2.2, B7 v15 Bj x7.un.2.1.un.2.2.2, B7 v16 Bl x7.un.2.2.2.2]) (List.Sublist.cons_cons _ (List.Sublist.cons_cons _ (List.Sublist.cons_cons _ (List.Sublist.cons_cons _ (List.Sublist.cons_cons _ (List.Sublist.cons_cons _ (List.Sublist.cons_cons _ (List.Sublist.cons_cons _ (List.Sublist.cons_cons _ (List.Sublist.cons_cons _ (List.Sublist.cons_cons _ (List.nil_sublist _)))))))))))) (List.Sublist.cons_cons _ (List.Sublist.cons_cons _ (List.Sublist.cons_cons _ (List.Sublist.cons_cons _ (List.Sublist.cons_cons _ (List.Sublist.cons_cons _ (List.Sublist.cons_cons _ (List.Sublist.cons_cons _ (List.Sublist.cons_cons _ (List.Sublist.cons_cons _ (List.nil_sublist _)))))))))))
   exact ⟨_, H, K.ra Aa, F⟩
  refine BB ?_
  iterate 2 refine BR ?_
  refine Bx (Ad ?_)
  have F := F.frontZ (i := 9) Aa Aa
  have F := F.frontZ (i := 9) Aa Aa
  have F := F.frontZ (i := 9) Aa Aa
  have F := F.frontZ (i := 9) Aa Aa
  have F := F.frontZ (i := 9) Aa Aa
  have F := F.frontZ (i := 9) Aa Aa
  have F := F.frontZ (i := 9) Aa Aa
  have F := F.frontZ (i := 9) Aa Aa
  have F := F.frontZ (i := 9) Aa Aa
  have F := F.frontM (i := 10) Aa Aa
  have F := F.frontM (i := 10) Aa Aa
  have F := F.frontM (i := 10) Aa Aa
  have F := F.frontM (i := 10) Aa Aa
  have F := F.frontM (i := 10) Aa Aa
  have F := F.frontM (i := 10) Aa Aa
  have F := F.frontM (i := 10) Aa Aa
  have F := F.frontM (i := 10) Aa Aa
  have F := F.frontM (i := 10) Aa Aa
  have F := F.frontM (i := 10) Aa Aa
  have F := F.frontM (i := 10) Aa Aa
  have F := F.sub (M' := [(b11, (EL v24)), (b10, (EL v22)), (b9, (F1 x10 v21)), (b8, (BE x9 v19 v20)), (b7, (BE x8 v17 v18)), (b6, (BE x7 v15 v16)), (b5, (CF p6)), (b4, (CD p3 v7)), (b3, (Av p2 v5 v6)), (b2, (Av p1 v3 v4)), (b1, (Av p0 v1 v2))]) (Z' := [B7 v24 Bl ([Tr37.of (1, Tr34.of (4, 0, 0, ([x10] : List Tr34)), 0, 0, ([] : List Tr37)), (BC x8)] : List Tr37), B7 v22 Bl ([Tr37.of (1, x10, 0, 0, ([] : List Tr37)), (BC x7)] : List Tr37), B7 v21 Bj x10.un.2.2.2, B7 v19 Bj x9.un.2.1.un.2.2.2, B7 v20 Bl x9.un.2.2.2.2, B7 v17 Bj x8.un.2.1.un.2.2.2, B7 v18 Bl x8.un.2.2.2.2, B7 v15 Bj x7.un.2.1.un.2.2.2, B7 v16 Bl x7.un.2.2.2.2]) (List.Sublist.refl _) (List.Sublist.cons_cons _ (List.Sublist.cons_cons _ (List.Sublist.cons_cons _ (List.Sublist.cons_cons _ (List.Sublist.cons_cons _ (List.Sublist.cons_cons _ (List.Sublist.cons_cons _ (List.Sublist.cons_cons _ (List.Sublist.cons_cons _ (List.nil_sublist _))))))))))
  have H := L3 _ H
  exact ⟨H, K.ra Aa, F⟩
 rintro a w ⟨hj, K, F⟩
 have H := K2 _ hj
 clear hj G2 K2 L2
 refine vc tk 2 K F fun a w K F => ?_
 obtain ⟨x24, h52, H⟩ := Ag H
 refine ls K F Aa (AL (v := Value.bool x24) K H7 Aa (fun w F => Np any w _ h52 (hG.go0 F))) fun a w K F => ?_
 refine Cv tk 3 K F fun a w K F => ?_
 refine Am ?_
 have H := AC H
 subst H
 refine Ax (.inl Aa) K F Aa (Ap K Aa) ?_
 exact ⟨rfl, F.done⟩
end Go.Proofs.YtpckgggmgijiiaaGreatDoor
