/- The functions of layer 11, Ez. Conditions: none. -/
import Derived.Test.YtkjjioigbpkifaacA7
namespace Go.Proofs.Ytkjjioigbpkifaa
open Go Go.RowKit
set_option linter.unusedVariables false
set_option linter.unusedSimpArgs false
set_option maxRecDepth 20000
set_option synthInstance.maxSize 1000
theorem QF : Has Try.prog 69 := ⟨fun args w => An Try.func69 rfl (by decide) args w⟩
def As (p0 : Int × (Int × (Int × Int × Int × Int) × (Int × Int × Int × Int)) × (List (Int × Int × Int))) (p1 : List (Int × Int × Int)) : (Int × (Int × (Int × Int × Int × Int) × (Int × Int × Int × Int)) × (List (Int × Int × Int))) := (p0.1, p0.2.1, p1)
theorem KN (Y : Nat → Prop) (w0 : World) (v1 : Value) (v2 : Value) (p0 : Int × (Int × (Int × Int × Int × Int) × (Int × Int × Int × Int)) × (List (Int × Int × Int))) (p1 : List (Int × Int × Int)) (r : (Int × (Int × (Int × Int × Int × Int) × (Int × Int × Int × Int)) × (List (Int × Int × Int)))) (H : As p0 p1 = r) (h_v1 : Sl w0 (NX []) BD v1 p0.2.2) (s_v2 : Sl w0 Y BD v2 p1) :
    Calls Try.prog 70 #[.agg #[.int .i64 p0.1, .int .i64 p0.2.1.1, .int .i64 p0.2.1.2.1.1, .int .i64 p0.2.1.2.1.2.1, .int .i64 p0.2.1.2.1.2.2.1, .int .i64 p0.2.1.2.1.2.2.2, .int .i64 p0.2.1.2.2.1, .int .i64 p0.2.1.2.2.2.1, .int .i64 p0.2.1.2.2.2.2.1, .int .i64 p0.2.1.2.2.2.2.2, v1], v2] w0 fun e w' => ∃ x : Value, e = .returned (.agg #[.int .i64 r.1, .int .i64 r.2.1.1, .int .i64 r.2.1.2.1.1, .int .i64 r.2.1.2.1.2.1, .int .i64 r.2.1.2.1.2.2.1, .int .i64 r.2.1.2.1.2.2.2, .int .i64 r.2.1.2.2.1, .int .i64 r.2.1.2.2.2.1, .int .i64 r.2.1.2.2.2.2.1, .int .i64 r.2.1.2.2.2.2.2, x]) ∧ Stw ⟨Y, [], w0⟩ [] [BG (x) BD r.2.2] w' := by
 refine enter Try.func70 Aa Try.ntmps70 Aa fun a F => ?_
 have W := Stw.start Y w0
 have h_v2 := W.nx s_v2
 unfold As at H
 refine Al (Ae ?_)
 refine BS (cs := [.int .i64 p0.1, .int .i64 p0.2.1.1, .int .i64 p0.2.1.2.1.1, .int .i64 p0.2.1.2.1.2.1, .int .i64 p0.2.1.2.1.2.2.1, .int .i64 p0.2.1.2.1.2.2.2, .int .i64 p0.2.1.2.2.1, .int .i64 p0.2.1.2.2.2.1, .int .i64 p0.2.1.2.2.2.2.1, .int .i64 p0.2.1.2.2.2.2.2, v1]) F W Aa Aa Aa fun b1 a w F W => ?_
 refine Cf (cs := [.int .i64 0, .int .i64 0, .int .i64 0, .int .i64 0, .int .i64 0, .int .i64 0, .int .i64 0, .int .i64 0, .int .i64 0, .int .i64 0, .slice none 0 0]) F W Aa JC Aa fun b2 a w F W => ?_
 refine Af (Ad (Al (Ae ?_)))
 refine ls F W Aa (Ah F Aa).q fun a w F W => ?_
 refine ls F W Aa (Aj Ci Aa Aa Aa HK F Aa 10 Aa).q fun a w F W => ?_
 refine Kr (M' := [(b2, [.int .i64 0, .int .i64 0, .int .i64 0, .int .i64 0, .int .i64 0, .int .i64 0, .int .i64 0, .int .i64 0, .int .i64 0, .int .i64 0, .slice none 0 0]), (b1, [.int .i64 p0.1, .int .i64 p0.2.1.1, .int .i64 p0.2.1.2.1.1, .int .i64 p0.2.1.2.1.2.1, .int .i64 p0.2.1.2.1.2.2.1, .int .i64 p0.2.1.2.1.2.2.2, .int .i64 p0.2.1.2.2.1, .int .i64 p0.2.1.2.2.2.1, .int .i64 p0.2.1.2.2.2.2.1, .int .i64 p0.2.1.2.2.2.2.2, v2])]) 1 F W Aa Aa Aa HK h_v2.one Aa Aa fun w W => ?_
 refine Af (Ad (Al (Ae ?_)))
 refine ls F W Aa (Aq (v := Value.agg #[.int .i64 p0.1, .int .i64 p0.2.1.1, .int .i64 p0.2.1.2.1.1, .int .i64 p0.2.1.2.1.2.1, .int .i64 p0.2.1.2.1.2.2.1, .int .i64 p0.2.1.2.1.2.2.2, .int .i64 p0.2.1.2.2.1, .int .i64 p0.2.1.2.2.2.1, .int .i64 p0.2.1.2.2.2.2.1, .int .i64 p0.2.1.2.2.2.2.2, v2]) 1 F Aa Aa CH Aa).q fun a w F W => ?_
 refine BA (vs := [.int .i64 p0.1, .int .i64 p0.2.1.1, .int .i64 p0.2.1.2.1.1, .int .i64 p0.2.1.2.1.2.1, .int .i64 p0.2.1.2.1.2.2.1, .int .i64 p0.2.1.2.1.2.2.2, .int .i64 p0.2.1.2.2.1, .int .i64 p0.2.1.2.2.2.1, .int .i64 p0.2.1.2.2.2.2.1, .int .i64 p0.2.1.2.2.2.2.2, v2]) (M' := [(b2, [.int .i64 p0.1, .int .i64 p0.2.1.1, .int .i64 p0.2.1.2.1.1, .int .i64 p0.2.1.2.1.2.1, .int .i64 p0.2.1.2.1.2.2.1, .int .i64 p0.2.1.2.1.2.2.2, .int .i64 p0.2.1.2.2.1, .int .i64 p0.2.1.2.2.2.1, .int .i64 p0.2.1.2.2.2.2.1, .int .i64 p0.2.1.2.2.2.2.2, v2]), (b1, [.int .i64 p0.1, .int .i64 p0.2.1.1, .int .i64 p0.2.1.2.1.1, .int .i64 p0.2.1.2.1.2.1, .int .i64 p0.2.1.2.1.2.2.1, .int .i64 p0.2.1.2.1.2.2.2, .int .i64 p0.2.1.2.2.1, .int .i64 p0.2.1.2.2.2.1, .int .i64 p0.2.1.2.2.2.2.1, .int .i64 p0.2.1.2.2.2.2.2, v2])]) 0 F W Aa Aa Aa CH Aa Aa Aa (Am Aa (Am Aa (Am Aa (Am Aa (Am Aa (Am Aa (Am Aa (Am Aa (Am Aa (Am Aa (Am h_v2.one CX))))))))))) Aa fun w W => ?_
 refine Af (Ad (Ay ?_))
 subst H
 refine AL (.inl Aa) F W Aa (DQ 0 F Aa Aa CH Aa) ?_
 have W := W.note (W.old s_v2)
 have W := W.sub (M' := []) (Z' := [BG v2 BD p1]) (List.nil_sublist _) (List.Sublist.refl _)
 exact ⟨(v2), Aa, W⟩
theorem PN : Has Try.prog 70 := ⟨fun args w => An Try.func70 rfl (by decide) args w⟩
noncomputable def CC (p0 : List (Int × (Int × (Int × Int × Int × Int) × (Int × Int × Int × Int)) × (List (Int × Int × Int)))) (p1 : Int × (Int × (Int × (Int × Int × Int × Int) × (Int × Int × Int × Int)) × (List (Int × Int × Int))) × Bool) (p3 : Bool) : (Bool × (List (Int × (Int × (Int × Int × Int × Int) × (Int × Int × Int × Int)) × (List (Int × Int × Int)))) × Int × Int) → Option ((Bool × (List (Int × (Int × (Int × Int × Int × Int) × (Int × Int × Int × Int)) × (List (Int × Int × Int)))) × Int × Int) ⊕ ((List (Int × (Int × (Int × Int × Int × Int) × (Int × Int × Int × Int)) × (List (Int × Int × Int)))) × Int))
  | (x3, x4, x5, x6) => (if x6 < (p0.length : Int) then ((ix p0 x6).bind fun x10 => (Fo x10.2.1 p1.2.1.2.1).bind fun x11 => (if x3 = true then (ix p0 x6).bind fun x14 => some (true, (FE x14 p1.2.1)) else some (false, x11)).bind fun (x12, x13) => (if (!x13) = true then (ix p0 x6).bind fun x15 => (Js x4 ([x15] : List (Int × (Int × (Int × Int × Int × Int) × (Int × Int × Int × Int)) × (List (Int × Int × Int))))).bind fun x16 => some (x12, x16, x5) else (if (!p3) = true then (ix p0 x6).bind fun x17 => (Js x4 ([((As x17 p1.2.1.2.2).1, ((As x17 p1.2.1.2.2).2.1.1, ((As x17 p1.2.1.2.2).2.1.2.1.1, (As x17 p1.2.1.2.2).2.1.2.1.2.1, (As x17 p1.2.1.2.2).2.1.2.1.2.2.1, (As x17 p1.2.1.2.2).2.1.2.1.2.2.2), ((As x17 p1.2.1.2.2).2.1.2.2.1, (As x17 p1.2.1.2.2).2.1.2.2.2.1, (As x17 p1.2.1.2.2).2.1.2.2.2.2.1, (As x17 p1.2.1.2.2).2.1.2.2.2.2.2)), (As x17 p1.2.1.2.2).2.2)] : List (Int × (Int × (Int × Int × Int × Int) × (Int × Int × Int × Int)) × (List (Int × Int × Int))))).bind fun x18 => some (x12, x18, BT (x5 + 1)) else some (x12, x4, BT (x5 + 1))))).bind fun (x7, x8, x9) => some (.inl (x7, x8, x9, BT (x6 + 1))) else some (.inr (x4, x5)))
noncomputable def DF (p0 : List (Int × (Int × (Int × Int × Int × Int) × (Int × Int × Int × Int)) × (List (Int × Int × Int)))) (p1 : Int × (Int × (Int × (Int × Int × Int × Int) × (Int × Int × Int × Int)) × (List (Int × Int × Int))) × Bool) (p2 : Bool) (p3 : Bool) : Option ((List (Int × (Int × (Int × Int × Int × Int) × (Int × Int × Int × Int)) × (List (Int × Int × Int)))) × Int) := (A9 (CC p0 p1 p3) (p2, [], 0, 0)).bind fun (x1, x2) => some (x1, x2)
theorem GT (Y : Nat → Prop) (w0 : World) (v1 : Value) (v2 : Value) (p0 : List (Int × (Int × (Int × Int × Int × Int) × (Int × Int × Int × Int)) × (List (Int × Int × Int)))) (p1 : Int × (Int × (Int × (Int × Int × Int × Int) × (Int × Int × Int × Int)) × (List (Int × Int × Int))) × Bool) (p2 : Bool) (p3 : Bool) (r : (List (Int × (Int × (Int × Int × Int × Int) × (Int × Int × Int × Int)) × (List (Int × Int × Int)))) × Int) (H : DF p0 p1 p2 p3 = some r) (s_v1 : Sl w0 Y AV v1 p0) (s_v2 : Sl w0 Y BD v2 p1.2.1.2.2) :
    Calls Try.prog 48 #[v1, .agg #[.int .i64 p1.1, .int .i64 p1.2.1.1, .int .i64 p1.2.1.2.1.1, .int .i64 p1.2.1.2.1.2.1.1, .int .i64 p1.2.1.2.1.2.1.2.1, .int .i64 p1.2.1.2.1.2.1.2.2.1, .int .i64 p1.2.1.2.1.2.1.2.2.2, .int .i64 p1.2.1.2.1.2.2.1, .int .i64 p1.2.1.2.1.2.2.2.1, .int .i64 p1.2.1.2.1.2.2.2.2.1, .int .i64 p1.2.1.2.1.2.2.2.2.2, v2, .bool p1.2.2], .bool p2, .bool p3] w0 fun e w' => ∃ x : Value, e = .returned (.tuple #[x, .int .i64 r.2]) ∧ Stw ⟨Y, [], w0⟩ [] [row (x) 40 AV r.1] w' := by
 refine enter Try.func48 Aa Try.ntmps48 Aa fun a F => ?_
 have W := Stw.start Y w0
 obtain ⟨v3, h1, s_v1⟩ := s_v1.ex Ba
 have h_v1 := W.nx s_v1
 have h_v2 := W.nx s_v2
 unfold DF at H
 refine Al (Ae ?_)
 refine BS (cs := [.int .i64 p1.1, .int .i64 p1.2.1.1, .int .i64 p1.2.1.2.1.1, .int .i64 p1.2.1.2.1.2.1.1, .int .i64 p1.2.1.2.1.2.1.2.1, .int .i64 p1.2.1.2.1.2.1.2.2.1, .int .i64 p1.2.1.2.1.2.1.2.2.2, .int .i64 p1.2.1.2.1.2.2.1, .int .i64 p1.2.1.2.1.2.2.2.1, .int .i64 p1.2.1.2.1.2.2.2.2.1, .int .i64 p1.2.1.2.1.2.2.2.2.2, v2, .bool p1.2.2]) F W Aa Aa Aa fun b1 a w F W => ?_
 iterate 2 refine ls F W Aa (Ag F Aa).q fun a w F W => ?_
 refine Af (Ad (Al (Ae ?_)))
 refine ls F W Aa (Ag F Aa).q fun a w F W => ?_
 refine Af (Ad (Al (Ae ?_)))
 refine ls F W Aa (Ag F Aa).q fun a w F W => ?_
 refine Af (Ad ?_)
 obtain ⟨o1, G1, K1⟩ := Ap H
 refine AF (fun a w => ∃ x1 : List (Int × (Int × (Int × Int × Int × Int) × (Int × Int × Int × Int)) × (List (Int × Int × Int))), ∃ x2 : Int, ∃ v4 : Value, some ((x1, x2)) = some o1 ∧ Fr 63 [] [(8, .slice none 0 0), (9, .int .i64 0), (10, v4), (11, .int .i64 x2)] a ∧ Stw ⟨Y, [], w0⟩ [(b1, [.int .i64 p1.1, .int .i64 p1.2.1.1, .int .i64 p1.2.1.2.1.1, .int .i64 p1.2.1.2.1.2.1.1, .int .i64 p1.2.1.2.1.2.1.2.1, .int .i64 p1.2.1.2.1.2.1.2.2.1, .int .i64 p1.2.1.2.1.2.1.2.2.2, .int .i64 p1.2.1.2.1.2.2.1, .int .i64 p1.2.1.2.1.2.2.2.1, .int .i64 p1.2.1.2.1.2.2.2.2.1, .int .i64 p1.2.1.2.1.2.2.2.2.2, v2, .bool p1.2.2])] [row v4 40 AV x1] w) ?_ ?_
 ·
  have H := G1
  clear G1 K1
  refine Al (Ae ?_)
  refine ls F W Aa (Ag F Aa).q fun a w F W => ?_
  refine Af (Ad (AC ?_))
  have W := W.nilRow 40 AV
  refine Bz H (fun s a w => ∃ v5 : Value, Fr 63 [] [(0, v1), (2, .bool s.1), (3, .bool p3), (5, .pointer (some ⟨b1, 0, none⟩)), (8, .slice none 0 0), (9, .int .i64 0), (10, v5), (11, .int .i64 s.2.2.1), (12, .int .i64 s.2.2.2)] a ∧ Stw ⟨Y, [], w0⟩ [(b1, [.int .i64 p1.1, .int .i64 p1.2.1.1, .int .i64 p1.2.1.2.1.1, .int .i64 p1.2.1.2.1.2.1.1, .int .i64 p1.2.1.2.1.2.1.2.1, .int .i64 p1.2.1.2.1.2.1.2.2.1, .int .i64 p1.2.1.2.1.2.1.2.2.2, .int .i64 p1.2.1.2.1.2.2.1, .int .i64 p1.2.1.2.1.2.2.2.1, .int .i64 p1.2.1.2.1.2.2.2.2.1, .int .i64 p1.2.1.2.1.2.2.2.2.2, v2, .bool p1.2.2])] [row v5 40 AV s.2.1] w) ⟨(Value.slice none 0 0), F.re ⟨rfl, Aa, Aa, Aa, Aa, Aa, Aa, Aa, Aa, trivial⟩, W⟩ fun s o a w H L2 hR => ?_
  obtain ⟨x3, x4, x5, x6⟩ := s
  obtain ⟨v5, F, W⟩ := hR
  have F : Fr 63 [] [(0, v1), (2, .bool x3), (3, .bool p3), (5, .pointer (some ⟨b1, 0, none⟩)), (8, .slice none 0 0), (9, .int .i64 0), (10, v5), (11, .int .i64 x5), (12, .int .i64 x6)] a := F
  have W : Stw ⟨Y, [], w0⟩ [(b1, [.int .i64 p1.1, .int .i64 p1.2.1.1, .int .i64 p1.2.1.2.1.1, .int .i64 p1.2.1.2.1.2.1.1, .int .i64 p1.2.1.2.1.2.1.2.1, .int .i64 p1.2.1.2.1.2.1.2.2.1, .int .i64 p1.2.1.2.1.2.1.2.2.2, .int .i64 p1.2.1.2.1.2.2.1, .int .i64 p1.2.1.2.1.2.2.2.1, .int .i64 p1.2.1.2.1.2.2.2.2.1, .int .i64 p1.2.1.2.1.2.2.2.2.2, v2, .bool p1.2.2])] [row v5 40 AV x4] w := W
  rw [CC] at H
  refine Al (Al (Ae ?_))
  iterate 2 refine ls F W Aa (Ah F Aa).q fun a w F W => ?_
  refine ls F W Aa (B7 (r := AV) (l := p0) DW Aa F Aa (Bc Ba h1 (Aw h_v1))).q fun a w F W => ?_
  refine ls F W Aa (BI F Aa Aa).q fun a w F W => ?_
  refine Af (Ad ?_)
  refine AA F Aa (fun hb => ?_) fun hb => ?_
  ·
   have H := AH (Bj hb) H
   rw [hb] at F
   clear hb
   refine Ax (Ad ?_)
   obtain ⟨o3, G3, K3⟩ := Ap H
   refine AF (fun a w => ∃ x7 : Bool, ∃ x8 : List (Int × (Int × (Int × Int × Int × Int) × (Int × Int × Int × Int)) × (List (Int × Int × Int))), ∃ x9 : Int, ∃ v6 : Value, some ((x7, x8, x9)) = some o3 ∧ Fr 63 [] [(0, v1), (2, .bool x7), (3, .bool p3), (5, .pointer (some ⟨b1, 0, none⟩)), (8, .slice none 0 0), (9, .int .i64 0), (10, v6), (11, .int .i64 x9), (12, .int .i64 x6)] a ∧ Stw ⟨Y, [], w0⟩ [(b1, [.int .i64 p1.1, .int .i64 p1.2.1.1, .int .i64 p1.2.1.2.1.1, .int .i64 p1.2.1.2.1.2.1.1, .int .i64 p1.2.1.2.1.2.1.2.1, .int .i64 p1.2.1.2.1.2.1.2.2.1, .int .i64 p1.2.1.2.1.2.1.2.2.2, .int .i64 p1.2.1.2.1.2.2.1, .int .i64 p1.2.1.2.1.2.2.2.1, .int .i64 p1.2.1.2.1.2.2.2.2.1, .int .i64 p1.2.1.2.1.2.2.2.2.2, v2, .bool p1.2.2])] [row v6 40 AV x8] w) ?_ ?_
   ·
    have H := G3
    clear G3 K3
    refine AC (Al ?_)
    obtain ⟨v7, h2, W⟩ := W.exR Ba
    refine Co W MO (by kernel_rfl) ?_
    iterate 2 refine qs F Aa (Ah F Aa).q fun a F => ?_
    obtain ⟨x10, h3, H⟩ := Ap H
    obtain ⟨v8, h4, h5⟩ := Ck h1 h3
    have h6 : B5 v8 = [.int .i64 x10.1, .int .i64 x10.2.1.1, .int .i64 x10.2.1.2.1.1, .int .i64 x10.2.1.2.1.2.1, .int .i64 x10.2.1.2.1.2.2.1, .int .i64 x10.2.1.2.1.2.2.2, .int .i64 x10.2.1.2.2.1, .int .i64 x10.2.1.2.2.2.1, .int .i64 x10.2.1.2.2.2.2.1, .int .i64 x10.2.1.2.2.2.2.2, (v8.2.2.1)] := congrArg (fun q : Int × (Int × (Int × Int × Int × Int) × (Int × Int × Int × Int)) × (List (Int × Int × Int)) => ([.int .i64 q.1, .int .i64 q.2.1.1, .int .i64 q.2.1.2.1.1, .int .i64 q.2.1.2.1.2.1, .int .i64 q.2.1.2.1.2.2.1, .int .i64 q.2.1.2.1.2.2.2, .int .i64 q.2.1.2.2.1, .int .i64 q.2.1.2.2.2.1, .int .i64 q.2.1.2.2.2.2.1, .int .i64 q.2.1.2.2.2.2.2, (v8.2.2.1)] : List Value)) h5
    refine qs F Aa (Bg (r := Cz) D7 F Aa Aa (Aw h_v1) h4).q fun a F => ?_
    refine qs F Aa (Aj Ci Aa Aa Aa Dk F Aa (EM v1 + (x6).toNat * 11 + 1) Aa).q fun a F => ?_
    refine qs F Aa (A0 (y := Value.agg #[.int .i64 x10.2.1.1, .int .i64 x10.2.1.2.1.1, .int .i64 x10.2.1.2.1.2.1, .int .i64 x10.2.1.2.1.2.2.1, .int .i64 x10.2.1.2.1.2.2.2, .int .i64 x10.2.1.2.2.1, .int .i64 x10.2.1.2.2.2.1, .int .i64 x10.2.1.2.2.2.2.1, .int .i64 x10.2.1.2.2.2.2.2]) (j := 1) (i := x6) (enc := B5) F Aa Aa (Aw h_v1) h4 DS Dk (by rw [h6]; rfl)).q fun a F => ?_
    refine qs F Aa (Aj DX Aa Aa Aa CH F Aa 1 Aa).q fun a F => ?_
    refine qs F Aa (Aj Ci Aa Aa Aa Dk F Aa 2 Aa).q fun a F => ?_
    refine qs F Aa (Aq (v := Value.agg #[.int .i64 p1.2.1.2.1.1, .int .i64 p1.2.1.2.1.2.1.1, .int .i64 p1.2.1.2.1.2.1.2.1, .int .i64 p1.2.1.2.1.2.1.2.2.1, .int .i64 p1.2.1.2.1.2.1.2.2.2, .int .i64 p1.2.1.2.1.2.2.1, .int .i64 p1.2.1.2.1.2.2.2.1, .int .i64 p1.2.1.2.1.2.2.2.2.1, .int .i64 p1.2.1.2.1.2.2.2.2.2]) 0 F Aa Aa Dk Aa).q fun a F => ?_
    obtain ⟨x11, h7, H⟩ := Ap H
    refine qs F Aa (AR (v := Value.bool x11) F QF Aa (fun w W => JZ any w x10.2.1 p1.2.1.2.1 _ h7)) fun a F => ?_
    refine qs F Aa (Ag F Aa).q fun a F => ?_
    refine A4 fun w W => ?_
    refine Ad ?_
    obtain ⟨o4, G4, K4⟩ := Ap H
    refine AF (fun a w => ∃ x12 : Bool, ∃ x13 : Bool, some ((x12, x13)) = some o4 ∧ Fr 63 [] [(0, v1), (2, .bool x12), (3, .bool p3), (5, .pointer (some ⟨b1, 0, none⟩)), (8, .slice none 0 0), (9, .int .i64 0), (10, v5), (11, .int .i64 x5), (12, .int .i64 x6), (13, .bool x13)] a ∧ Stw ⟨Y, [], w0⟩ [(b1, [.int .i64 p1.1, .int .i64 p1.2.1.1, .int .i64 p1.2.1.2.1.1, .int .i64 p1.2.1.2.1.2.1.1, .int .i64 p1.2.1.2.1.2.1.2.1, .int .i64 p1.2.1.2.1.2.1.2.2.1, .int .i64 p1.2.1.2.1.2.1.2.2.2, .int .i64 p1.2.1.2.1.2.2.1, .int .i64 p1.2.1.2.1.2.2.2.1, .int .i64 p1.2.1.2.1.2.2.2.2.1, .int .i64 p1.2.1.2.1.2.2.2.2.2, v2, .bool p1.2.2])] [row v5 40 AV x4] w) ?_ ?_
    ·
     have H := G4
     clear G4 K4
     refine Al (Ae ?_)
     refine ls F W Aa (Ah F Aa).q fun a w F W => ?_
     refine Af (Ad ?_)
     refine AA F Aa (fun hb => ?_) fun hb => ?_
     ·
      have H := AH hb H
      rw [hb] at F
      clear hb
      refine Co W MO (by kernel_rfl) ?_
      iterate 2 refine qs F Aa (Ah F Aa).q fun a F => ?_
      obtain ⟨x14, h8, H⟩ := Ap H
      obtain ⟨v9, h9, h10⟩ := Ck h1 h8
      have h11 : B5 v9 = [.int .i64 x14.1, .int .i64 x14.2.1.1, .int .i64 x14.2.1.2.1.1, .int .i64 x14.2.1.2.1.2.1, .int .i64 x14.2.1.2.1.2.2.1, .int .i64 x14.2.1.2.1.2.2.2, .int .i64 x14.2.1.2.2.1, .int .i64 x14.2.1.2.2.2.1, .int .i64 x14.2.1.2.2.2.2.1, .int .i64 x14.2.1.2.2.2.2.2, (v9.2.2.1)] := congrArg (fun q : Int × (Int × (Int × Int × Int × Int) × (Int × Int × Int × Int)) × (List (Int × Int × Int)) => ([.int .i64 q.1, .int .i64 q.2.1.1, .int .i64 q.2.1.2.1.1, .int .i64 q.2.1.2.1.2.1, .int .i64 q.2.1.2.1.2.2.1, .int .i64 q.2.1.2.1.2.2.2, .int .i64 q.2.1.2.2.1, .int .i64 q.2.1.2.2.2.1, .int .i64 q.2.1.2.2.2.2.1, .int .i64 q.2.1.2.2.2.2.2, (v9.2.2.1)] : List Value)) h10
      refine qs F Aa (Bg (r := Cz) D7 F Aa Aa (Aw h_v1) h9).q fun a F => ?_
      refine qs F Aa (A0 (y := Value.agg #[.int .i64 x14.1, .int .i64 x14.2.1.1, .int .i64 x14.2.1.2.1.1, .int .i64 x14.2.1.2.1.2.1, .int .i64 x14.2.1.2.1.2.2.1, .int .i64 x14.2.1.2.1.2.2.2, .int .i64 x14.2.1.2.2.1, .int .i64 x14.2.1.2.2.2.1, .int .i64 x14.2.1.2.2.2.2.1, .int .i64 x14.2.1.2.2.2.2.2, (v9.2.2.1)]) (j := 0) (i := x6) (enc := B5) F Aa Aa (Aw h_v1) h9 DS CH (by rw [h11]; rfl)).q fun a F => ?_
      refine qs F Aa (Aj DX Aa Aa Aa CH F Aa 1 Aa).q fun a F => ?_
      refine qs F Aa (Aq (v := Value.agg #[.int .i64 p1.2.1.1, .int .i64 p1.2.1.2.1.1, .int .i64 p1.2.1.2.1.2.1.1, .int .i64 p1.2.1.2.1.2.1.2.1, .int .i64 p1.2.1.2.1.2.1.2.2.1, .int .i64 p1.2.1.2.1.2.1.2.2.2, .int .i64 p1.2.1.2.1.2.2.1, .int .i64 p1.2.1.2.1.2.2.2.1, .int .i64 p1.2.1.2.1.2.2.2.2.1, .int .i64 p1.2.1.2.1.2.2.2.2.2, v2]) 0 F Aa Aa CH Aa).q fun a F => ?_
      refine qs F Aa (AR (v := Value.bool (FE x14 p1.2.1)) F PI Aa (fun w W => Jz any w ((v9.2.2.1)) (v2) x14 p1.2.1 _ Aa (((CT (Aw h_v1) h9 (Bb.snd (Bb.snd Bb.here)) (congrArg (fun q : Int × (Int × (Int × Int × Int × Int) × (Int × Int × Int × Int)) × (List (Int × Int × Int)) => q.2.2) h10)) : C2 _ _ _ _ _ _) w W).nx (((Aw h_v2) : C2 _ _ _ _ _ _) w W).nx)) fun a F => ?_
      refine qs F Aa (Ag F Aa).q fun a F => ?_
      refine A4 fun w W => ?_
      refine Ad ?_
      have W := W.hideR Ba h2
      exact ⟨_, _, H, F.re ⟨rfl, Aa, Aa, Aa, Aa, Aa, Aa, Aa, Aa, Aa, trivial⟩, W⟩
     have H := AG (by rw [hb]; decide) H
     rw [hb] at F
     clear hb
     refine Ax (Ad ?_)
     have W := W.hideR Ba h2
     exact ⟨_, _, H, F.re ⟨rfl, Aa, Aa, Aa, Aa, Aa, Aa, Aa, Aa, Aa, trivial⟩, W⟩
    rintro a w ⟨x12, x13, hj, F, W⟩
    have hj := AJ hj
    subst hj
    have H := K4
    clear G4 K4
    refine Al (Al (Ae ?_))
    refine ls F W Aa (Ah F Aa).q fun a w F W => ?_
    refine ls F W Aa (Ec F Aa).q fun a w F W => ?_
    refine Af (Ad ?_)
    refine AA F Aa (fun hb => ?_) fun hb => ?_
    ·
     have H := AH hb H
     rw [hb] at F
     clear hb
     refine Al ?_
     obtain ⟨v10, h12, W⟩ := W.exR Ba
     refine Ae ?_
     iterate 3 refine ls F W Aa (Ah F Aa).q fun a w F W => ?_
     obtain ⟨x15, h13, H⟩ := Ap H
     obtain ⟨v11, h14, h15⟩ := Ck h1 h13
     have h16 : B5 v11 = [.int .i64 x15.1, .int .i64 x15.2.1.1, .int .i64 x15.2.1.2.1.1, .int .i64 x15.2.1.2.1.2.1, .int .i64 x15.2.1.2.1.2.2.1, .int .i64 x15.2.1.2.1.2.2.2, .int .i64 x15.2.1.2.2.1, .int .i64 x15.2.1.2.2.2.1, .int .i64 x15.2.1.2.2.2.2.1, .int .i64 x15.2.1.2.2.2.2.2, (v11.2.2.1)] := congrArg (fun q : Int × (Int × (Int × Int × Int × Int) × (Int × Int × Int × Int)) × (List (Int × Int × Int)) => ([.int .i64 q.1, .int .i64 q.2.1.1, .int .i64 q.2.1.2.1.1, .int .i64 q.2.1.2.1.2.1, .int .i64 q.2.1.2.1.2.2.1, .int .i64 q.2.1.2.1.2.2.2, .int .i64 q.2.1.2.2.1, .int .i64 q.2.1.2.2.2.1, .int .i64 q.2.1.2.2.2.2.1, .int .i64 q.2.1.2.2.2.2.2, (v11.2.2.1)] : List Value)) h15
     refine ls F W Aa (Bg (r := Cz) D7 F Aa Aa (Aw h_v1) h14).q fun a w F W => ?_
     refine ls F W Aa (A0 (y := Value.agg #[.int .i64 x15.1, .int .i64 x15.2.1.1, .int .i64 x15.2.1.2.1.1, .int .i64 x15.2.1.2.1.2.1, .int .i64 x15.2.1.2.1.2.2.1, .int .i64 x15.2.1.2.1.2.2.2, .int .i64 x15.2.1.2.2.1, .int .i64 x15.2.1.2.2.2.1, .int .i64 x15.2.1.2.2.2.2.1, .int .i64 x15.2.1.2.2.2.2.2, (v11.2.2.1)]) (j := 0) (i := x6) (enc := B5) F Aa Aa (Aw h_v1) h14 DS CH (by rw [h16]; rfl)).q fun a w F W => ?_
     refine Gm (z := Value.agg #[.int .i64 0, .int .i64 0, .int .i64 0, .int .i64 0, .int .i64 0, .int .i64 0, .int .i64 0, .int .i64 0, .int .i64 0, .int .i64 0, .slice none 0 0]) (cs := [.int .i64 x15.1, .int .i64 x15.2.1.1, .int .i64 x15.2.1.2.1.1, .int .i64 x15.2.1.2.1.2.1, .int .i64 x15.2.1.2.1.2.2.1, .int .i64 x15.2.1.2.1.2.2.2, .int .i64 x15.2.1.2.2.1, .int .i64 x15.2.1.2.2.2.1, .int .i64 x15.2.1.2.2.2.2.1, .int .i64 x15.2.1.2.2.2.2.2, (v11.2.2.1)]) AV ([x15] : List (Int × (Int × (Int × Int × Int × Int) × (Int × Int × Int × Int)) × (List (Int × Int × Int)))) F W Aa D7 JC Aa Aa Aa (Ca Aa Aa Aa DJ) Aa Aa ⟨[Value.int .i64 x15.1, Value.int .i64 x15.2.1.1, Value.int .i64 x15.2.1.2.1.1, Value.int .i64 x15.2.1.2.1.2.1, Value.int .i64 x15.2.1.2.1.2.2.1, Value.int .i64 x15.2.1.2.1.2.2.2, Value.int .i64 x15.2.1.2.2.1, Value.int .i64 x15.2.1.2.2.2.1, Value.int .i64 x15.2.1.2.2.2.2.1, Value.int .i64 x15.2.1.2.2.2.2.2, (v11.2.2.1)], _, Aa, ⟨[Value.int .i64 x15.1], [Value.int .i64 x15.2.1.1, Value.int .i64 x15.2.1.2.1.1, Value.int .i64 x15.2.1.2.1.2.1, Value.int .i64 x15.2.1.2.1.2.2.1, Value.int .i64 x15.2.1.2.1.2.2.2, Value.int .i64 x15.2.1.2.2.1, Value.int .i64 x15.2.1.2.2.2.1, Value.int .i64 x15.2.1.2.2.2.2.1, Value.int .i64 x15.2.1.2.2.2.2.2, (v11.2.2.1)], Aa, Aa, ⟨[Value.int .i64 x15.2.1.1, Value.int .i64 x15.2.1.2.1.1, Value.int .i64 x15.2.1.2.1.2.1, Value.int .i64 x15.2.1.2.1.2.2.1, Value.int .i64 x15.2.1.2.1.2.2.2, Value.int .i64 x15.2.1.2.2.1, Value.int .i64 x15.2.1.2.2.2.1, Value.int .i64 x15.2.1.2.2.2.2.1, Value.int .i64 x15.2.1.2.2.2.2.2], [(v11.2.2.1)], Aa, ⟨[Value.int .i64 x15.2.1.1], [Value.int .i64 x15.2.1.2.1.1, Value.int .i64 x15.2.1.2.1.2.1, Value.int .i64 x15.2.1.2.1.2.2.1, Value.int .i64 x15.2.1.2.1.2.2.2, Value.int .i64 x15.2.1.2.2.1, Value.int .i64 x15.2.1.2.2.2.1, Value.int .i64 x15.2.1.2.2.2.2.1, Value.int .i64 x15.2.1.2.2.2.2.2], Aa, Aa, ⟨[Value.int .i64 x15.2.1.2.1.1, Value.int .i64 x15.2.1.2.1.2.1, Value.int .i64 x15.2.1.2.1.2.2.1, Value.int .i64 x15.2.1.2.1.2.2.2], [Value.int .i64 x15.2.1.2.2.1, Value.int .i64 x15.2.1.2.2.2.1, Value.int .i64 x15.2.1.2.2.2.2.1, Value.int .i64 x15.2.1.2.2.2.2.2], Aa, ⟨[Value.int .i64 x15.2.1.2.1.1], [Value.int .i64 x15.2.1.2.1.2.1, Value.int .i64 x15.2.1.2.1.2.2.1, Value.int .i64 x15.2.1.2.1.2.2.2], Aa, Aa, ⟨[Value.int .i64 x15.2.1.2.1.2.1], [Value.int .i64 x15.2.1.2.1.2.2.1, Value.int .i64 x15.2.1.2.1.2.2.2], Aa, Aa, ⟨[Value.int .i64 x15.2.1.2.1.2.2.1], [Value.int .i64 x15.2.1.2.1.2.2.2], Aa, Aa, Aa⟩⟩⟩, ⟨[Value.int .i64 x15.2.1.2.2.1], [Value.int .i64 x15.2.1.2.2.2.1, Value.int .i64 x15.2.1.2.2.2.2.1, Value.int .i64 x15.2.1.2.2.2.2.2], Aa, Aa, ⟨[Value.int .i64 x15.2.1.2.2.2.1], [Value.int .i64 x15.2.1.2.2.2.2.1, Value.int .i64 x15.2.1.2.2.2.2.2], Aa, Aa, ⟨[Value.int .i64 x15.2.1.2.2.2.2.1], [Value.int .i64 x15.2.1.2.2.2.2.2], Aa, Aa, Aa⟩⟩⟩⟩⟩, ⟨_, Aa, (Sl.at_ (W.old s_v1) h14 (Bb.snd (Bb.snd Bb.here)) (congrArg (fun q : Int × (Int × (Int × Int × Int × Int) × (Int × Int × Int × Int)) × (List (Int × Int × Int)) => q.2.2) h15))⟩⟩⟩, Aa⟩ fun v12 a w F W => ?_
     have W := W.frontZ (i := 1) Aa Aa
     have W := W.hideR Ba h12
     obtain ⟨x16, h17, H⟩ := Ap H
     refine Fy (r := AV) (i := 0) F W Aa D7 Aa Aa Aa Aa (GO W 1 Aa) h17 Aa fun v13 a w F W => ?_
     have W : Stw ⟨Y, [], w0⟩ [(b1, [.int .i64 p1.1, .int .i64 p1.2.1.1, .int .i64 p1.2.1.2.1.1, .int .i64 p1.2.1.2.1.2.1.1, .int .i64 p1.2.1.2.1.2.1.2.1, .int .i64 p1.2.1.2.1.2.1.2.2.1, .int .i64 p1.2.1.2.1.2.1.2.2.2, .int .i64 p1.2.1.2.1.2.2.1, .int .i64 p1.2.1.2.1.2.2.2.1, .int .i64 p1.2.1.2.1.2.2.2.2.1, .int .i64 p1.2.1.2.1.2.2.2.2.2, v2, .bool p1.2.2])] [row v13 40 AV x16, row v12 40 AV ([x15] : List (Int × (Int × (Int × Int × Int × Int) × (Int × Int × Int × Int)) × (List (Int × Int × Int))))] w := W
     refine ls F W Aa (Ag F Aa).q fun a w F W => ?_
     refine Af (Ad (Bu (BX (Br (Ad ?_)))))
     have W := W.sub (M' := [(b1, [.int .i64 p1.1, .int .i64 p1.2.1.1, .int .i64 p1.2.1.2.1.1, .int .i64 p1.2.1.2.1.2.1.1, .int .i64 p1.2.1.2.1.2.1.2.1, .int .i64 p1.2.1.2.1.2.1.2.2.1, .int .i64 p1.2.1.2.1.2.1.2.2.2, .int .i64 p1.2.1.2.1.2.2.1, .int .i64 p1.2.1.2.1.2.2.2.1, .int .i64 p1.2.1.2.1.2.2.2.2.1, .int .i64 p1.2.1.2.1.2.2.2.2.2, v2, .bool p1.2.2])]) (Z' := [row v13 40 AV x16]) (List.Sublist.refl _) (List.Sublist.cons_cons _ (List.nil_sublist _))
     exact ⟨_, _, _, (v13), H, F.re ⟨rfl, Aa, Aa, Aa, Aa, Aa, Aa, Aa, Aa, trivial⟩, W⟩
    have H := AG (by rw [hb]; decide) H
    rw [hb] at F
    clear hb
    refine Ax (Ad (Al (Ae ?_)))
    refine ls F W Aa (Ah F Aa).q fun a w F W => ?_
    refine ls F W Aa (B6 F Aa Aa Aa).q fun a w F W => ?_
    refine ls F W Aa (Ag F Aa).q fun a w F W => ?_
    refine Af (Ad (Al (Ae ?_)))
    refine ls F W Aa (Ah F Aa).q fun a w F W => ?_
    refine ls F W Aa (Ec F Aa).q fun a w F W => ?_
    refine Af (Ad ?_)
    refine AA F Aa (fun hb => ?_) fun hb => ?_
    ·
     have H := AH hb H
     rw [hb] at F
     clear hb
     obtain ⟨v14, h18, W⟩ := W.exR Ba
     refine NC 8 [0] [1, 2, 3, 4, 5, 6, 7] (fun ch a d v w h => by cases d <;> exact h) W MO (by kernel_rfl) ?_
     refine hm F Aa Aa Aa fun a F => ?_
     refine NR ?_
     iterate 2 refine hs F Aa Aa Aa (Ah F Aa).q fun a F => ?_
     obtain ⟨x17, h19, H⟩ := Ap H
     obtain ⟨v15, h20, h21⟩ := Ck h1 h19
     have h22 : B5 v15 = [.int .i64 x17.1, .int .i64 x17.2.1.1, .int .i64 x17.2.1.2.1.1, .int .i64 x17.2.1.2.1.2.1, .int .i64 x17.2.1.2.1.2.2.1, .int .i64 x17.2.1.2.1.2.2.2, .int .i64 x17.2.1.2.2.1, .int .i64 x17.2.1.2.2.2.1, .int .i64 x17.2.1.2.2.2.2.1, .int .i64 x17.2.1.2.2.2.2.2, (v15.2.2.1)] := congrArg (fun q : Int × (Int × (Int × Int × Int × Int) × (Int × Int × Int × Int)) × (List (Int × Int × Int)) => ([.int .i64 q.1, .int .i64 q.2.1.1, .int .i64 q.2.1.2.1.1, .int .i64 q.2.1.2.1.2.1, .int .i64 q.2.1.2.1.2.2.1, .int .i64 q.2.1.2.1.2.2.2, .int .i64 q.2.1.2.2.1, .int .i64 q.2.1.2.2.2.1, .int .i64 q.2.1.2.2.2.2.1, .int .i64 q.2.1.2.2.2.2.2, (v15.2.2.1)] : List Value)) h21
     refine hs F Aa Aa Aa (Bg (r := Cz) D7 F Aa Aa (Aw h_v1) h20).q fun a F => ?_
     refine hs F Aa Aa Aa (A0 (y := Value.agg #[.int .i64 x17.1, .int .i64 x17.2.1.1, .int .i64 x17.2.1.2.1.1, .int .i64 x17.2.1.2.1.2.1, .int .i64 x17.2.1.2.1.2.2.1, .int .i64 x17.2.1.2.1.2.2.2, .int .i64 x17.2.1.2.2.1, .int .i64 x17.2.1.2.2.2.1, .int .i64 x17.2.1.2.2.2.2.1, .int .i64 x17.2.1.2.2.2.2.2, (v15.2.2.1)]) (j := 0) (i := x6) (enc := B5) F Aa Aa (Aw h_v1) h20 DS CH (by rw [h22]; rfl)).q fun a F => ?_
     refine hs F Aa Aa Aa (Aj DX Aa Aa Aa CH F Aa 1 Aa).q fun a F => ?_
     refine hs F Aa Aa Aa (Aj Ci Aa Aa Aa HK F Aa 11 Aa).q fun a F => ?_
     refine hs F Aa Aa Aa (Aq (v := v2) 0 F Aa Aa HK Aa).q fun a F => ?_
     refine OR fun w W => ?_
     have W : Stw ⟨Y, [], w0⟩ [(b1, [.int .i64 p1.1, .int .i64 p1.2.1.1, .int .i64 p1.2.1.2.1.1, .int .i64 p1.2.1.2.1.2.1.1, .int .i64 p1.2.1.2.1.2.1.2.1, .int .i64 p1.2.1.2.1.2.1.2.2.1, .int .i64 p1.2.1.2.1.2.1.2.2.2, .int .i64 p1.2.1.2.1.2.2.1, .int .i64 p1.2.1.2.1.2.2.2.1, .int .i64 p1.2.1.2.1.2.2.2.2.1, .int .i64 p1.2.1.2.1.2.2.2.2.2, v2, .bool p1.2.2])] [row v5 40 Cz v14] w := W
     refine Bp (Ml := []) (Zl := []) (M := [(b1, [.int .i64 p1.1, .int .i64 p1.2.1.1, .int .i64 p1.2.1.2.1.1, .int .i64 p1.2.1.2.1.2.1.1, .int .i64 p1.2.1.2.1.2.1.2.1, .int .i64 p1.2.1.2.1.2.1.2.2.1, .int .i64 p1.2.1.2.1.2.1.2.2.2, .int .i64 p1.2.1.2.1.2.2.1, .int .i64 p1.2.1.2.1.2.2.2.1, .int .i64 p1.2.1.2.1.2.2.2.2.1, .int .i64 p1.2.1.2.1.2.2.2.2.2, v2, .bool p1.2.2])]) (Z := [row v5 40 Cz v14]) (β := Value) (rv := fun x => .agg #[.int .i64 ((As x17 p1.2.1.2.2).1), .int .i64 ((As x17 p1.2.1.2.2).2.1.1), .int .i64 ((As x17 p1.2.1.2.2).2.1.2.1.1), .int .i64 ((As x17 p1.2.1.2.2).2.1.2.1.2.1), .int .i64 ((As x17 p1.2.1.2.2).2.1.2.1.2.2.1), .int .i64 ((As x17 p1.2.1.2.2).2.1.2.1.2.2.2), .int .i64 ((As x17 p1.2.1.2.2).2.1.2.2.1), .int .i64 ((As x17 p1.2.1.2.2).2.1.2.2.2.1), .int .i64 ((As x17 p1.2.1.2.2).2.1.2.2.2.2.1), .int .i64 ((As x17 p1.2.1.2.2).2.1.2.2.2.2.2), x]) (MM := fun x => []) (ZZ := fun x => [BG x BD ((As x17 p1.2.1.2.2).2.2)]) F W PN Aa Aa (fun hL => KN _ w ((v15.2.2.1)) (v2) x17 p1.2.1.2.2 _ Aa ((CT (Aw h_v1) h20 (Bb.snd (Bb.snd Bb.here)) (congrArg (fun q : Int × (Int × (Int × Int × Int × Int) × (Int × Int × Int × Int)) × (List (Int × Int × Int)) => q.2.2) h21)) w W).nx (W.old s_v2)) fun x a w F W => ?_
     obtain ⟨v16, rfl⟩ : ∃ y, y = x := ⟨x, rfl⟩
     have W : Stw ⟨Y, [], w0⟩ [(b1, [.int .i64 p1.1, .int .i64 p1.2.1.1, .int .i64 p1.2.1.2.1.1, .int .i64 p1.2.1.2.1.2.1.1, .int .i64 p1.2.1.2.1.2.1.2.1, .int .i64 p1.2.1.2.1.2.1.2.2.1, .int .i64 p1.2.1.2.1.2.1.2.2.2, .int .i64 p1.2.1.2.1.2.2.1, .int .i64 p1.2.1.2.1.2.2.2.1, .int .i64 p1.2.1.2.1.2.2.2.2.1, .int .i64 p1.2.1.2.1.2.2.2.2.2, v2, .bool p1.2.2])] [BG v16 BD ((As x17 p1.2.1.2.2).2.2), row v5 40 Cz v14] w := W
     refine Gm (z := Value.agg #[.int .i64 0, .int .i64 0, .int .i64 0, .int .i64 0, .int .i64 0, .int .i64 0, .int .i64 0, .int .i64 0, .int .i64 0, .int .i64 0, .slice none 0 0]) (cs := [.int .i64 ((As x17 p1.2.1.2.2).1), .int .i64 ((As x17 p1.2.1.2.2).2.1.1), .int .i64 ((As x17 p1.2.1.2.2).2.1.2.1.1), .int .i64 ((As x17 p1.2.1.2.2).2.1.2.1.2.1), .int .i64 ((As x17 p1.2.1.2.2).2.1.2.1.2.2.1), .int .i64 ((As x17 p1.2.1.2.2).2.1.2.1.2.2.2), .int .i64 ((As x17 p1.2.1.2.2).2.1.2.2.1), .int .i64 ((As x17 p1.2.1.2.2).2.1.2.2.2.1), .int .i64 ((As x17 p1.2.1.2.2).2.1.2.2.2.2.1), .int .i64 ((As x17 p1.2.1.2.2).2.1.2.2.2.2.2), v16]) AV ([((As x17 p1.2.1.2.2).1, ((As x17 p1.2.1.2.2).2.1.1, ((As x17 p1.2.1.2.2).2.1.2.1.1, (As x17 p1.2.1.2.2).2.1.2.1.2.1, (As x17 p1.2.1.2.2).2.1.2.1.2.2.1, (As x17 p1.2.1.2.2).2.1.2.1.2.2.2), ((As x17 p1.2.1.2.2).2.1.2.2.1, (As x17 p1.2.1.2.2).2.1.2.2.2.1, (As x17 p1.2.1.2.2).2.1.2.2.2.2.1, (As x17 p1.2.1.2.2).2.1.2.2.2.2.2)), (As x17 p1.2.1.2.2).2.2)] : List (Int × (Int × (Int × Int × Int × Int) × (Int × Int × Int × Int)) × (List (Int × Int × Int)))) F W Aa D7 JC Aa Aa Aa (Ca Aa Aa Aa DJ) Aa Aa ⟨[Value.int .i64 ((As x17 p1.2.1.2.2).1), Value.int .i64 ((As x17 p1.2.1.2.2).2.1.1), Value.int .i64 ((As x17 p1.2.1.2.2).2.1.2.1.1), Value.int .i64 ((As x17 p1.2.1.2.2).2.1.2.1.2.1), Value.int .i64 ((As x17 p1.2.1.2.2).2.1.2.1.2.2.1), Value.int .i64 ((As x17 p1.2.1.2.2).2.1.2.1.2.2.2), Value.int .i64 ((As x17 p1.2.1.2.2).2.1.2.2.1), Value.int .i64 ((As x17 p1.2.1.2.2).2.1.2.2.2.1), Value.int .i64 ((As x17 p1.2.1.2.2).2.1.2.2.2.2.1), Value.int .i64 ((As x17 p1.2.1.2.2).2.1.2.2.2.2.2), v16], _, Aa, ⟨[Value.int .i64 ((As x17 p1.2.1.2.2).1)], [Value.int .i64 ((As x17 p1.2.1.2.2).2.1.1), Value.int .i64 ((As x17 p1.2.1.2.2).2.1.2.1.1), Value.int .i64 ((As x17 p1.2.1.2.2).2.1.2.1.2.1), Value.int .i64 ((As x17 p1.2.1.2.2).2.1.2.1.2.2.1), Value.int .i64 ((As x17 p1.2.1.2.2).2.1.2.1.2.2.2), Value.int .i64 ((As x17 p1.2.1.2.2).2.1.2.2.1), Value.int .i64 ((As x17 p1.2.1.2.2).2.1.2.2.2.1), Value.int .i64 ((As x17 p1.2.1.2.2).2.1.2.2.2.2.1), Value.int .i64 ((As x17 p1.2.1.2.2).2.1.2.2.2.2.2), v16], Aa, Aa, ⟨[Value.int .i64 ((As x17 p1.2.1.2.2).2.1.1), Value.int .i64 ((As x17 p1.2.1.2.2).2.1.2.1.1), Value.int .i64 ((As x17 p1.2.1.2.2).2.1.2.1.2.1), Value.int .i64 ((As x17 p1.2.1.2.2).2.1.2.1.2.2.1), Value.int .i64 ((As x17 p1.2.1.2.2).2.1.2.1.2.2.2), Value.int .i64 ((As x17 p1.2.1.2.2).2.1.2.2.1), Value.int .i64 ((As x17 p1.2.1.2.2).2.1.2.2.2.1), Value.int .i64 ((As x17 p1.2.1.2.2).2.1.2.2.2.2.1), Value.int .i64 ((As x17 p1.2.1.2.2).2.1.2.2.2.2.2)], [v16], Aa, ⟨[Value.int .i64 ((As x17 p1.2.1.2.2).2.1.1)], [Value.int .i64 ((As x17 p1.2.1.2.2).2.1.2.1.1), Value.int .i64 ((As x17 p1.2.1.2.2).2.1.2.1.2.1), Value.int .i64 ((As x17 p1.2.1.2.2).2.1.2.1.2.2.1), Value.int .i64 ((As x17 p1.2.1.2.2).2.1.2.1.2.2.2), Value.int .i64 ((As x17 p1.2.1.2.2).2.1.2.2.1), Value.int .i64 ((As x17 p1.2.1.2.2).2.1.2.2.2.1), Value.int .i64 ((As x17 p1.2.1.2.2).2.1.2.2.2.2.1), Value.int .i64 ((As x17 p1.2.1.2.2).2.1.2.2.2.2.2)], Aa, Aa, ⟨[Value.int .i64 ((As x17 p1.2.1.2.2).2.1.2.1.1), Value.int .i64 ((As x17 p1.2.1.2.2).2.1.2.1.2.1), Value.int .i64 ((As x17 p1.2.1.2.2).2.1.2.1.2.2.1), Value.int .i64 ((As x17 p1.2.1.2.2).2.1.2.1.2.2.2)], [Value.int .i64 ((As x17 p1.2.1.2.2).2.1.2.2.1), Value.int .i64 ((As x17 p1.2.1.2.2).2.1.2.2.2.1), Value.int .i64 ((As x17 p1.2.1.2.2).2.1.2.2.2.2.1), Value.int .i64 ((As x17 p1.2.1.2.2).2.1.2.2.2.2.2)], Aa, ⟨[Value.int .i64 ((As x17 p1.2.1.2.2).2.1.2.1.1)], [Value.int .i64 ((As x17 p1.2.1.2.2).2.1.2.1.2.1), Value.int .i64 ((As x17 p1.2.1.2.2).2.1.2.1.2.2.1), Value.int .i64 ((As x17 p1.2.1.2.2).2.1.2.1.2.2.2)], Aa, Aa, ⟨[Value.int .i64 ((As x17 p1.2.1.2.2).2.1.2.1.2.1)], [Value.int .i64 ((As x17 p1.2.1.2.2).2.1.2.1.2.2.1), Value.int .i64 ((As x17 p1.2.1.2.2).2.1.2.1.2.2.2)], Aa, Aa, ⟨[Value.int .i64 ((As x17 p1.2.1.2.2).2.1.2.1.2.2.1)], [Value.int .i64 ((As x17 p1.2.1.2.2).2.1.2.1.2.2.2)], Aa, Aa, Aa⟩⟩⟩, ⟨[Value.int .i64 ((As x17 p1.2.1.2.2).2.1.2.2.1)], [Value.int .i64 ((As x17 p1.2.1.2.2).2.1.2.2.2.1), Value.int .i64 ((As x17 p1.2.1.2.2).2.1.2.2.2.2.1), Value.int .i64 ((As x17 p1.2.1.2.2).2.1.2.2.2.2.2)], Aa, Aa, ⟨[Value.int .i64 ((As x17 p1.2.1.2.2).2.1.2.2.2.1)], [Value.int .i64 ((As x17 p1.2.1.2.2).2.1.2.2.2.2.1), Value.int .i64 ((As x17 p1.2.1.2.2).2.1.2.2.2.2.2)], Aa, Aa, ⟨[Value.int .i64 ((As x17 p1.2.1.2.2).2.1.2.2.2.2.1)], [Value.int .i64 ((As x17 p1.2.1.2.2).2.1.2.2.2.2.2)], Aa, Aa, Aa⟩⟩⟩⟩⟩, ⟨_, Aa, (W.item (i := 0) Aa)⟩⟩⟩, Aa⟩ fun v17 a w F W => ?_
     have W := W.frontZ (i := 2) Aa Aa
     have W := W.hideR Ba h18
     obtain ⟨x18, h23, H⟩ := Ap H
     refine Fy (r := AV) (i := 0) F W Aa D7 Aa Aa Aa Aa (GO W 1 Aa) h23 Aa fun v18 a w F W => ?_
     have W : Stw ⟨Y, [], w0⟩ [(b1, [.int .i64 p1.1, .int .i64 p1.2.1.1, .int .i64 p1.2.1.2.1.1, .int .i64 p1.2.1.2.1.2.1.1, .int .i64 p1.2.1.2.1.2.1.2.1, .int .i64 p1.2.1.2.1.2.1.2.2.1, .int .i64 p1.2.1.2.1.2.1.2.2.2, .int .i64 p1.2.1.2.1.2.2.1, .int .i64 p1.2.1.2.1.2.2.2.1, .int .i64 p1.2.1.2.1.2.2.2.2.1, .int .i64 p1.2.1.2.1.2.2.2.2.2, v2, .bool p1.2.2])] [row v18 40 AV x18, row v17 40 AV ([((As x17 p1.2.1.2.2).1, ((As x17 p1.2.1.2.2).2.1.1, ((As x17 p1.2.1.2.2).2.1.2.1.1, (As x17 p1.2.1.2.2).2.1.2.1.2.1, (As x17 p1.2.1.2.2).2.1.2.1.2.2.1, (As x17 p1.2.1.2.2).2.1.2.1.2.2.2), ((As x17 p1.2.1.2.2).2.1.2.2.1, (As x17 p1.2.1.2.2).2.1.2.2.2.1, (As x17 p1.2.1.2.2).2.1.2.2.2.2.1, (As x17 p1.2.1.2.2).2.1.2.2.2.2.2)), (As x17 p1.2.1.2.2).2.2)] : List (Int × (Int × (Int × Int × Int × Int) × (Int × Int × Int × Int)) × (List (Int × Int × Int)))), BG v16 BD ((As x17 p1.2.1.2.2).2.2)] w := W
     refine ls F W Aa (Ag F Aa).q fun a w F W => ?_
     refine Af (A1 (Ad ?_))
     have W := W.sub (M' := [(b1, [.int .i64 p1.1, .int .i64 p1.2.1.1, .int .i64 p1.2.1.2.1.1, .int .i64 p1.2.1.2.1.2.1.1, .int .i64 p1.2.1.2.1.2.1.2.1, .int .i64 p1.2.1.2.1.2.1.2.2.1, .int .i64 p1.2.1.2.1.2.1.2.2.2, .int .i64 p1.2.1.2.1.2.2.1, .int .i64 p1.2.1.2.1.2.2.2.1, .int .i64 p1.2.1.2.1.2.2.2.2.1, .int .i64 p1.2.1.2.1.2.2.2.2.2, v2, .bool p1.2.2])]) (Z' := [row v18 40 AV x18]) (List.Sublist.refl _) (List.Sublist.cons_cons _ (List.nil_sublist _))
     exact ⟨_, _, _, (v18), H, F.re ⟨rfl, Aa, Aa, Aa, Aa, Aa, Aa, Aa, Aa, trivial⟩, W⟩
    have H := AG (by rw [hb]; decide) H
    rw [hb] at F
    clear hb
    refine Ax (A1 (Ad ?_))
    exact ⟨_, _, _, (v5), H, F.re ⟨rfl, Aa, Aa, Aa, Aa, Aa, Aa, Aa, Aa, trivial⟩, W⟩
   rintro a w ⟨x7, x8, x9, v6, hj, F, W⟩
   have hj := AJ hj
   subst hj
   have H := K3
   clear G3 K3
   refine Ae ?_
   refine ls F W Aa (Ah F Aa).q fun a w F W => ?_
   refine ls F W Aa (B6 F Aa Aa Aa).q fun a w F W => ?_
   refine ls F W Aa (Ag F Aa).q fun a w F W => ?_
   refine Af (Ad ?_)
   exact ⟨_, H, (v6), F.re ⟨rfl, Aa, Aa, Aa, Aa, Aa, Aa, Aa, Aa, trivial⟩, W⟩
  have H := AG (Bi hb) H
  rw [hb] at F
  clear hb
  refine Bu ?_
  iterate 2 refine BX ?_
  refine Br (Ad ?_)
  have H := L2 _ H
  exact ⟨_, _, (v5), H, F.re ⟨rfl, Aa, Aa, Aa, trivial⟩, W⟩
 rintro a w ⟨x1, x2, v4, hj, F, W⟩
 have hj := AJ hj
 subst hj
 have H := K1
 clear G1 K1
 refine Al (Ae ?_)
 iterate 2 refine ls F W Aa (Ah F Aa).q fun a w F W => ?_
 iterate 2 refine ls F W Aa (Ag F Aa).q fun a w F W => ?_
 refine Af (Ad (Ay ?_))
 have H := AJ H
 subst H
 refine CW (.inl Aa) F W Aa (Av F Aa) (Av F Aa) ?_
 have W := W.sub (M' := []) (Z' := [row v4 40 AV x1]) (List.nil_sublist _) (List.Sublist.refl _)
 exact ⟨(v4), Aa, W⟩
theorem Pz : Has Try.prog 48 := ⟨fun args w => An Try.func48 rfl (by decide) args w⟩
noncomputable def CS (p0 : List (Int × (Int × (Int × Int × Int × Int) × (Int × Int × Int × Int)) × (List (Int × Int × Int)))) (p1 : Int × (Int × (Int × Int × Int × Int) × (Int × Int × Int × Int)) × (List (Int × Int × Int))) : ((List (Int × (Int × (Int × Int × Int × Int) × (Int × Int × Int × Int)) × (List (Int × Int × Int)))) × Bool × Int) → Option (((List (Int × (Int × (Int × Int × Int × Int) × (Int × Int × Int × Int)) × (List (Int × Int × Int)))) × Bool × Int) ⊕ ((List (Int × (Int × (Int × Int × Int × Int) × (Int × Int × Int × Int)) × (List (Int × Int × Int)))) × Bool))
  | (x3, x4, x5) => (if x5 < (p0.length : Int) then ((if (!x4) = true then (ix p0 x5).bind fun x9 => some (decide (x9.1 < p1.1)) else some false).bind fun x8 => (if x8 = true then (Js x3 ([p1] : List (Int × (Int × (Int × Int × Int × Int) × (Int × Int × Int × Int)) × (List (Int × Int × Int))))).bind fun x10 => some (x10, true) else some (x3, x4))).bind fun (x6, x7) => (ix p0 x5).bind fun x11 => (Js x6 ([x11] : List (Int × (Int × (Int × Int × Int × Int) × (Int × Int × Int × Int)) × (List (Int × Int × Int))))).bind fun x12 => some (.inl (x12, x7, BT (x5 + 1))) else some (.inr (x3, x4)))
noncomputable def FZ (p0 : List (Int × (Int × (Int × Int × Int × Int) × (Int × Int × Int × Int)) × (List (Int × Int × Int)))) (p1 : Int × (Int × (Int × Int × Int × Int) × (Int × Int × Int × Int)) × (List (Int × Int × Int))) : Option (List (Int × (Int × (Int × Int × Int × Int) × (Int × Int × Int × Int)) × (List (Int × Int × Int)))) := (A9 (CS p0 p1) ([], false, 0)).bind fun (x1, x2) => (if (!x2) = true then (Js x1 ([p1] : List (Int × (Int × (Int × Int × Int × Int) × (Int × Int × Int × Int)) × (List (Int × Int × Int))))).bind fun x14 => some x14 else some x1).bind fun x13 => some x13
theorem Kc (Y : Nat → Prop) (w0 : World) (v1 : Value) (v2 : Value) (p0 : List (Int × (Int × (Int × Int × Int × Int) × (Int × Int × Int × Int)) × (List (Int × Int × Int)))) (p1 : Int × (Int × (Int × Int × Int × Int) × (Int × Int × Int × Int)) × (List (Int × Int × Int))) (r : (List (Int × (Int × (Int × Int × Int × Int) × (Int × Int × Int × Int)) × (List (Int × Int × Int))))) (H : FZ p0 p1 = some r) (s_v1 : Sl w0 Y AV v1 p0) (s_v2 : Sl w0 Y BD v2 p1.2.2) :
    Calls Try.prog 68 #[v1, .agg #[.int .i64 p1.1, .int .i64 p1.2.1.1, .int .i64 p1.2.1.2.1.1, .int .i64 p1.2.1.2.1.2.1, .int .i64 p1.2.1.2.1.2.2.1, .int .i64 p1.2.1.2.1.2.2.2, .int .i64 p1.2.1.2.2.1, .int .i64 p1.2.1.2.2.2.1, .int .i64 p1.2.1.2.2.2.2.1, .int .i64 p1.2.1.2.2.2.2.2, v2]] w0 fun e w' => ∃ x : Value, e = .returned (x) ∧ Stw ⟨Y, [], w0⟩ [] [row (x) 40 AV r] w' := by
 refine enter Try.func68 Aa Try.ntmps68 Aa fun a F => ?_
 have W := Stw.start Y w0
 obtain ⟨v3, h1, s_v1⟩ := s_v1.ex Ba
 have h_v1 := W.nx s_v1
 have h_v2 := W.nx s_v2
 unfold FZ at H
 refine Al (Ae ?_)
 refine BS (cs := [.int .i64 p1.1, .int .i64 p1.2.1.1, .int .i64 p1.2.1.2.1.1, .int .i64 p1.2.1.2.1.2.1, .int .i64 p1.2.1.2.1.2.2.1, .int .i64 p1.2.1.2.1.2.2.2, .int .i64 p1.2.1.2.2.1, .int .i64 p1.2.1.2.2.2.1, .int .i64 p1.2.1.2.2.2.2.1, .int .i64 p1.2.1.2.2.2.2.2, v2]) F W Aa Aa Aa fun b1 a w F W => ?_
 refine ls F W Aa (Ag F Aa).q fun a w F W => ?_
 refine Af (Ad (Al (Ae ?_)))
 refine ls F W Aa (Ag F Aa).q fun a w F W => ?_
 refine Af (Ad (Al (Ae ?_)))
 refine ls F W Aa (Ag F Aa).q fun a w F W => ?_
 refine Af (Ad ?_)
 obtain ⟨o1, G1, K1⟩ := Ap H
 refine AF (fun a w => ∃ x1 : List (Int × (Int × (Int × Int × Int × Int) × (Int × Int × Int × Int)) × (List (Int × Int × Int))), ∃ x2 : Bool, ∃ v4 : Value, some ((x1, x2)) = some o1 ∧ Fr 44 [] [(3, .pointer (some ⟨b1, 0, none⟩)), (4, .slice none 0 0), (5, v4), (6, .bool x2)] a ∧ Stw ⟨Y, [], w0⟩ [(b1, [.int .i64 p1.1, .int .i64 p1.2.1.1, .int .i64 p1.2.1.2.1.1, .int .i64 p1.2.1.2.1.2.1, .int .i64 p1.2.1.2.1.2.2.1, .int .i64 p1.2.1.2.1.2.2.2, .int .i64 p1.2.1.2.2.1, .int .i64 p1.2.1.2.2.2.1, .int .i64 p1.2.1.2.2.2.2.1, .int .i64 p1.2.1.2.2.2.2.2, v2])] [row v4 40 AV x1] w) ?_ ?_
 ·
  have H := G1
  clear G1 K1
  refine Al (Ae ?_)
  refine ls F W Aa (Ag F Aa).q fun a w F W => ?_
  refine Af (Ad (AC ?_))
  have W := W.nilRow 40 AV
  refine Bz H (fun s a w => ∃ v5 : Value, Fr 44 [] [(0, v1), (3, .pointer (some ⟨b1, 0, none⟩)), (4, .slice none 0 0), (5, v5), (6, .bool s.2.1), (7, .int .i64 s.2.2)] a ∧ Stw ⟨Y, [], w0⟩ [(b1, [.int .i64 p1.1, .int .i64 p1.2.1.1, .int .i64 p1.2.1.2.1.1, .int .i64 p1.2.1.2.1.2.1, .int .i64 p1.2.1.2.1.2.2.1, .int .i64 p1.2.1.2.1.2.2.2, .int .i64 p1.2.1.2.2.1, .int .i64 p1.2.1.2.2.2.1, .int .i64 p1.2.1.2.2.2.2.1, .int .i64 p1.2.1.2.2.2.2.2, v2])] [row v5 40 AV s.1] w) ⟨(Value.slice none 0 0), F.re ⟨rfl, Aa, Aa, Aa, Aa, Aa, trivial⟩, W⟩ fun s o a w H L2 hR => ?_
  obtain ⟨x3, x4, x5⟩ := s
  obtain ⟨v5, F, W⟩ := hR
  have F : Fr 44 [] [(0, v1), (3, .pointer (some ⟨b1, 0, none⟩)), (4, .slice none 0 0), (5, v5), (6, .bool x4), (7, .int .i64 x5)] a := F
  have W : Stw ⟨Y, [], w0⟩ [(b1, [.int .i64 p1.1, .int .i64 p1.2.1.1, .int .i64 p1.2.1.2.1.1, .int .i64 p1.2.1.2.1.2.1, .int .i64 p1.2.1.2.1.2.2.1, .int .i64 p1.2.1.2.1.2.2.2, .int .i64 p1.2.1.2.2.1, .int .i64 p1.2.1.2.2.2.1, .int .i64 p1.2.1.2.2.2.2.1, .int .i64 p1.2.1.2.2.2.2.2, v2])] [row v5 40 AV x3] w := W
  rw [CS] at H
  refine Al (Al (Ae ?_))
  iterate 2 refine ls F W Aa (Ah F Aa).q fun a w F W => ?_
  refine ls F W Aa (B7 (r := AV) (l := p0) DW Aa F Aa (Bc Ba h1 (Aw h_v1))).q fun a w F W => ?_
  refine ls F W Aa (BI F Aa Aa).q fun a w F W => ?_
  refine Af (Ad ?_)
  refine AA F Aa (fun hb => ?_) fun hb => ?_
  ·
   have H := AH (Bj hb) H
   rw [hb] at F
   clear hb
   refine Ax (Ad (Al (AC ?_)))
   obtain ⟨o3, G3, K3⟩ := Ap H
   refine AF (fun a w => ∃ x6 : List (Int × (Int × (Int × Int × Int × Int) × (Int × Int × Int × Int)) × (List (Int × Int × Int))), ∃ x7 : Bool, ∃ v6 : Value, some ((x6, x7)) = some o3 ∧ Fr 44 [] [(0, v1), (3, .pointer (some ⟨b1, 0, none⟩)), (4, .slice none 0 0), (5, v6), (6, .bool x7), (7, .int .i64 x5)] a ∧ Stw ⟨Y, [], w0⟩ [(b1, [.int .i64 p1.1, .int .i64 p1.2.1.1, .int .i64 p1.2.1.2.1.1, .int .i64 p1.2.1.2.1.2.1, .int .i64 p1.2.1.2.1.2.2.1, .int .i64 p1.2.1.2.1.2.2.2, .int .i64 p1.2.1.2.2.1, .int .i64 p1.2.1.2.2.2.1, .int .i64 p1.2.1.2.2.2.2.1, .int .i64 p1.2.1.2.2.2.2.2, v2])] [row v6 40 AV x6] w) ?_ ?_
   ·
    have H := G3
    clear G3 K3
    obtain ⟨o4, G4, K4⟩ := Ap H
    refine AF (fun a w => ∃ x8 : Bool, some (x8) = some o4 ∧ Fr 44 [] [(0, v1), (3, .pointer (some ⟨b1, 0, none⟩)), (4, .slice none 0 0), (5, v5), (6, .bool x4), (7, .int .i64 x5), (25, .bool x8)] a ∧ Stw ⟨Y, [], w0⟩ [(b1, [.int .i64 p1.1, .int .i64 p1.2.1.1, .int .i64 p1.2.1.2.1.1, .int .i64 p1.2.1.2.1.2.1, .int .i64 p1.2.1.2.1.2.2.1, .int .i64 p1.2.1.2.1.2.2.2, .int .i64 p1.2.1.2.2.1, .int .i64 p1.2.1.2.2.2.1, .int .i64 p1.2.1.2.2.2.2.1, .int .i64 p1.2.1.2.2.2.2.2, v2])] [row v5 40 AV x3] w) ?_ ?_
    ·
     have H := G4
     clear G4 K4
     obtain ⟨v7, h2, W⟩ := W.exR Ba
     refine Co W MO (by kernel_rfl) ?_
     refine qs F Aa (Ah F Aa).q fun a F => ?_
     refine qs F Aa (Ec F Aa).q fun a F => ?_
     refine qs F Aa (Ah F Aa).q fun a F => ?_
     rcases Bool.eq_false_or_eq_true (!x4) with hb | hb
     ·
      have H := AH hb H
      rw [hb] at F
      clear hb
      iterate 2 refine Bh F (Ai F Aa Aa Aa Aa) Aa (Ao Aa) (Ah F Aa).q fun a F => ?_
      obtain ⟨x9, h3, H⟩ := Ap H
      obtain ⟨v8, h4, h5⟩ := Ck h1 h3
      have h6 : B5 v8 = [.int .i64 x9.1, .int .i64 x9.2.1.1, .int .i64 x9.2.1.2.1.1, .int .i64 x9.2.1.2.1.2.1, .int .i64 x9.2.1.2.1.2.2.1, .int .i64 x9.2.1.2.1.2.2.2, .int .i64 x9.2.1.2.2.1, .int .i64 x9.2.1.2.2.2.1, .int .i64 x9.2.1.2.2.2.2.1, .int .i64 x9.2.1.2.2.2.2.2, (v8.2.2.1)] := congrArg (fun q : Int × (Int × (Int × Int × Int × Int) × (Int × Int × Int × Int)) × (List (Int × Int × Int)) => ([.int .i64 q.1, .int .i64 q.2.1.1, .int .i64 q.2.1.2.1.1, .int .i64 q.2.1.2.1.2.1, .int .i64 q.2.1.2.1.2.2.1, .int .i64 q.2.1.2.1.2.2.2, .int .i64 q.2.1.2.2.1, .int .i64 q.2.1.2.2.2.1, .int .i64 q.2.1.2.2.2.2.1, .int .i64 q.2.1.2.2.2.2.2, (v8.2.2.1)] : List Value)) h5
      refine Bh F (Ai F Aa Aa Aa Aa) Aa (Ao Aa) (Bg (r := Cz) D7 F Aa Aa (Aw h_v1) h4).q fun a F => ?_
      refine Bh F (Ai F Aa Aa Aa Aa) Aa (Ao Aa) (Aj Ci Aa Aa Aa T3 F Aa (EM v1 + (x5).toNat * 11) Aa).q fun a F => ?_
      refine Bh F (Ai F Aa Aa Aa Aa) Aa (Ao Aa) (A0 (y := Value.int .i64 x9.1) (j := 0) (i := x5) (enc := B5) F Aa Aa (Aw h_v1) h4 DS T3 (by rw [h6]; rfl)).q fun a F => ?_
      refine Bh F (Ai F Aa Aa Aa Aa) Aa (Ao Aa) (Aj Ci Aa Aa Aa T3 F Aa 0 Aa).q fun a F => ?_
      refine Bh F (Ai F Aa Aa Aa Aa) Aa (Ao Aa) (Aq (v := Value.int .i64 p1.1) 0 F Aa Aa T3 Aa).q fun a F => ?_
      refine Bh F (Ai F Aa Aa Aa Aa) Aa (Ao Aa) (BI F Aa Aa).q fun a F => ?_
      refine qs F Aa (Az F Aa Aa Aa).q fun a F => ?_
      refine A4 fun w W => ?_
      refine Ad ?_
      have W := W.hideR Ba h2
      exact ⟨_, H, F.re ⟨rfl, Aa, Aa, Aa, Aa, Aa, Aa, trivial⟩, W⟩
     have H := AG (by rw [hb]; decide) H
     rw [hb] at F
     clear hb
     iterate 8 refine BK F (Bq F Aa Aa Aa Aa Aa) Aa Aa fun a F => ?_
     refine qs F Aa (Au F Aa Aa Aa).q fun a F => ?_
     refine A4 fun w W => ?_
     refine Ad ?_
     have W := W.hideR Ba h2
     exact ⟨_, H, F.re ⟨rfl, Aa, Aa, Aa, Aa, Aa, Aa, trivial⟩, W⟩
    rintro a w ⟨x8, hj, F, W⟩
    have hj := AJ hj
    subst hj
    have H := K4
    clear G4 K4
    refine AA F Aa (fun hb => ?_) fun hb => ?_
    ·
     have H := AH hb H
     rw [hb] at F
     clear hb
     refine Al (Ae ?_)
     refine ls F W Aa (Ah F Aa).q fun a w F W => ?_
     refine ls F W Aa (Aq (v := Value.agg #[.int .i64 p1.1, .int .i64 p1.2.1.1, .int .i64 p1.2.1.2.1.1, .int .i64 p1.2.1.2.1.2.1, .int .i64 p1.2.1.2.1.2.2.1, .int .i64 p1.2.1.2.1.2.2.2, .int .i64 p1.2.1.2.2.1, .int .i64 p1.2.1.2.2.2.1, .int .i64 p1.2.1.2.2.2.2.1, .int .i64 p1.2.1.2.2.2.2.2, v2]) 0 F Aa Aa CH Aa).q fun a w F W => ?_
     refine Gm (z := Value.agg #[.int .i64 0, .int .i64 0, .int .i64 0, .int .i64 0, .int .i64 0, .int .i64 0, .int .i64 0, .int .i64 0, .int .i64 0, .int .i64 0, .slice none 0 0]) (cs := [.int .i64 p1.1, .int .i64 p1.2.1.1, .int .i64 p1.2.1.2.1.1, .int .i64 p1.2.1.2.1.2.1, .int .i64 p1.2.1.2.1.2.2.1, .int .i64 p1.2.1.2.1.2.2.2, .int .i64 p1.2.1.2.2.1, .int .i64 p1.2.1.2.2.2.1, .int .i64 p1.2.1.2.2.2.2.1, .int .i64 p1.2.1.2.2.2.2.2, v2]) AV ([p1] : List (Int × (Int × (Int × Int × Int × Int) × (Int × Int × Int × Int)) × (List (Int × Int × Int)))) F W Aa D7 JC Aa Aa Aa (Ca Aa Aa Aa DJ) Aa Aa ⟨[Value.int .i64 p1.1, Value.int .i64 p1.2.1.1, Value.int .i64 p1.2.1.2.1.1, Value.int .i64 p1.2.1.2.1.2.1, Value.int .i64 p1.2.1.2.1.2.2.1, Value.int .i64 p1.2.1.2.1.2.2.2, Value.int .i64 p1.2.1.2.2.1, Value.int .i64 p1.2.1.2.2.2.1, Value.int .i64 p1.2.1.2.2.2.2.1, Value.int .i64 p1.2.1.2.2.2.2.2, v2], _, Aa, ⟨[Value.int .i64 p1.1], [Value.int .i64 p1.2.1.1, Value.int .i64 p1.2.1.2.1.1, Value.int .i64 p1.2.1.2.1.2.1, Value.int .i64 p1.2.1.2.1.2.2.1, Value.int .i64 p1.2.1.2.1.2.2.2, Value.int .i64 p1.2.1.2.2.1, Value.int .i64 p1.2.1.2.2.2.1, Value.int .i64 p1.2.1.2.2.2.2.1, Value.int .i64 p1.2.1.2.2.2.2.2, v2], Aa, Aa, ⟨[Value.int .i64 p1.2.1.1, Value.int .i64 p1.2.1.2.1.1, Value.int .i64 p1.2.1.2.1.2.1, Value.int .i64 p1.2.1.2.1.2.2.1, Value.int .i64 p1.2.1.2.1.2.2.2, Value.int .i64 p1.2.1.2.2.1, Value.int .i64 p1.2.1.2.2.2.1, Value.int .i64 p1.2.1.2.2.2.2.1, Value.int .i64 p1.2.1.2.2.2.2.2], [v2], Aa, ⟨[Value.int .i64 p1.2.1.1], [Value.int .i64 p1.2.1.2.1.1, Value.int .i64 p1.2.1.2.1.2.1, Value.int .i64 p1.2.1.2.1.2.2.1, Value.int .i64 p1.2.1.2.1.2.2.2, Value.int .i64 p1.2.1.2.2.1, Value.int .i64 p1.2.1.2.2.2.1, Value.int .i64 p1.2.1.2.2.2.2.1, Value.int .i64 p1.2.1.2.2.2.2.2], Aa, Aa, ⟨[Value.int .i64 p1.2.1.2.1.1, Value.int .i64 p1.2.1.2.1.2.1, Value.int .i64 p1.2.1.2.1.2.2.1, Value.int .i64 p1.2.1.2.1.2.2.2], [Value.int .i64 p1.2.1.2.2.1, Value.int .i64 p1.2.1.2.2.2.1, Value.int .i64 p1.2.1.2.2.2.2.1, Value.int .i64 p1.2.1.2.2.2.2.2], Aa, ⟨[Value.int .i64 p1.2.1.2.1.1], [Value.int .i64 p1.2.1.2.1.2.1, Value.int .i64 p1.2.1.2.1.2.2.1, Value.int .i64 p1.2.1.2.1.2.2.2], Aa, Aa, ⟨[Value.int .i64 p1.2.1.2.1.2.1], [Value.int .i64 p1.2.1.2.1.2.2.1, Value.int .i64 p1.2.1.2.1.2.2.2], Aa, Aa, ⟨[Value.int .i64 p1.2.1.2.1.2.2.1], [Value.int .i64 p1.2.1.2.1.2.2.2], Aa, Aa, Aa⟩⟩⟩, ⟨[Value.int .i64 p1.2.1.2.2.1], [Value.int .i64 p1.2.1.2.2.2.1, Value.int .i64 p1.2.1.2.2.2.2.1, Value.int .i64 p1.2.1.2.2.2.2.2], Aa, Aa, ⟨[Value.int .i64 p1.2.1.2.2.2.1], [Value.int .i64 p1.2.1.2.2.2.2.1, Value.int .i64 p1.2.1.2.2.2.2.2], Aa, Aa, ⟨[Value.int .i64 p1.2.1.2.2.2.2.1], [Value.int .i64 p1.2.1.2.2.2.2.2], Aa, Aa, Aa⟩⟩⟩⟩⟩, ⟨_, Aa, (W.old s_v2)⟩⟩⟩, Aa⟩ fun v9 a w F W => ?_
     obtain ⟨x10, h7, H⟩ := Ap H
     refine Fy (r := AV) (i := 1) F W Aa D7 Aa Aa Aa Aa (GO W 0 Aa) h7 Aa fun v10 a w F W => ?_
     have W : Stw ⟨Y, [], w0⟩ [(b1, [.int .i64 p1.1, .int .i64 p1.2.1.1, .int .i64 p1.2.1.2.1.1, .int .i64 p1.2.1.2.1.2.1, .int .i64 p1.2.1.2.1.2.2.1, .int .i64 p1.2.1.2.1.2.2.2, .int .i64 p1.2.1.2.2.1, .int .i64 p1.2.1.2.2.2.1, .int .i64 p1.2.1.2.2.2.2.1, .int .i64 p1.2.1.2.2.2.2.2, v2])] [row v10 40 AV x10, row v9 40 AV ([p1] : List (Int × (Int × (Int × Int × Int × Int) × (Int × Int × Int × Int)) × (List (Int × Int × Int))))] w := W
     refine ls F W Aa (Ag F Aa).q fun a w F W => ?_
     refine Af (Ad (Ae ?_))
     refine ls F W Aa (Ag F Aa).q fun a w F W => ?_
     refine Af (Ad ?_)
     have W := W.sub (M' := [(b1, [.int .i64 p1.1, .int .i64 p1.2.1.1, .int .i64 p1.2.1.2.1.1, .int .i64 p1.2.1.2.1.2.1, .int .i64 p1.2.1.2.1.2.2.1, .int .i64 p1.2.1.2.1.2.2.2, .int .i64 p1.2.1.2.2.1, .int .i64 p1.2.1.2.2.2.1, .int .i64 p1.2.1.2.2.2.2.1, .int .i64 p1.2.1.2.2.2.2.2, v2])]) (Z' := [row v10 40 AV x10]) (List.Sublist.refl _) (List.Sublist.cons_cons _ (List.nil_sublist _))
     exact ⟨_, _, (v10), H, F.re ⟨rfl, Aa, Aa, Aa, Aa, Aa, trivial⟩, W⟩
    have H := AG (by rw [hb]; decide) H
    rw [hb] at F
    clear hb
    refine Ax (Ad ?_)
    exact ⟨_, _, (v5), H, F.re ⟨rfl, Aa, Aa, Aa, Aa, Aa, trivial⟩, W⟩
   rintro a w ⟨x6, x7, v6, hj, F, W⟩
   have hj := AJ hj
   subst hj
   have H := K3
   clear G3 K3
   obtain ⟨v11, h8, W⟩ := W.exR Ba
   refine Ae ?_
   iterate 3 refine ls F W Aa (Ah F Aa).q fun a w F W => ?_
   obtain ⟨x11, h9, H⟩ := Ap H
   obtain ⟨v12, h10, h11⟩ := Ck h1 h9
   have h12 : B5 v12 = [.int .i64 x11.1, .int .i64 x11.2.1.1, .int .i64 x11.2.1.2.1.1, .int .i64 x11.2.1.2.1.2.1, .int .i64 x11.2.1.2.1.2.2.1, .int .i64 x11.2.1.2.1.2.2.2, .int .i64 x11.2.1.2.2.1, .int .i64 x11.2.1.2.2.2.1, .int .i64 x11.2.1.2.2.2.2.1, .int .i64 x11.2.1.2.2.2.2.2, (v12.2.2.1)] := congrArg (fun q : Int × (Int × (Int × Int × Int × Int) × (Int × Int × Int × Int)) × (List (Int × Int × Int)) => ([.int .i64 q.1, .int .i64 q.2.1.1, .int .i64 q.2.1.2.1.1, .int .i64 q.2.1.2.1.2.1, .int .i64 q.2.1.2.1.2.2.1, .int .i64 q.2.1.2.1.2.2.2, .int .i64 q.2.1.2.2.1, .int .i64 q.2.1.2.2.2.1, .int .i64 q.2.1.2.2.2.2.1, .int .i64 q.2.1.2.2.2.2.2, (v12.2.2.1)] : List Value)) h11
   refine ls F W Aa (Bg (r := Cz) D7 F Aa Aa (Aw h_v1) h10).q fun a w F W => ?_
   refine ls F W Aa (A0 (y := Value.agg #[.int .i64 x11.1, .int .i64 x11.2.1.1, .int .i64 x11.2.1.2.1.1, .int .i64 x11.2.1.2.1.2.1, .int .i64 x11.2.1.2.1.2.2.1, .int .i64 x11.2.1.2.1.2.2.2, .int .i64 x11.2.1.2.2.1, .int .i64 x11.2.1.2.2.2.1, .int .i64 x11.2.1.2.2.2.2.1, .int .i64 x11.2.1.2.2.2.2.2, (v12.2.2.1)]) (j := 0) (i := x5) (enc := B5) F Aa Aa (Aw h_v1) h10 DS CH (by rw [h12]; rfl)).q fun a w F W => ?_
   refine Gm (z := Value.agg #[.int .i64 0, .int .i64 0, .int .i64 0, .int .i64 0, .int .i64 0, .int .i64 0, .int .i64 0, .int .i64 0, .int .i64 0, .int .i64 0, .slice none 0 0]) (cs := [.int .i64 x11.1, .int .i64 x11.2.1.1, .int .i64 x11.2.1.2.1.1, .int .i64 x11.2.1.2.1.2.1, .int .i64 x11.2.1.2.1.2.2.1, .int .i64 x11.2.1.2.1.2.2.2, .int .i64 x11.2.1.2.2.1, .int .i64 x11.2.1.2.2.2.1, .int .i64 x11.2.1.2.2.2.2.1, .int .i64 x11.2.1.2.2.2.2.2, (v12.2.2.1)]) AV ([x11] : List (Int × (Int × (Int × Int × Int × Int) × (Int × Int × Int × Int)) × (List (Int × Int × Int)))) F W Aa D7 JC Aa Aa Aa (Ca Aa Aa Aa DJ) Aa Aa ⟨[Value.int .i64 x11.1, Value.int .i64 x11.2.1.1, Value.int .i64 x11.2.1.2.1.1, Value.int .i64 x11.2.1.2.1.2.1, Value.int .i64 x11.2.1.2.1.2.2.1, Value.int .i64 x11.2.1.2.1.2.2.2, Value.int .i64 x11.2.1.2.2.1, Value.int .i64 x11.2.1.2.2.2.1, Value.int .i64 x11.2.1.2.2.2.2.1, Value.int .i64 x11.2.1.2.2.2.2.2, (v12.2.2.1)], _, Aa, ⟨[Value.int .i64 x11.1], [Value.int .i64 x11.2.1.1, Value.int .i64 x11.2.1.2.1.1, Value.int .i64 x11.2.1.2.1.2.1, Value.int .i64 x11.2.1.2.1.2.2.1, Value.int .i64 x11.2.1.2.1.2.2.2, Value.int .i64 x11.2.1.2.2.1, Value.int .i64 x11.2.1.2.2.2.1, Value.int .i64 x11.2.1.2.2.2.2.1, Value.int .i64 x11.2.1.2.2.2.2.2, (v12.2.2.1)], Aa, Aa, ⟨[Value.int .i64 x11.2.1.1, Value.int .i64 x11.2.1.2.1.1, Value.int .i64 x11.2.1.2.1.2.1, Value.int .i64 x11.2.1.2.1.2.2.1, Value.int .i64 x11.2.1.2.1.2.2.2, Value.int .i64 x11.2.1.2.2.1, Value.int .i64 x11.2.1.2.2.2.1, Value.int .i64 x11.2.1.2.2.2.2.1, Value.int .i64 x11.2.1.2.2.2.2.2], [(v12.2.2.1)], Aa, ⟨[Value.int .i64 x11.2.1.1], [Value.int .i64 x11.2.1.2.1.1, Value.int .i64 x11.2.1.2.1.2.1, Value.int .i64 x11.2.1.2.1.2.2.1, Value.int .i64 x11.2.1.2.1.2.2.2, Value.int .i64 x11.2.1.2.2.1, Value.int .i64 x11.2.1.2.2.2.1, Value.int .i64 x11.2.1.2.2.2.2.1, Value.int .i64 x11.2.1.2.2.2.2.2], Aa, Aa, ⟨[Value.int .i64 x11.2.1.2.1.1, Value.int .i64 x11.2.1.2.1.2.1, Value.int .i64 x11.2.1.2.1.2.2.1, Value.int .i64 x11.2.1.2.1.2.2.2], [Value.int .i64 x11.2.1.2.2.1, Value.int .i64 x11.2.1.2.2.2.1, Value.int .i64 x11.2.1.2.2.2.2.1, Value.int .i64 x11.2.1.2.2.2.2.2], Aa, ⟨[Value.int .i64 x11.2.1.2.1.1], [Value.int .i64 x11.2.1.2.1.2.1, Value.int .i64 x11.2.1.2.1.2.2.1, Value.int .i64 x11.2.1.2.1.2.2.2], Aa, Aa, ⟨[Value.int .i64 x11.2.1.2.1.2.1], [Value.int .i64 x11.2.1.2.1.2.2.1, Value.int .i64 x11.2.1.2.1.2.2.2], Aa, Aa, ⟨[Value.int .i64 x11.2.1.2.1.2.2.1], [Value.int .i64 x11.2.1.2.1.2.2.2], Aa, Aa, Aa⟩⟩⟩, ⟨[Value.int .i64 x11.2.1.2.2.1], [Value.int .i64 x11.2.1.2.2.2.1, Value.int .i64 x11.2.1.2.2.2.2.1, Value.int .i64 x11.2.1.2.2.2.2.2], Aa, Aa, ⟨[Value.int .i64 x11.2.1.2.2.2.1], [Value.int .i64 x11.2.1.2.2.2.2.1, Value.int .i64 x11.2.1.2.2.2.2.2], Aa, Aa, ⟨[Value.int .i64 x11.2.1.2.2.2.2.1], [Value.int .i64 x11.2.1.2.2.2.2.2], Aa, Aa, Aa⟩⟩⟩⟩⟩, ⟨_, Aa, (Sl.at_ (W.old s_v1) h10 (Bb.snd (Bb.snd Bb.here)) (congrArg (fun q : Int × (Int × (Int × Int × Int × Int) × (Int × Int × Int × Int)) × (List (Int × Int × Int)) => q.2.2) h11))⟩⟩⟩, Aa⟩ fun v13 a w F W => ?_
   have W := W.frontZ (i := 1) Aa Aa
   have W := W.hideR Ba h8
   obtain ⟨x12, h13, H⟩ := Ap H
   refine Fy (r := AV) (i := 0) F W Aa D7 Aa Aa Aa Aa (GO W 1 Aa) h13 Aa fun v14 a w F W => ?_
   have W : Stw ⟨Y, [], w0⟩ [(b1, [.int .i64 p1.1, .int .i64 p1.2.1.1, .int .i64 p1.2.1.2.1.1, .int .i64 p1.2.1.2.1.2.1, .int .i64 p1.2.1.2.1.2.2.1, .int .i64 p1.2.1.2.1.2.2.2, .int .i64 p1.2.1.2.2.1, .int .i64 p1.2.1.2.2.2.1, .int .i64 p1.2.1.2.2.2.2.1, .int .i64 p1.2.1.2.2.2.2.2, v2])] [row v14 40 AV x12, row v13 40 AV ([x11] : List (Int × (Int × (Int × Int × Int × Int) × (Int × Int × Int × Int)) × (List (Int × Int × Int))))] w := W
   refine ls F W Aa (Ag F Aa).q fun a w F W => ?_
   refine Af (A1 (Ad (Ae ?_)))
   refine ls F W Aa (Ah F Aa).q fun a w F W => ?_
   refine ls F W Aa (B6 F Aa Aa Aa).q fun a w F W => ?_
   refine ls F W Aa (Ag F Aa).q fun a w F W => ?_
   refine Af (Ad ?_)
   have W := W.sub (M' := [(b1, [.int .i64 p1.1, .int .i64 p1.2.1.1, .int .i64 p1.2.1.2.1.1, .int .i64 p1.2.1.2.1.2.1, .int .i64 p1.2.1.2.1.2.2.1, .int .i64 p1.2.1.2.1.2.2.2, .int .i64 p1.2.1.2.2.1, .int .i64 p1.2.1.2.2.2.1, .int .i64 p1.2.1.2.2.2.2.1, .int .i64 p1.2.1.2.2.2.2.2, v2])]) (Z' := [row v14 40 AV x12]) (List.Sublist.refl _) (List.Sublist.cons_cons _ (List.nil_sublist _))
   exact ⟨_, H, (v14), F.re ⟨rfl, Aa, Aa, Aa, Aa, Aa, trivial⟩, W⟩
  have H := AG (Bi hb) H
  rw [hb] at F
  clear hb
  refine Bu ?_
  iterate 2 refine BX ?_
  refine Br (Ad ?_)
  have H := L2 _ H
  exact ⟨_, _, (v5), H, F.re ⟨rfl, Aa, Aa, Aa, trivial⟩, W⟩
 rintro a w ⟨x1, x2, v4, hj, F, W⟩
 have hj := AJ hj
 subst hj
 have H := K1
 clear G1 K1
 obtain ⟨o5, G5, K5⟩ := Ap H
 refine AF (fun a w => ∃ x13 : List (Int × (Int × (Int × Int × Int × Int) × (Int × Int × Int × Int)) × (List (Int × Int × Int))), ∃ v15 : Value, some (x13) = some o5 ∧ Fr 44 [] [(4, .slice none 0 0), (5, v15)] a ∧ Stw ⟨Y, [], w0⟩ [(b1, [.int .i64 p1.1, .int .i64 p1.2.1.1, .int .i64 p1.2.1.2.1.1, .int .i64 p1.2.1.2.1.2.1, .int .i64 p1.2.1.2.1.2.2.1, .int .i64 p1.2.1.2.1.2.2.2, .int .i64 p1.2.1.2.2.1, .int .i64 p1.2.1.2.2.2.1, .int .i64 p1.2.1.2.2.2.2.1, .int .i64 p1.2.1.2.2.2.2.2, v2])] [row v15 40 AV x13] w) ?_ ?_
 ·
  have H := G5
  clear G5 K5
  refine Al (Ae ?_)
  refine ls F W Aa (Ah F Aa).q fun a w F W => ?_
  refine ls F W Aa (Ec F Aa).q fun a w F W => ?_
  refine Af (Ad ?_)
  refine AA F Aa (fun hb => ?_) fun hb => ?_
  ·
   have H := AH hb H
   rw [hb] at F
   clear hb
   refine Ae ?_
   refine ls F W Aa (Ah F Aa).q fun a w F W => ?_
   refine ls F W Aa (Aq (v := Value.agg #[.int .i64 p1.1, .int .i64 p1.2.1.1, .int .i64 p1.2.1.2.1.1, .int .i64 p1.2.1.2.1.2.1, .int .i64 p1.2.1.2.1.2.2.1, .int .i64 p1.2.1.2.1.2.2.2, .int .i64 p1.2.1.2.2.1, .int .i64 p1.2.1.2.2.2.1, .int .i64 p1.2.1.2.2.2.2.1, .int .i64 p1.2.1.2.2.2.2.2, v2]) 0 F Aa Aa CH Aa).q fun a w F W => ?_
   refine Gm (z := Value.agg #[.int .i64 0, .int .i64 0, .int .i64 0, .int .i64 0, .int .i64 0, .int .i64 0, .int .i64 0, .int .i64 0, .int .i64 0, .int .i64 0, .slice none 0 0]) (cs := [.int .i64 p1.1, .int .i64 p1.2.1.1, .int .i64 p1.2.1.2.1.1, .int .i64 p1.2.1.2.1.2.1, .int .i64 p1.2.1.2.1.2.2.1, .int .i64 p1.2.1.2.1.2.2.2, .int .i64 p1.2.1.2.2.1, .int .i64 p1.2.1.2.2.2.1, .int .i64 p1.2.1.2.2.2.2.1, .int .i64 p1.2.1.2.2.2.2.2, v2]) AV ([p1] : List (Int × (Int × (Int × Int × Int × Int) × (Int × Int × Int × Int)) × (List (Int × Int × Int)))) F W Aa D7 JC Aa Aa Aa (Ca Aa Aa Aa DJ) Aa Aa ⟨[Value.int .i64 p1.1, Value.int .i64 p1.2.1.1, Value.int .i64 p1.2.1.2.1.1, Value.int .i64 p1.2.1.2.1.2.1, Value.int .i64 p1.2.1.2.1.2.2.1, Value.int .i64 p1.2.1.2.1.2.2.2, Value.int .i64 p1.2.1.2.2.1, Value.int .i64 p1.2.1.2.2.2.1, Value.int .i64 p1.2.1.2.2.2.2.1, Value.int .i64 p1.2.1.2.2.2.2.2, v2], _, Aa, ⟨[Value.int .i64 p1.1], [Value.int .i64 p1.2.1.1, Value.int .i64 p1.2.1.2.1.1, Value.int .i64 p1.2.1.2.1.2.1, Value.int .i64 p1.2.1.2.1.2.2.1, Value.int .i64 p1.2.1.2.1.2.2.2, Value.int .i64 p1.2.1.2.2.1, Value.int .i64 p1.2.1.2.2.2.1, Value.int .i64 p1.2.1.2.2.2.2.1, Value.int .i64 p1.2.1.2.2.2.2.2, v2], Aa, Aa, ⟨[Value.int .i64 p1.2.1.1, Value.int .i64 p1.2.1.2.1.1, Value.int .i64 p1.2.1.2.1.2.1, Value.int .i64 p1.2.1.2.1.2.2.1, Value.int .i64 p1.2.1.2.1.2.2.2, Value.int .i64 p1.2.1.2.2.1, Value.int .i64 p1.2.1.2.2.2.1, Value.int .i64 p1.2.1.2.2.2.2.1, Value.int .i64 p1.2.1.2.2.2.2.2], [v2], Aa, ⟨[Value.int .i64 p1.2.1.1], [Value.int .i64 p1.2.1.2.1.1, Value.int .i64 p1.2.1.2.1.2.1, Value.int .i64 p1.2.1.2.1.2.2.1, Value.int .i64 p1.2.1.2.1.2.2.2, Value.int .i64 p1.2.1.2.2.1, Value.int .i64 p1.2.1.2.2.2.1, Value.int .i64 p1.2.1.2.2.2.2.1, Value.int .i64 p1.2.1.2.2.2.2.2], Aa, Aa, ⟨[Value.int .i64 p1.2.1.2.1.1, Value.int .i64 p1.2.1.2.1.2.1, Value.int .i64 p1.2.1.2.1.2.2.1, Value.int .i64 p1.2.1.2.1.2.2.2], [Value.int .i64 p1.2.1.2.2.1, Value.int .i64 p1.2.1.2.2.2.1, Value.int .i64 p1.2.1.2.2.2.2.1, Value.int .i64 p1.2.1.2.2.2.2.2], Aa, ⟨[Value.int .i64 p1.2.1.2.1.1], [Value.int .i64 p1.2.1.2.1.2.1, Value.int .i64 p1.2.1.2.1.2.2.1, Value.int .i64 p1.2.1.2.1.2.2.2], Aa, Aa, ⟨[Value.int .i64 p1.2.1.2.1.2.1], [Value.int .i64 p1.2.1.2.1.2.2.1, Value.int .i64 p1.2.1.2.1.2.2.2], Aa, Aa, ⟨[Value.int .i64 p1.2.1.2.1.2.2.1], [Value.int .i64 p1.2.1.2.1.2.2.2], Aa, Aa, Aa⟩⟩⟩, ⟨[Value.int .i64 p1.2.1.2.2.1], [Value.int .i64 p1.2.1.2.2.2.1, Value.int .i64 p1.2.1.2.2.2.2.1, Value.int .i64 p1.2.1.2.2.2.2.2], Aa, Aa, ⟨[Value.int .i64 p1.2.1.2.2.2.1], [Value.int .i64 p1.2.1.2.2.2.2.1, Value.int .i64 p1.2.1.2.2.2.2.2], Aa, Aa, ⟨[Value.int .i64 p1.2.1.2.2.2.2.1], [Value.int .i64 p1.2.1.2.2.2.2.2], Aa, Aa, Aa⟩⟩⟩⟩⟩, ⟨_, Aa, (W.old s_v2)⟩⟩⟩, Aa⟩ fun v16 a w F W => ?_
   obtain ⟨x14, h14, H⟩ := Ap H
   refine Fy (r := AV) (i := 1) F W Aa D7 Aa Aa Aa Aa (GO W 0 Aa) h14 Aa fun v17 a w F W => ?_
   have W : Stw ⟨Y, [], w0⟩ [(b1, [.int .i64 p1.1, .int .i64 p1.2.1.1, .int .i64 p1.2.1.2.1.1, .int .i64 p1.2.1.2.1.2.1, .int .i64 p1.2.1.2.1.2.2.1, .int .i64 p1.2.1.2.1.2.2.2, .int .i64 p1.2.1.2.2.1, .int .i64 p1.2.1.2.2.2.1, .int .i64 p1.2.1.2.2.2.2.1, .int .i64 p1.2.1.2.2.2.2.2, v2])] [row v17 40 AV x14, row v16 40 AV ([p1] : List (Int × (Int × (Int × Int × Int × Int) × (Int × Int × Int × Int)) × (List (Int × Int × Int))))] w := W
   refine ls F W Aa (Ag F Aa).q fun a w F W => ?_
   refine Af (Ad ?_)
   have W := W.sub (M' := [(b1, [.int .i64 p1.1, .int .i64 p1.2.1.1, .int .i64 p1.2.1.2.1.1, .int .i64 p1.2.1.2.1.2.1, .int .i64 p1.2.1.2.1.2.2.1, .int .i64 p1.2.1.2.1.2.2.2, .int .i64 p1.2.1.2.2.1, .int .i64 p1.2.1.2.2.2.1, .int .i64 p1.2.1.2.2.2.2.1, .int .i64 p1.2.1.2.2.2.2.2, v2])]) (Z' := [row v17 40 AV x14]) (List.Sublist.refl _) (List.Sublist.cons_cons _ (List.nil_sublist _))
   exact ⟨_, (v17), H, F.re ⟨rfl, Aa, trivial⟩, W⟩
  have H := AG (by rw [hb]; decide) H
  rw [hb] at F
  clear hb
  refine Ax (Ad ?_)
  exact ⟨_, (v4), H, F.re ⟨rfl, Aa, trivial⟩, W⟩
 rintro a w ⟨x13, v15, hj, F, W⟩
 have hj := AJ hj
 subst hj
 have H := K5
 clear G5 K5
 refine Al (Ae ?_)
 refine ls F W Aa (Ah F Aa).q fun a w F W => ?_
 refine ls F W Aa (Ag F Aa).q fun a w F W => ?_
 refine Af (Ad (Ay ?_))
 have H := AJ H
 subst H
 refine AL (.inl Aa) F W Aa (Av F Aa) ?_
 have W := W.sub (M' := []) (Z' := [row v15 40 AV x13]) (List.nil_sublist _) (List.Sublist.refl _)
 exact ⟨(v15), Aa, W⟩
theorem Qk : Has Try.prog 68 := ⟨fun args w => An Try.func68 rfl (by decide) args w⟩
noncomputable def D1 (p0 : List (Int × (Int × (Int × Int × Int × Int) × (Int × Int × Int × Int)) × (List (Int × Int × Int)))) (p1 : Int × (Int × (Int × (Int × Int × Int × Int) × (Int × Int × Int × Int)) × (List (Int × Int × Int))) × Bool) : Int → Option (Int ⊕ (Unit ⊕ ((List (Int × (Int × (Int × Int × Int × Int) × (Int × Int × Int × Int)) × (List (Int × Int × Int)))) × Int)))
  | x1 => (if (p1.2.2 && decide (x1 < (p0.length : Int))) = true then (ix p0 x1).bind fun x2 => (Ek x2 p1.2.1).bind fun x3 => (if x3 = true then some (.inr (.inr (p0, 14))) else some (.inl (BT (x1 + 1)))) else some (.inr (.inl ())))
noncomputable def Ht (p0 : List (Int × (Int × (Int × Int × Int × Int) × (Int × Int × Int × Int)) × (List (Int × Int × Int)))) (p1 : Int × (Int × (Int × (Int × Int × Int × Int) × (Int × Int × Int × Int)) × (List (Int × Int × Int))) × Bool) (p2 : Int) : Option ((List (Int × (Int × (Int × Int × Int × Int) × (Int × Int × Int × Int)) × (List (Int × Int × Int)))) × Int) := FB (A9 (D1 p0 p1) 0) fun _ => (DF p0 p1 true false).bind fun x4 => (if 0 < x4.2 then some (x4.1, 0) else (if p2 ≤ (p0.length : Int) then some (p0, 6) else (FZ p0 p1.2.1).bind fun x5 => some (x5, 0)))
theorem LR (Y : Nat → Prop) (w0 : World) (v1 : Value) (v2 : Value) (p0 : List (Int × (Int × (Int × Int × Int × Int) × (Int × Int × Int × Int)) × (List (Int × Int × Int)))) (p1 : Int × (Int × (Int × (Int × Int × Int × Int) × (Int × Int × Int × Int)) × (List (Int × Int × Int))) × Bool) (p2 : Int) (r : (List (Int × (Int × (Int × Int × Int × Int) × (Int × Int × Int × Int)) × (List (Int × Int × Int)))) × Int) (H : Ht p0 p1 p2 = some r) (s_v1 : Sl w0 Y AV v1 p0) (s_v2 : Sl w0 Y BD v2 p1.2.1.2.2) :
    Calls Try.prog 47 #[v1, .agg #[.int .i64 p1.1, .int .i64 p1.2.1.1, .int .i64 p1.2.1.2.1.1, .int .i64 p1.2.1.2.1.2.1.1, .int .i64 p1.2.1.2.1.2.1.2.1, .int .i64 p1.2.1.2.1.2.1.2.2.1, .int .i64 p1.2.1.2.1.2.1.2.2.2, .int .i64 p1.2.1.2.1.2.2.1, .int .i64 p1.2.1.2.1.2.2.2.1, .int .i64 p1.2.1.2.1.2.2.2.2.1, .int .i64 p1.2.1.2.1.2.2.2.2.2, v2, .bool p1.2.2], .int .i64 p2] w0 fun e w' => ∃ x : Value, e = .returned (.tuple #[x, .int .i64 r.2]) ∧ Stw ⟨Y, [], w0⟩ [] [BG (x) AV r.1] w' := by
 refine enter Try.func47 Aa Try.ntmps47 Aa fun a F => ?_
 have W := Stw.start Y w0
 obtain ⟨v3, h1, s_v1⟩ := s_v1.ex Ba
 have h_v1 := W.nx s_v1
 have h_v2 := W.nx s_v2
 unfold Ht at H
 refine Al (Ae ?_)
 refine BS (cs := [.int .i64 p1.1, .int .i64 p1.2.1.1, .int .i64 p1.2.1.2.1.1, .int .i64 p1.2.1.2.1.2.1.1, .int .i64 p1.2.1.2.1.2.1.2.1, .int .i64 p1.2.1.2.1.2.1.2.2.1, .int .i64 p1.2.1.2.1.2.1.2.2.2, .int .i64 p1.2.1.2.1.2.2.1, .int .i64 p1.2.1.2.1.2.2.2.1, .int .i64 p1.2.1.2.1.2.2.2.2.1, .int .i64 p1.2.1.2.1.2.2.2.2.2, v2, .bool p1.2.2]) F W Aa Aa Aa fun b1 a w F W => ?_
 iterate 2 refine ls F W Aa (Ag F Aa).q fun a w F W => ?_
 refine Af (Ad ?_)
 obtain ⟨o1, G1, K1, L1⟩ := Ih H
 refine AF (fun a w => some (Sum.inl ()) = some o1 ∧ Fr 47 [] [(0, v1), (2, .int .i64 p2), (4, .pointer (some ⟨b1, 0, none⟩)), (6, .slice none 0 0), (7, .int .i64 0)] a ∧ Stw ⟨Y, [], w0⟩ [(b1, [.int .i64 p1.1, .int .i64 p1.2.1.1, .int .i64 p1.2.1.2.1.1, .int .i64 p1.2.1.2.1.2.1.1, .int .i64 p1.2.1.2.1.2.1.2.1, .int .i64 p1.2.1.2.1.2.1.2.2.1, .int .i64 p1.2.1.2.1.2.1.2.2.2, .int .i64 p1.2.1.2.1.2.2.1, .int .i64 p1.2.1.2.1.2.2.2.1, .int .i64 p1.2.1.2.1.2.2.2.2.1, .int .i64 p1.2.1.2.1.2.2.2.2.2, v2, .bool p1.2.2])] [] w) ?_ ?_
 ·
  have H := G1
  clear G1 K1
  refine Al (Ae ?_)
  refine ls F W Aa (Ag F Aa).q fun a w F W => ?_
  refine Af (Ad (AC ?_))
  refine Bz H (fun s a w => Fr 47 [] [(0, v1), (2, .int .i64 p2), (4, .pointer (some ⟨b1, 0, none⟩)), (6, .slice none 0 0), (7, .int .i64 0), (8, .int .i64 s)] a ∧ Stw ⟨Y, [], w0⟩ [(b1, [.int .i64 p1.1, .int .i64 p1.2.1.1, .int .i64 p1.2.1.2.1.1, .int .i64 p1.2.1.2.1.2.1.1, .int .i64 p1.2.1.2.1.2.1.2.1, .int .i64 p1.2.1.2.1.2.1.2.2.1, .int .i64 p1.2.1.2.1.2.1.2.2.2, .int .i64 p1.2.1.2.1.2.2.1, .int .i64 p1.2.1.2.1.2.2.2.1, .int .i64 p1.2.1.2.1.2.2.2.2.1, .int .i64 p1.2.1.2.1.2.2.2.2.2, v2, .bool p1.2.2])] [] w) ⟨F.re ⟨rfl, Aa, Aa, Aa, Aa, Aa, trivial⟩, W⟩ fun s o a w H L2 hR => ?_
  obtain ⟨x1, rfl⟩ : ∃ x, x = s := ⟨s, rfl⟩
  obtain ⟨F, W⟩ := hR
  have F : Fr 47 [] [(0, v1), (2, .int .i64 p2), (4, .pointer (some ⟨b1, 0, none⟩)), (6, .slice none 0 0), (7, .int .i64 0), (8, .int .i64 x1)] a := F
  have W : Stw ⟨Y, [], w0⟩ [(b1, [.int .i64 p1.1, .int .i64 p1.2.1.1, .int .i64 p1.2.1.2.1.1, .int .i64 p1.2.1.2.1.2.1.1, .int .i64 p1.2.1.2.1.2.1.2.1, .int .i64 p1.2.1.2.1.2.1.2.2.1, .int .i64 p1.2.1.2.1.2.1.2.2.2, .int .i64 p1.2.1.2.1.2.2.1, .int .i64 p1.2.1.2.1.2.2.2.1, .int .i64 p1.2.1.2.1.2.2.2.2.1, .int .i64 p1.2.1.2.1.2.2.2.2.2, v2, .bool p1.2.2])] [] w := W
  rw [D1] at H
  refine Al ?_
  refine AF (fun a w => Fr 47 [] [(0, v1), (2, .int .i64 p2), (4, .pointer (some ⟨b1, 0, none⟩)), (6, .slice none 0 0), (7, .int .i64 0), (8, .int .i64 x1), (18, .bool (p1.2.2 && decide (x1 < (p0.length : Int))))] a ∧ Stw ⟨Y, [], w0⟩ [(b1, [.int .i64 p1.1, .int .i64 p1.2.1.1, .int .i64 p1.2.1.2.1.1, .int .i64 p1.2.1.2.1.2.1.1, .int .i64 p1.2.1.2.1.2.1.2.1, .int .i64 p1.2.1.2.1.2.1.2.2.1, .int .i64 p1.2.1.2.1.2.1.2.2.2, .int .i64 p1.2.1.2.1.2.2.1, .int .i64 p1.2.1.2.1.2.2.2.1, .int .i64 p1.2.1.2.1.2.2.2.2.1, .int .i64 p1.2.1.2.1.2.2.2.2.2, v2, .bool p1.2.2])] [] w) ?_ ?_
  ·
   refine Ae ?_
   refine ls F W Aa (Aj DX Aa Aa Aa T4 F Aa 12 Aa).q fun a w F W => ?_
   refine ls F W Aa (Aq (v := Value.bool p1.2.2) 0 F Aa Aa T4 Aa).q fun a w F W => ?_
   refine ls F W Aa (Ah F Aa).q fun a w F W => ?_
   rcases Bool.eq_false_or_eq_true p1.2.2 with hb0 | hb0
   ·
    rw [hb0] at F
    iterate 2 refine AE F W (Ai F Aa Aa Aa Aa) Aa (Ao Aa) (Ah F Aa).q fun a w F W => ?_
    refine AE F W (Ai F Aa Aa Aa Aa) Aa (Ao Aa) (B7 (r := AV) (l := p0) DW Aa F Aa (Bc Ba h1 (Aw h_v1))).q fun a w F W => ?_
    refine AE F W (Ai F Aa Aa Aa Aa) Aa (Ao Aa) (BI F Aa Aa).q fun a w F W => ?_
    refine ls F W Aa (Az F Aa Aa Aa).q fun a w F W => ?_
    refine Af (Ad ?_)
    exact ⟨F.re ⟨rfl, Aa, Aa, Aa, Aa, Aa, (by show some (Value.bool (decide (x1 < (p0.length : Int)))) = some (Value.bool (p1.2.2 && decide (x1 < (p0.length : Int)))); try rw [hb0]; all_goals simp only [Bool.not_true, Bool.not_false, Bool.true_and, Bool.false_and, Bool.true_or, Bool.false_or, Bool.and_true, Bool.or_false, cond_true, cond_false]), trivial⟩, W⟩
   rw [hb0] at F
   iterate 4 refine CD F Aa Aa Aa Aa Aa Aa Aa fun a F => ?_
   refine ls F W Aa (Au F Aa Aa Aa).q fun a w F W => ?_
   refine Af (Ad ?_)
   exact ⟨F.re ⟨rfl, Aa, Aa, Aa, Aa, Aa, (by show some (Value.bool false) = some (Value.bool (p1.2.2 && decide (x1 < (p0.length : Int)))); try rw [hb0]; all_goals simp only [Bool.not_true, Bool.not_false, Bool.true_and, Bool.false_and, Bool.true_or, Bool.false_or, Bool.and_true, Bool.or_false, cond_true, cond_false]), trivial⟩, W⟩
  rintro a w ⟨F, W⟩
  refine AA F Aa (fun hb => ?_) fun hb => ?_
  ·
   have H := AH hb H
   rw [hb] at F
   clear hb
   refine Ax (Ad (Al (AC (Al ?_))))
   refine Co W MO (by kernel_rfl) ?_
   iterate 2 refine qs F Aa (Ah F Aa).q fun a F => ?_
   obtain ⟨x2, h2, H⟩ := Ap H
   obtain ⟨v4, h3, h4⟩ := Ck h1 h2
   have h5 : B5 v4 = [.int .i64 x2.1, .int .i64 x2.2.1.1, .int .i64 x2.2.1.2.1.1, .int .i64 x2.2.1.2.1.2.1, .int .i64 x2.2.1.2.1.2.2.1, .int .i64 x2.2.1.2.1.2.2.2, .int .i64 x2.2.1.2.2.1, .int .i64 x2.2.1.2.2.2.1, .int .i64 x2.2.1.2.2.2.2.1, .int .i64 x2.2.1.2.2.2.2.2, (v4.2.2.1)] := congrArg (fun q : Int × (Int × (Int × Int × Int × Int) × (Int × Int × Int × Int)) × (List (Int × Int × Int)) => ([.int .i64 q.1, .int .i64 q.2.1.1, .int .i64 q.2.1.2.1.1, .int .i64 q.2.1.2.1.2.1, .int .i64 q.2.1.2.1.2.2.1, .int .i64 q.2.1.2.1.2.2.2, .int .i64 q.2.1.2.2.1, .int .i64 q.2.1.2.2.2.1, .int .i64 q.2.1.2.2.2.2.1, .int .i64 q.2.1.2.2.2.2.2, (v4.2.2.1)] : List Value)) h4
   refine qs F Aa (Bg (r := Cz) D7 F Aa Aa (Aw h_v1) h3).q fun a F => ?_
   refine qs F Aa (A0 (y := Value.agg #[.int .i64 x2.1, .int .i64 x2.2.1.1, .int .i64 x2.2.1.2.1.1, .int .i64 x2.2.1.2.1.2.1, .int .i64 x2.2.1.2.1.2.2.1, .int .i64 x2.2.1.2.1.2.2.2, .int .i64 x2.2.1.2.2.1, .int .i64 x2.2.1.2.2.2.1, .int .i64 x2.2.1.2.2.2.2.1, .int .i64 x2.2.1.2.2.2.2.2, (v4.2.2.1)]) (j := 0) (i := x1) (enc := B5) F Aa Aa (Aw h_v1) h3 DS CH (by rw [h5]; rfl)).q fun a F => ?_
   refine qs F Aa (Aj DX Aa Aa Aa CH F Aa 1 Aa).q fun a F => ?_
   refine qs F Aa (Aq (v := Value.agg #[.int .i64 p1.2.1.1, .int .i64 p1.2.1.2.1.1, .int .i64 p1.2.1.2.1.2.1.1, .int .i64 p1.2.1.2.1.2.1.2.1, .int .i64 p1.2.1.2.1.2.1.2.2.1, .int .i64 p1.2.1.2.1.2.1.2.2.2, .int .i64 p1.2.1.2.1.2.2.1, .int .i64 p1.2.1.2.1.2.2.2.1, .int .i64 p1.2.1.2.1.2.2.2.2.1, .int .i64 p1.2.1.2.1.2.2.2.2.2, v2]) 0 F Aa Aa CH Aa).q fun a F => ?_
   obtain ⟨x3, h6, H⟩ := Ap H
   refine qs F Aa (AR (v := Value.bool x3) F PM Aa (fun w W => IA any w ((v4.2.2.1)) (v2) x2 p1.2.1 _ h6 (((CT (Aw h_v1) h3 (Bb.snd (Bb.snd Bb.here)) (congrArg (fun q : Int × (Int × (Int × Int × Int × Int) × (Int × Int × Int × Int)) × (List (Int × Int × Int)) => q.2.2) h4)) : C2 _ _ _ _ _ _) w W).nx (((Aw h_v2) : C2 _ _ _ _ _ _) w W).nx)) fun a F => ?_
   refine A4 fun w W => ?_
   refine Ad ?_
   refine AA F Aa (fun hb => ?_) fun hb => ?_
   ·
    have H := AH hb H
    rw [hb] at F
    clear hb
    refine Al (Ae ?_)
    refine ls F W Aa (Ah F Aa).q fun a w F W => ?_
    iterate 2 refine ls F W Aa (Ag F Aa).q fun a w F W => ?_
    refine Af (Ad (Ay (AK ?_)))
    iterate 2 refine AD ?_
    refine AK (AD ?_)
    have H := L2 _ H
    have H := L1 _ H
    have H := AJ H
    subst H
    refine CW (.inl Aa) F W Aa (Av F Aa) (Av F Aa) ?_
    have W := W.note (Sl.hide Ba h1 (W.old s_v1))
    have W := W.sub (M' := []) (Z' := [BG v1 AV p0]) (List.nil_sublist _) (List.Sublist.refl _)
    exact ⟨(v1), Aa, W⟩
   have H := AG (by rw [hb]; decide) H
   rw [hb] at F
   clear hb
   refine Ax (A1 (Ad (Ae ?_)))
   refine ls F W Aa (Ah F Aa).q fun a w F W => ?_
   refine ls F W Aa (B6 F Aa Aa Aa).q fun a w F W => ?_
   refine ls F W Aa (Ag F Aa).q fun a w F W => ?_
   refine Af (Ad ?_)
   exact ⟨_, H, F.re ⟨rfl, Aa, Aa, Aa, Aa, Aa, trivial⟩, W⟩
  have H := AG (by rw [hb]; decide) H
  rw [hb] at F
  clear hb
  refine Bu ?_
  iterate 2 refine BX ?_
  refine Br (Ad ?_)
  have H := L2 _ H
  exact ⟨H, F.re ⟨rfl, Aa, Aa, Aa, Aa, trivial⟩, W⟩
 rintro a w ⟨hj, F, W⟩
 have H := K1 _ hj
 clear hj G1 K1 L1
 refine Al (Ae ?_)
 refine ls F W Aa (Ah F Aa).q fun a w F W => ?_
 refine ls F W Aa (Aq (v := Value.agg #[.int .i64 p1.1, .int .i64 p1.2.1.1, .int .i64 p1.2.1.2.1.1, .int .i64 p1.2.1.2.1.2.1.1, .int .i64 p1.2.1.2.1.2.1.2.1, .int .i64 p1.2.1.2.1.2.1.2.2.1, .int .i64 p1.2.1.2.1.2.1.2.2.2, .int .i64 p1.2.1.2.1.2.2.1, .int .i64 p1.2.1.2.1.2.2.2.1, .int .i64 p1.2.1.2.1.2.2.2.2.1, .int .i64 p1.2.1.2.1.2.2.2.2.2, v2, .bool p1.2.2]) 0 F Aa Aa Na Aa).q fun a w F W => ?_
 obtain ⟨x4, h7, H⟩ := Ap H
 refine Bp (Ml := []) (Zl := []) (M := [(b1, [.int .i64 p1.1, .int .i64 p1.2.1.1, .int .i64 p1.2.1.2.1.1, .int .i64 p1.2.1.2.1.2.1.1, .int .i64 p1.2.1.2.1.2.1.2.1, .int .i64 p1.2.1.2.1.2.1.2.2.1, .int .i64 p1.2.1.2.1.2.1.2.2.2, .int .i64 p1.2.1.2.1.2.2.1, .int .i64 p1.2.1.2.1.2.2.2.1, .int .i64 p1.2.1.2.1.2.2.2.2.1, .int .i64 p1.2.1.2.1.2.2.2.2.2, v2, .bool p1.2.2])]) (Z := []) (β := Value) (rv := fun x => .tuple #[x, .int .i64 x4.2]) (MM := fun x => []) (ZZ := fun x => [row x 40 AV x4.1]) F W Pz Aa Aa (fun hL => GT _ w (v1) (v2) p0 p1 true false _ h7 (Sl.hide Ba h1 (W.old s_v1)) (W.old s_v2)) fun x a w F W => ?_
 obtain ⟨v5, rfl⟩ : ∃ y, y = x := ⟨x, rfl⟩
 have W : Stw ⟨Y, [], w0⟩ [(b1, [.int .i64 p1.1, .int .i64 p1.2.1.1, .int .i64 p1.2.1.2.1.1, .int .i64 p1.2.1.2.1.2.1.1, .int .i64 p1.2.1.2.1.2.1.2.1, .int .i64 p1.2.1.2.1.2.1.2.2.1, .int .i64 p1.2.1.2.1.2.1.2.2.2, .int .i64 p1.2.1.2.1.2.2.1, .int .i64 p1.2.1.2.1.2.2.2.1, .int .i64 p1.2.1.2.1.2.2.2.2.1, .int .i64 p1.2.1.2.1.2.2.2.2.2, v2, .bool p1.2.2])] [row v5 40 AV x4.1] w := W
 refine ls F W Aa (Ah F Aa).q fun a w F W => ?_
 refine ls F W Aa (Bk (v := v5) F Aa Aa).q fun a w F W => ?_
 refine ls F W Aa (Bk (v := Value.int .i64 x4.2) F Aa Aa).q fun a w F W => ?_
 iterate 2 refine ls F W Aa (Ag F Aa).q fun a w F W => ?_
 refine Af (Ad (Al (Al (Ae ?_))))
 refine ls F W Aa (Ah F Aa).q fun a w F W => ?_
 refine ls F W Aa (E3 F Aa Aa).q fun a w F W => ?_
 refine Af (Ad ?_)
 refine AA F Aa (fun hb => ?_) fun hb => ?_
 ·
  have H := AH (Bj hb) H
  rw [hb] at F
  clear hb
  refine Al (Ae ?_)
  refine ls F W Aa (Ah F Aa).q fun a w F W => ?_
  iterate 2 refine ls F W Aa (Ag F Aa).q fun a w F W => ?_
  refine Af (Ad (Ay (AD ?_)))
  have H := AJ H
  subst H
  refine CW (.inl Aa) F W Aa (Av F Aa) (Av F Aa) ?_
  have W := W.freeze
  have W := W.sub (M' := []) (Z' := [BG v5 AV x4.1]) (List.nil_sublist _) (List.Sublist.refl _)
  exact ⟨(v5), Aa, W⟩
 have H := AG (Bi hb) H
 rw [hb] at F
 clear hb
 refine Ax (Ad (Al (Al (Ae ?_))))
 refine ls F W Aa (Ah F Aa).q fun a w F W => ?_
 refine ls F W Aa (B7 (r := AV) (l := p0) DW Aa F Aa (Bc Ba h1 (Aw h_v1))).q fun a w F W => ?_
 refine ls F W Aa (Ah F Aa).q fun a w F W => ?_
 refine ls F W Aa (EN F Aa Aa).q fun a w F W => ?_
 refine Af (Ad ?_)
 refine AA F Aa (fun hb => ?_) fun hb => ?_
 ·
  have H := AH (Bj hb) H
  rw [hb] at F
  clear hb
  refine Al (Ae ?_)
  refine ls F W Aa (Ah F Aa).q fun a w F W => ?_
  iterate 2 refine ls F W Aa (Ag F Aa).q fun a w F W => ?_
  refine Af (Ad (Ay (AD ?_)))
  have H := AJ H
  subst H
  refine CW (.inl Aa) F W Aa (Av F Aa) (Av F Aa) ?_
  have W := W.note (Sl.hide Ba h1 (W.old s_v1))
  have W := W.sub (M' := []) (Z' := [BG v1 AV p0]) (List.nil_sublist _) (List.Sublist.cons_cons _ (List.nil_sublist _))
  exact ⟨(v1), Aa, W⟩
 have H := AG (Bi hb) H
 rw [hb] at F
 clear hb
 refine Ax (Ad (Al (Ae ?_)))
 refine ls F W Aa (Ah F Aa).q fun a w F W => ?_
 refine ls F W Aa (Aj DX Aa Aa Aa CH F Aa 1 Aa).q fun a w F W => ?_
 refine ls F W Aa (Aq (v := Value.agg #[.int .i64 p1.2.1.1, .int .i64 p1.2.1.2.1.1, .int .i64 p1.2.1.2.1.2.1.1, .int .i64 p1.2.1.2.1.2.1.2.1, .int .i64 p1.2.1.2.1.2.1.2.2.1, .int .i64 p1.2.1.2.1.2.1.2.2.2, .int .i64 p1.2.1.2.1.2.2.1, .int .i64 p1.2.1.2.1.2.2.2.1, .int .i64 p1.2.1.2.1.2.2.2.2.1, .int .i64 p1.2.1.2.1.2.2.2.2.2, v2]) 0 F Aa Aa CH Aa).q fun a w F W => ?_
 obtain ⟨x5, h8, H⟩ := Ap H
 refine Bp (Ml := []) (Zl := []) (M := [(b1, [.int .i64 p1.1, .int .i64 p1.2.1.1, .int .i64 p1.2.1.2.1.1, .int .i64 p1.2.1.2.1.2.1.1, .int .i64 p1.2.1.2.1.2.1.2.1, .int .i64 p1.2.1.2.1.2.1.2.2.1, .int .i64 p1.2.1.2.1.2.1.2.2.2, .int .i64 p1.2.1.2.1.2.2.1, .int .i64 p1.2.1.2.1.2.2.2.1, .int .i64 p1.2.1.2.1.2.2.2.2.1, .int .i64 p1.2.1.2.1.2.2.2.2.2, v2, .bool p1.2.2])]) (Z := [row v5 40 AV x4.1]) (β := Value) (rv := fun x => x) (MM := fun x => []) (ZZ := fun x => [row x 40 AV x5]) F W Qk Aa Aa (fun hL => Kc _ w (v1) (v2) p0 p1.2.1 _ h8 (Sl.hide Ba h1 (W.old s_v1)) (W.old s_v2)) fun x a w F W => ?_
 obtain ⟨v6, rfl⟩ : ∃ y, y = x := ⟨x, rfl⟩
 have W : Stw ⟨Y, [], w0⟩ [(b1, [.int .i64 p1.1, .int .i64 p1.2.1.1, .int .i64 p1.2.1.2.1.1, .int .i64 p1.2.1.2.1.2.1.1, .int .i64 p1.2.1.2.1.2.1.2.1, .int .i64 p1.2.1.2.1.2.1.2.2.1, .int .i64 p1.2.1.2.1.2.1.2.2.2, .int .i64 p1.2.1.2.1.2.2.1, .int .i64 p1.2.1.2.1.2.2.2.1, .int .i64 p1.2.1.2.1.2.2.2.2.1, .int .i64 p1.2.1.2.1.2.2.2.2.2, v2, .bool p1.2.2])] [row v6 40 AV x5, row v5 40 AV x4.1] w := W
 iterate 2 refine ls F W Aa (Ag F Aa).q fun a w F W => ?_
 refine Af (Ad (Ay ?_))
 have H := AJ H
 subst H
 refine CW (.inl Aa) F W Aa (Av F Aa) (Av F Aa) ?_
 have W := W.freeze
 have W := W.sub (M' := []) (Z' := [BG v6 AV x5]) (List.nil_sublist _) (List.Sublist.cons_cons _ (List.nil_sublist _))
 exact ⟨(v6), Aa, W⟩
theorem P7 : Has Try.prog 47 := ⟨fun args w => An Try.func47 rfl (by decide) args w⟩
noncomputable def Ff (p0 : List (Int × (Int × (Int × Int × Int × Int) × (Int × Int × Int × Int)) × (List (Int × Int × Int)))) (p1 : Int × (Int × (Int × (Int × Int × Int × Int) × (Int × Int × Int × Int)) × (List (Int × Int × Int))) × Bool) (p2 : Int) (p3 : Int) : Option ((List (Int × (Int × (Int × Int × Int × Int) × (Int × Int × Int × Int)) × (List (Int × Int × Int)))) × Int) := (if p1.1 < 1 then some true else (if 5 < p1.1 then some true else (DU p1.2.1 p2).bind fun x2 => some (!x2))).bind fun x1 => (if x1 = true then some (p0, 2) else (if p1.1 = 1 then (Ht p0 p1 p3).bind fun x3 => some (x3.1, x3.2) else (DF p0 p1 (decide (p1.1 = 3) || decide (p1.1 = 5)) (decide (4 ≤ p1.1))).bind fun x4 => (if ((decide (p1.1 = 3) || decide (p1.1 = 5)) && decide (x4.2 = 0)) = true then some (p0, 7) else some (x4.1, 0))))
theorem H7 (Y : Nat → Prop) (w0 : World) (v1 : Value) (v2 : Value) (p0 : List (Int × (Int × (Int × Int × Int × Int) × (Int × Int × Int × Int)) × (List (Int × Int × Int)))) (p1 : Int × (Int × (Int × (Int × Int × Int × Int) × (Int × Int × Int × Int)) × (List (Int × Int × Int))) × Bool) (p2 : Int) (p3 : Int) (r : (List (Int × (Int × (Int × Int × Int × Int) × (Int × Int × Int × Int)) × (List (Int × Int × Int)))) × Int) (H : Ff p0 p1 p2 p3 = some r) (s_v1 : Sl w0 Y AV v1 p0) (s_v2 : Sl w0 Y BD v2 p1.2.1.2.2) :
    Calls Try.prog 20 #[v1, .agg #[.int .i64 p1.1, .int .i64 p1.2.1.1, .int .i64 p1.2.1.2.1.1, .int .i64 p1.2.1.2.1.2.1.1, .int .i64 p1.2.1.2.1.2.1.2.1, .int .i64 p1.2.1.2.1.2.1.2.2.1, .int .i64 p1.2.1.2.1.2.1.2.2.2, .int .i64 p1.2.1.2.1.2.2.1, .int .i64 p1.2.1.2.1.2.2.2.1, .int .i64 p1.2.1.2.1.2.2.2.2.1, .int .i64 p1.2.1.2.1.2.2.2.2.2, v2, .bool p1.2.2], .int .i64 p2, .int .i64 p3] w0 fun e w' => ∃ x : Value, e = .returned (.tuple #[x, .int .i64 r.2]) ∧ Stw ⟨Y, [], w0⟩ [] [BG (x) AV r.1] w' := by
 refine enter Try.func20 Aa Try.ntmps20 Aa fun a F => ?_
 have W := Stw.start Y w0
 obtain ⟨v3, h1, s_v1⟩ := s_v1.ex Ba
 have h_v1 := W.nx s_v1
 have h_v2 := W.nx s_v2
 unfold Ff at H
 refine Al (Ae ?_)
 refine BS (cs := [.int .i64 p1.1, .int .i64 p1.2.1.1, .int .i64 p1.2.1.2.1.1, .int .i64 p1.2.1.2.1.2.1.1, .int .i64 p1.2.1.2.1.2.1.2.1, .int .i64 p1.2.1.2.1.2.1.2.2.1, .int .i64 p1.2.1.2.1.2.1.2.2.2, .int .i64 p1.2.1.2.1.2.2.1, .int .i64 p1.2.1.2.1.2.2.2.1, .int .i64 p1.2.1.2.1.2.2.2.2.1, .int .i64 p1.2.1.2.1.2.2.2.2.2, v2, .bool p1.2.2]) F W Aa Aa Aa fun b1 a w F W => ?_
 iterate 2 refine ls F W Aa (Ag F Aa).q fun a w F W => ?_
 refine Af (Ad (Al ?_))
 obtain ⟨o1, G1, K1⟩ := Ap H
 refine AF (fun a w => ∃ x1 : Bool, some (x1) = some o1 ∧ Fr 63 [] [(0, v1), (3, .int .i64 p3), (5, .pointer (some ⟨b1, 0, none⟩)), (8, .slice none 0 0), (9, .int .i64 0), (27, .bool x1)] a ∧ Stw ⟨Y, [], w0⟩ [(b1, [.int .i64 p1.1, .int .i64 p1.2.1.1, .int .i64 p1.2.1.2.1.1, .int .i64 p1.2.1.2.1.2.1.1, .int .i64 p1.2.1.2.1.2.1.2.1, .int .i64 p1.2.1.2.1.2.1.2.2.1, .int .i64 p1.2.1.2.1.2.1.2.2.2, .int .i64 p1.2.1.2.1.2.2.1, .int .i64 p1.2.1.2.1.2.2.2.1, .int .i64 p1.2.1.2.1.2.2.2.2.1, .int .i64 p1.2.1.2.1.2.2.2.2.2, v2, .bool p1.2.2])] [] w) ?_ ?_
 ·
  have H := G1
  clear G1 K1
  refine Ae ?_
  refine ls F W Aa (Aj DX Aa Aa Aa T3 F Aa 0 Aa).q fun a w F W => ?_
  refine ls F W Aa (Aq (v := Value.int .i64 p1.1) 0 F Aa Aa T3 Aa).q fun a w F W => ?_
  refine ls F W Aa (BI F Aa Aa).q fun a w F W => ?_
  refine ls F W Aa (Ah F Aa).q fun a w F W => ?_
  rcases Bool.eq_false_or_eq_true (decide (p1.1 < 1)) with hb | hb
  ·
   have H := AH (Bj hb) H
   rw [hb] at F
   clear hb
   iterate 3 refine CD F Aa Aa Aa Aa Aa Aa Aa fun a F => ?_
   refine ls F W Aa (Az F Aa Aa Aa).q fun a w F W => ?_
   refine ls F W Aa (Ah F Aa).q fun a w F W => ?_
   iterate 5 refine CD F Aa Aa Aa Aa Aa Aa Aa fun a F => ?_
   refine ls F W Aa (Az F Aa Aa Aa).q fun a w F W => ?_
   refine Af (Ad ?_)
   exact ⟨_, H, F.re ⟨rfl, Aa, Aa, Aa, Aa, Aa, trivial⟩, W⟩
  have H := AG (Bi hb) H
  rw [hb] at F
  clear hb
  refine AE F W (Ai F Aa Aa Aa Aa) Aa (Ao Aa) (Aj DX Aa Aa Aa T3 F Aa 0 Aa).q fun a w F W => ?_
  refine AE F W (Ai F Aa Aa Aa Aa) Aa (Ao Aa) (Aq (v := Value.int .i64 p1.1) 0 F Aa Aa T3 Aa).q fun a w F W => ?_
  refine AE F W (Ai F Aa Aa Aa Aa) Aa (Ao Aa) (E3 F Aa Aa).q fun a w F W => ?_
  refine ls F W Aa (Au F Aa Aa Aa).q fun a w F W => ?_
  refine ls F W Aa (Ah F Aa).q fun a w F W => ?_
  rcases Bool.eq_false_or_eq_true (decide (5 < p1.1)) with hb | hb
  ·
   have H := AH (Bj hb) H
   rw [hb] at F
   clear hb
   iterate 5 refine CD F Aa Aa Aa Aa Aa Aa Aa fun a F => ?_
   refine ls F W Aa (Az F Aa Aa Aa).q fun a w F W => ?_
   refine Af (Ad ?_)
   exact ⟨_, H, F.re ⟨rfl, Aa, Aa, Aa, Aa, Aa, trivial⟩, W⟩
  have H := AG (Bi hb) H
  rw [hb] at F
  clear hb
  refine AE F W (Ai F Aa Aa Aa Aa) Aa (Ao Aa) (Aj DX Aa Aa Aa CH F Aa 1 Aa).q fun a w F W => ?_
  refine AE F W (Ai F Aa Aa Aa Aa) Aa (Ao Aa) (Aq (v := Value.agg #[.int .i64 p1.2.1.1, .int .i64 p1.2.1.2.1.1, .int .i64 p1.2.1.2.1.2.1.1, .int .i64 p1.2.1.2.1.2.1.2.1, .int .i64 p1.2.1.2.1.2.1.2.2.1, .int .i64 p1.2.1.2.1.2.1.2.2.2, .int .i64 p1.2.1.2.1.2.2.1, .int .i64 p1.2.1.2.1.2.2.2.1, .int .i64 p1.2.1.2.1.2.2.2.2.1, .int .i64 p1.2.1.2.1.2.2.2.2.2, v2]) 0 F Aa Aa CH Aa).q fun a w F W => ?_
  refine AE F W (Ai F Aa Aa Aa Aa) Aa (Ao Aa) (Ah F Aa).q fun a w F W => ?_
  refine Gr (Ai F Aa Aa Aa Aa) ?_
  obtain ⟨x2, h2, H⟩ := Ap H
  refine ls F W Aa (AR (v := Value.bool x2) F PJ Aa (fun w W => HZ any w (v2) p1.2.1 p2 _ h2 (((Aw h_v2) : C2 _ _ _ _ _ _) w W).nx)) fun a w F W => ?_
  refine AE F W (Ai F Aa Aa Aa Aa) Aa (Ao Aa) (Ec F Aa).q fun a w F W => ?_
  refine ls F W Aa (Au F Aa Aa Aa).q fun a w F W => ?_
  refine Af (Ad ?_)
  exact ⟨_, H, F.re ⟨rfl, Aa, Aa, Aa, Aa, Aa, trivial⟩, W⟩
 rintro a w ⟨x1, hj, F, W⟩
 have hj := AJ hj
 subst hj
 have H := K1
 clear G1 K1
 refine AA F Aa (fun hb => ?_) fun hb => ?_
 ·
  have H := AH hb H
  rw [hb] at F
  clear hb
  refine Al (Ae ?_)
  refine ls F W Aa (Ah F Aa).q fun a w F W => ?_
  iterate 2 refine ls F W Aa (Ag F Aa).q fun a w F W => ?_
  refine Af (Ad (Ay (AD ?_)))
  have H := AJ H
  subst H
  refine CW (.inl Aa) F W Aa (Av F Aa) (Av F Aa) ?_
  have W := W.note (Sl.hide Ba h1 (W.old s_v1))
  have W := W.sub (M' := []) (Z' := [BG v1 AV p0]) (List.nil_sublist _) (List.Sublist.refl _)
  exact ⟨(v1), Aa, W⟩
 have H := AG (by rw [hb]; decide) H
 rw [hb] at F
 clear hb
 refine Ax (Ad (Al (Al (Ae ?_))))
 refine ls F W Aa (Aj DX Aa Aa Aa T3 F Aa 0 Aa).q fun a w F W => ?_
 refine ls F W Aa (Aq (v := Value.int .i64 p1.1) 0 F Aa Aa T3 Aa).q fun a w F W => ?_
 refine ls F W Aa (BB F Aa Aa).q fun a w F W => ?_
 refine Af (Ad ?_)
 refine AA F Aa (fun hb => ?_) fun hb => ?_
 ·
  have H := AH (Bj hb) H
  rw [hb] at F
  clear hb
  refine Al (Ae ?_)
  refine ls F W Aa (Ah F Aa).q fun a w F W => ?_
  refine ls F W Aa (Aq (v := Value.agg #[.int .i64 p1.1, .int .i64 p1.2.1.1, .int .i64 p1.2.1.2.1.1, .int .i64 p1.2.1.2.1.2.1.1, .int .i64 p1.2.1.2.1.2.1.2.1, .int .i64 p1.2.1.2.1.2.1.2.2.1, .int .i64 p1.2.1.2.1.2.1.2.2.2, .int .i64 p1.2.1.2.1.2.2.1, .int .i64 p1.2.1.2.1.2.2.2.1, .int .i64 p1.2.1.2.1.2.2.2.2.1, .int .i64 p1.2.1.2.1.2.2.2.2.2, v2, .bool p1.2.2]) 0 F Aa Aa Na Aa).q fun a w F W => ?_
  refine ls F W Aa (Ah F Aa).q fun a w F W => ?_
  obtain ⟨x3, h3, H⟩ := Ap H
  refine Bp (Ml := []) (Zl := []) (M := [(b1, [.int .i64 p1.1, .int .i64 p1.2.1.1, .int .i64 p1.2.1.2.1.1, .int .i64 p1.2.1.2.1.2.1.1, .int .i64 p1.2.1.2.1.2.1.2.1, .int .i64 p1.2.1.2.1.2.1.2.2.1, .int .i64 p1.2.1.2.1.2.1.2.2.2, .int .i64 p1.2.1.2.1.2.2.1, .int .i64 p1.2.1.2.1.2.2.2.1, .int .i64 p1.2.1.2.1.2.2.2.2.1, .int .i64 p1.2.1.2.1.2.2.2.2.2, v2, .bool p1.2.2])]) (Z := []) (β := Value) (rv := fun x => .tuple #[x, .int .i64 x3.2]) (MM := fun x => []) (ZZ := fun x => [BG x AV x3.1]) F W P7 Aa Aa (fun hL => LR _ w (v1) (v2) p0 p1 p3 _ h3 (Sl.hide Ba h1 (W.old s_v1)) (W.old s_v2)) fun x a w F W => ?_
  obtain ⟨v4, rfl⟩ : ∃ y, y = x := ⟨x, rfl⟩
  have W : Stw ⟨Y, [], w0⟩ [(b1, [.int .i64 p1.1, .int .i64 p1.2.1.1, .int .i64 p1.2.1.2.1.1, .int .i64 p1.2.1.2.1.2.1.1, .int .i64 p1.2.1.2.1.2.1.2.1, .int .i64 p1.2.1.2.1.2.1.2.2.1, .int .i64 p1.2.1.2.1.2.1.2.2.2, .int .i64 p1.2.1.2.1.2.2.1, .int .i64 p1.2.1.2.1.2.2.2.1, .int .i64 p1.2.1.2.1.2.2.2.2.1, .int .i64 p1.2.1.2.1.2.2.2.2.2, v2, .bool p1.2.2])] [BG v4 AV x3.1] w := W
  refine ls F W Aa (Bk (v := v4) F Aa Aa).q fun a w F W => ?_
  refine ls F W Aa (Bk (v := Value.int .i64 x3.2) F Aa Aa).q fun a w F W => ?_
  iterate 2 refine ls F W Aa (Ag F Aa).q fun a w F W => ?_
  refine Af (Ad (Ay (AD ?_)))
  have H := AJ H
  subst H
  refine CW (.inl Aa) F W Aa (Av F Aa) (Av F Aa) ?_
  have W := W.sub (M' := []) (Z' := [BG v4 AV x3.1]) (List.nil_sublist _) (List.Sublist.refl _)
  exact ⟨(v4), Aa, W⟩
 have H := AG (Bi hb) H
 rw [hb] at F
 clear hb
 refine Ax (Ad ?_)
 refine AF (fun a w => Fr 63 [] [(0, v1), (5, .pointer (some ⟨b1, 0, none⟩)), (8, .slice none 0 0), (9, .int .i64 0), (10, .bool (decide (p1.1 = 3) || decide (p1.1 = 5)))] a ∧ Stw ⟨Y, [], w0⟩ [(b1, [.int .i64 p1.1, .int .i64 p1.2.1.1, .int .i64 p1.2.1.2.1.1, .int .i64 p1.2.1.2.1.2.1.1, .int .i64 p1.2.1.2.1.2.1.2.1, .int .i64 p1.2.1.2.1.2.1.2.2.1, .int .i64 p1.2.1.2.1.2.1.2.2.2, .int .i64 p1.2.1.2.1.2.2.1, .int .i64 p1.2.1.2.1.2.2.2.1, .int .i64 p1.2.1.2.1.2.2.2.2.1, .int .i64 p1.2.1.2.1.2.2.2.2.2, v2, .bool p1.2.2])] [] w) ?_ ?_
 ·
  refine Ae ?_
  refine ls F W Aa (Aj DX Aa Aa Aa T3 F Aa 0 Aa).q fun a w F W => ?_
  refine ls F W Aa (Aq (v := Value.int .i64 p1.1) 0 F Aa Aa T3 Aa).q fun a w F W => ?_
  refine ls F W Aa (BB F Aa Aa).q fun a w F W => ?_
  refine ls F W Aa (Ah F Aa).q fun a w F W => ?_
  rcases Bool.eq_false_or_eq_true (decide (p1.1 = 3)) with hb0 | hb0
  ·
   rw [hb0] at F
   iterate 3 refine CD F Aa Aa Aa Aa Aa Aa Aa fun a F => ?_
   refine ls F W Aa (Az F Aa Aa Aa).q fun a w F W => ?_
   refine ls F W Aa (Ag F Aa).q fun a w F W => ?_
   refine Af (Ad ?_)
   exact ⟨F.re ⟨rfl, Aa, Aa, Aa, (by show some (Value.bool true) = some (Value.bool (decide (p1.1 = 3) || decide (p1.1 = 5))); try rw [hb0]; all_goals simp only [Bool.not_true, Bool.not_false, Bool.true_and, Bool.false_and, Bool.true_or, Bool.false_or, Bool.and_true, Bool.or_false, cond_true, cond_false]), trivial⟩, W⟩
  rw [hb0] at F
  refine AE F W (Ai F Aa Aa Aa Aa) Aa (Ao Aa) (Aj DX Aa Aa Aa T3 F Aa 0 Aa).q fun a w F W => ?_
  refine AE F W (Ai F Aa Aa Aa Aa) Aa (Ao Aa) (Aq (v := Value.int .i64 p1.1) 0 F Aa Aa T3 Aa).q fun a w F W => ?_
  refine AE F W (Ai F Aa Aa Aa Aa) Aa (Ao Aa) (BB F Aa Aa).q fun a w F W => ?_
  refine ls F W Aa (Au F Aa Aa Aa).q fun a w F W => ?_
  refine ls F W Aa (Ag F Aa).q fun a w F W => ?_
  refine Af (Ad ?_)
  exact ⟨F.re ⟨rfl, Aa, Aa, Aa, (by show some (Value.bool (decide (p1.1 = 5))) = some (Value.bool (decide (p1.1 = 3) || decide (p1.1 = 5))); try rw [hb0]; all_goals simp only [Bool.not_true, Bool.not_false, Bool.true_and, Bool.false_and, Bool.true_or, Bool.false_or, Bool.and_true, Bool.or_false, cond_true, cond_false]), trivial⟩, W⟩
 rintro a w ⟨F, W⟩
 refine Al (Ae ?_)
 refine ls F W Aa (Ah F Aa).q fun a w F W => ?_
 refine ls F W Aa (Aq (v := Value.agg #[.int .i64 p1.1, .int .i64 p1.2.1.1, .int .i64 p1.2.1.2.1.1, .int .i64 p1.2.1.2.1.2.1.1, .int .i64 p1.2.1.2.1.2.1.2.1, .int .i64 p1.2.1.2.1.2.1.2.2.1, .int .i64 p1.2.1.2.1.2.1.2.2.2, .int .i64 p1.2.1.2.1.2.2.1, .int .i64 p1.2.1.2.1.2.2.2.1, .int .i64 p1.2.1.2.1.2.2.2.2.1, .int .i64 p1.2.1.2.1.2.2.2.2.2, v2, .bool p1.2.2]) 0 F Aa Aa Na Aa).q fun a w F W => ?_
 refine ls F W Aa (Ah F Aa).q fun a w F W => ?_
 refine ls F W Aa (Aj DX Aa Aa Aa T3 F Aa 0 Aa).q fun a w F W => ?_
 refine ls F W Aa (Aq (v := Value.int .i64 p1.1) 0 F Aa Aa T3 Aa).q fun a w F W => ?_
 refine ls F W Aa (EN F Aa Aa).q fun a w F W => ?_
 obtain ⟨x4, h4, H⟩ := Ap H
 refine Bp (Ml := []) (Zl := []) (M := [(b1, [.int .i64 p1.1, .int .i64 p1.2.1.1, .int .i64 p1.2.1.2.1.1, .int .i64 p1.2.1.2.1.2.1.1, .int .i64 p1.2.1.2.1.2.1.2.1, .int .i64 p1.2.1.2.1.2.1.2.2.1, .int .i64 p1.2.1.2.1.2.1.2.2.2, .int .i64 p1.2.1.2.1.2.2.1, .int .i64 p1.2.1.2.1.2.2.2.1, .int .i64 p1.2.1.2.1.2.2.2.2.1, .int .i64 p1.2.1.2.1.2.2.2.2.2, v2, .bool p1.2.2])]) (Z := []) (β := Value) (rv := fun x => .tuple #[x, .int .i64 x4.2]) (MM := fun x => []) (ZZ := fun x => [row x 40 AV x4.1]) F W Pz Aa Aa (fun hL => GT _ w (v1) (v2) p0 p1 (decide (p1.1 = 3) || decide (p1.1 = 5)) (decide (4 ≤ p1.1)) _ h4 (Sl.hide Ba h1 (W.old s_v1)) (W.old s_v2)) fun x a w F W => ?_
 obtain ⟨v5, rfl⟩ : ∃ y, y = x := ⟨x, rfl⟩
 have W : Stw ⟨Y, [], w0⟩ [(b1, [.int .i64 p1.1, .int .i64 p1.2.1.1, .int .i64 p1.2.1.2.1.1, .int .i64 p1.2.1.2.1.2.1.1, .int .i64 p1.2.1.2.1.2.1.2.1, .int .i64 p1.2.1.2.1.2.1.2.2.1, .int .i64 p1.2.1.2.1.2.1.2.2.2, .int .i64 p1.2.1.2.1.2.2.1, .int .i64 p1.2.1.2.1.2.2.2.1, .int .i64 p1.2.1.2.1.2.2.2.2.1, .int .i64 p1.2.1.2.1.2.2.2.2.2, v2, .bool p1.2.2])] [row v5 40 AV x4.1] w := W
 refine ls F W Aa (Ah F Aa).q fun a w F W => ?_
 refine ls F W Aa (Bk (v := v5) F Aa Aa).q fun a w F W => ?_
 refine ls F W Aa (Bk (v := Value.int .i64 x4.2) F Aa Aa).q fun a w F W => ?_
 iterate 2 refine ls F W Aa (Ag F Aa).q fun a w F W => ?_
 refine Af (Ad (Al ?_))
 refine AF (fun a w => Fr 63 [] [(0, v1), (8, .slice none 0 0), (9, .int .i64 0), (11, v5), (60, .bool ((decide (p1.1 = 3) || decide (p1.1 = 5)) && decide (x4.2 = 0)))] a ∧ Stw ⟨Y, [], w0⟩ [(b1, [.int .i64 p1.1, .int .i64 p1.2.1.1, .int .i64 p1.2.1.2.1.1, .int .i64 p1.2.1.2.1.2.1.1, .int .i64 p1.2.1.2.1.2.1.2.1, .int .i64 p1.2.1.2.1.2.1.2.2.1, .int .i64 p1.2.1.2.1.2.1.2.2.2, .int .i64 p1.2.1.2.1.2.2.1, .int .i64 p1.2.1.2.1.2.2.2.1, .int .i64 p1.2.1.2.1.2.2.2.2.1, .int .i64 p1.2.1.2.1.2.2.2.2.2, v2, .bool p1.2.2])] [row v5 40 AV x4.1] w) ?_ ?_
 ·
  refine Ae ?_
  iterate 2 refine ls F W Aa (Ah F Aa).q fun a w F W => ?_
  rcases Bool.eq_false_or_eq_true (decide (p1.1 = 3) || decide (p1.1 = 5)) with hb0 | hb0
  ·
   rw [hb0] at F
   refine AE F W (Ai F Aa Aa Aa Aa) Aa (Ao Aa) (Ah F Aa).q fun a w F W => ?_
   refine AE F W (Ai F Aa Aa Aa Aa) Aa (Ao Aa) (BB F Aa Aa).q fun a w F W => ?_
   refine ls F W Aa (Az F Aa Aa Aa).q fun a w F W => ?_
   refine Af (Ad ?_)
   exact ⟨F.re ⟨rfl, Aa, Aa, Aa, (by show some (Value.bool (decide (x4.2 = 0))) = some (Value.bool ((decide (p1.1 = 3) || decide (p1.1 = 5)) && decide (x4.2 = 0))); try rw [hb0]; all_goals simp only [Bool.not_true, Bool.not_false, Bool.true_and, Bool.false_and, Bool.true_or, Bool.false_or, Bool.and_true, Bool.or_false, cond_true, cond_false]), trivial⟩, W⟩
  rw [hb0] at F
  iterate 2 refine CD F Aa Aa Aa Aa Aa Aa Aa fun a F => ?_
  refine ls F W Aa (Au F Aa Aa Aa).q fun a w F W => ?_
  refine Af (Ad ?_)
  exact ⟨F.re ⟨rfl, Aa, Aa, Aa, (by show some (Value.bool false) = some (Value.bool ((decide (p1.1 = 3) || decide (p1.1 = 5)) && decide (x4.2 = 0))); try rw [hb0]; all_goals simp only [Bool.not_true, Bool.not_false, Bool.true_and, Bool.false_and, Bool.true_or, Bool.false_or, Bool.and_true, Bool.or_false, cond_true, cond_false]), trivial⟩, W⟩
 rintro a w ⟨F, W⟩
 refine AA F Aa (fun hb => ?_) fun hb => ?_
 ·
  have H := AH hb H
  rw [hb] at F
  clear hb
  refine Al (Ae ?_)
  refine ls F W Aa (Ah F Aa).q fun a w F W => ?_
  iterate 2 refine ls F W Aa (Ag F Aa).q fun a w F W => ?_
  refine Af (Ad (Ay (AD ?_)))
  have H := AJ H
  subst H
  refine CW (.inl Aa) F W Aa (Av F Aa) (Av F Aa) ?_
  have W := W.note (Sl.hide Ba h1 (W.old s_v1))
  have W := W.sub (M' := []) (Z' := [BG v1 AV p0]) (List.nil_sublist _) (List.Sublist.cons_cons _ (List.nil_sublist _))
  exact ⟨(v1), Aa, W⟩
 have H := AG (by rw [hb]; decide) H
 rw [hb] at F
 clear hb
 refine Ax (Ad (Al (Ae ?_)))
 refine ls F W Aa (Ah F Aa).q fun a w F W => ?_
 iterate 2 refine ls F W Aa (Ag F Aa).q fun a w F W => ?_
 refine Af (Ad (Ay ?_))
 have H := AJ H
 subst H
 refine CW (.inl Aa) F W Aa (Av F Aa) (Av F Aa) ?_
 have W := W.freeze
 have W := W.sub (M' := []) (Z' := [BG v5 AV x4.1]) (List.nil_sublist _) (List.Sublist.refl _)
 exact ⟨(v5), Aa, W⟩
theorem Pr : Has Try.prog 20 := ⟨fun args w => An Try.func20 rfl (by decide) args w⟩
noncomputable def FG (p0 : List (Int × Int × Int)) (p1 : List (Int × Int × Int)) : Int → Option (Int ⊕ (Unit ⊕ Bool))
  | x1 => (if x1 < (p0.length : Int) then (ix p0 x1).bind fun x2 => (ix p1 x1).bind fun x3 => (if (!(decide (x2.1 = x3.1 ∧ x2.2.1 = x3.2.1 ∧ x2.2.2 = x3.2.2))) = true then some (.inr (.inr false)) else some (.inl (BT (x1 + 1)))) else some (.inr (.inl ())))
noncomputable def Gu (p0 : List (Int × Int × Int)) (p1 : List (Int × Int × Int)) : Option Bool := (if (p0.length : Int) ≠ (p1.length : Int) then some false else FB (A9 (FG p0 p1) 0) fun _ => some true)
theorem KP (Y : Nat → Prop) (w0 : World) (v1 : Value) (v2 : Value) (p0 : List (Int × Int × Int)) (p1 : List (Int × Int × Int)) (r : Bool) (H : Gu p0 p1 = some r) (h_v1 : Sl w0 (NX []) BD v1 p0) (h_v2 : Sl w0 (NX []) BD v2 p1) :
    Calls Try.prog 71 #[v1, v2] w0 fun e w' => e = .returned (.bool r) ∧ Below w0.heap.size w0 w' := by
 refine enter Try.func71 Aa Try.ntmps71 Aa fun a F => ?_
 have W := Stw.start Y w0
 unfold Gu at H
 refine Al (Ae ?_)
 refine ls F W Aa (Ag F Aa).q fun a w F W => ?_
 refine Af (Ad (Al (Al (Ae ?_))))
 refine ls F W Aa (Ah F Aa).q fun a w F W => ?_
 refine ls F W Aa (B7 (r := BD) (l := p0) In Aa F Aa (Aw h_v1)).q fun a w F W => ?_
 refine ls F W Aa (Ah F Aa).q fun a w F W => ?_
 refine ls F W Aa (B7 (r := BD) (l := p1) In Aa F Aa (Aw h_v2)).q fun a w F W => ?_
 refine ls F W Aa (D3 F Aa Aa).q fun a w F W => ?_
 refine Af (Ad ?_)
 refine AA F Aa (fun hb => ?_) fun hb => ?_
 ·
  have H := AH (Bj hb) H
  rw [hb] at F
  clear hb
  refine Al (Ae ?_)
  refine ls F W Aa (Ag F Aa).q fun a w F W => ?_
  refine Af (Ad (Ay (AD ?_)))
  have H := AJ H
  subst H
  refine AL (.inl Aa) F W Aa (Av F Aa) ?_
  exact ⟨rfl, W.done⟩
 have H := AG (Bi hb) H
 rw [hb] at F
 clear hb
 refine Ax (Ad ?_)
 obtain ⟨o1, G1, K1, L1⟩ := Ih H
 refine AF (fun a w => some (Sum.inl ()) = some o1 ∧ Fr 26 [] [(4, .bool false)] a ∧ Stw ⟨Y, [], w0⟩ [] [] w) ?_ ?_
 ·
  have H := G1
  clear G1 K1
  refine Al (Ae ?_)
  refine ls F W Aa (Ag F Aa).q fun a w F W => ?_
  refine Af (Ad (AC ?_))
  refine Bz H (fun s a w => Fr 26 [] [(0, v1), (1, v2), (4, .bool false), (5, .int .i64 s)] a ∧ Stw ⟨Y, [], w0⟩ [] [] w) ⟨F.re ⟨rfl, Aa, Aa, Aa, trivial⟩, W⟩ fun s o a w H L2 hR => ?_
  obtain ⟨x1, rfl⟩ : ∃ x, x = s := ⟨s, rfl⟩
  obtain ⟨F, W⟩ := hR
  have F : Fr 26 [] [(0, v1), (1, v2), (4, .bool false), (5, .int .i64 x1)] a := F
  have W : Stw ⟨Y, [], w0⟩ [] [] w := W
  rw [FG] at H
  refine Al (Al (Ae ?_))
  iterate 2 refine ls F W Aa (Ah F Aa).q fun a w F W => ?_
  refine ls F W Aa (B7 (r := BD) (l := p0) In Aa F Aa (Aw h_v1)).q fun a w F W => ?_
  refine ls F W Aa (BI F Aa Aa).q fun a w F W => ?_
  refine Af (Ad ?_)
  refine AA F Aa (fun hb => ?_) fun hb => ?_
  ·
   have H := AH (Bj hb) H
   rw [hb] at F
   clear hb
   refine Ax (Ad (Al (AC (Al ?_))))
   refine Co W MO (by kernel_rfl) ?_
   iterate 2 refine qs F Aa (Ah F Aa).q fun a F => ?_
   obtain ⟨x2, h1, H⟩ := Ap H
   refine qs F Aa (Bg (r := BD) Nb F Aa Aa (Aw h_v1) h1).q fun a F => ?_
   refine qs F Aa (A0 (y := Value.agg #[.int .i64 x2.1, .int .i64 x2.2.1, .int .i64 x2.2.2]) (j := 0) (i := x1) F Aa Aa (Aw h_v1) h1 NO.to NN Aa).q fun a F => ?_
   iterate 2 refine qs F Aa (Ah F Aa).q fun a F => ?_
   obtain ⟨x3, h2, H⟩ := Ap H
   refine qs F Aa (Bg (r := BD) Nb F Aa Aa (Aw h_v2) h2).q fun a F => ?_
   refine qs F Aa (A0 (y := Value.agg #[.int .i64 x3.1, .int .i64 x3.2.1, .int .i64 x3.2.2]) (j := 0) (i := x1) F Aa Aa (Aw h_v2) h2 NO.to NN Aa).q fun a F => ?_
   refine qs F Aa (NQ (t := decide (x2.1 = x3.1 ∧ x2.2.1 = x3.2.1 ∧ x2.2.2 = x3.2.2)) P0 (P8 _ _ _ _ _ _) F Aa Aa).q fun a F => ?_
   refine A4 fun w W => ?_
   refine Ad ?_
   refine AA F Aa (fun hb => ?_) fun hb => ?_
   ·
    have H := AH hb H
    rw [hb] at F
    clear hb
    refine Al (Ae ?_)
    refine ls F W Aa (Ag F Aa).q fun a w F W => ?_
    refine Af (Ad (Ay (AK ?_)))
    iterate 2 refine AD ?_
    refine AK (AD ?_)
    have H := L2 _ H
    have H := L1 _ H
    have H := AJ H
    subst H
    refine AL (.inl Aa) F W Aa (Av F Aa) ?_
    exact ⟨rfl, W.done⟩
   have H := AG (by rw [hb]; decide) H
   rw [hb] at F
   clear hb
   refine Ax (A1 (Ad (Ae ?_)))
   refine ls F W Aa (Ah F Aa).q fun a w F W => ?_
   refine ls F W Aa (B6 F Aa Aa Aa).q fun a w F W => ?_
   refine ls F W Aa (Ag F Aa).q fun a w F W => ?_
   refine Af (Ad ?_)
   exact ⟨_, H, F.re ⟨rfl, Aa, Aa, Aa, trivial⟩, W⟩
  have H := AG (Bi hb) H
  rw [hb] at F
  clear hb
  refine Bu ?_
  iterate 2 refine BX ?_
  refine Br (Ad ?_)
  have H := L2 _ H
  exact ⟨H, F.re ⟨rfl, trivial⟩, W⟩
 rintro a w ⟨hj, F, W⟩
 have H := K1 _ hj
 clear hj G1 K1 L1
 refine Al (Ae ?_)
 refine ls F W Aa (Ag F Aa).q fun a w F W => ?_
 refine Af (Ad (Ay ?_))
 have H := AJ H
 subst H
 refine AL (.inl Aa) F W Aa (Av F Aa) ?_
 exact ⟨rfl, W.done⟩
end Go.Proofs.Ytkjjioigbpkifaa
