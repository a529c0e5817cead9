/- The functions of layer 11, En. Conditions: none. -/
import Derived.Test.YtkjjioigbpkifaaeA2
namespace Go.Proofs.Ytkjjioigbpkifaa
open Go Go.RowKit
set_option linter.unusedVariables false
set_option linter.unusedSimpArgs false
set_option maxRecDepth 20000
theorem O3 : Has Try.prog 46 := ⟨fun args w => Am Try.func46 rfl (by decide) args w⟩
noncomputable def AR (p1c0 : Int × (Int × (Int × Int × Int × Int) × (Int × Int × Int × Int)) × (List (Int × Int × Int))) : ((List (Int × (Int × (Int × Int × Int × Int) × (Int × Int × Int × Int)) × (List (Int × Int × Int)))) × Int × Int) → Option (((List (Int × (Int × (Int × Int × Int × Int) × (Int × Int × Int × Int)) × (List (Int × Int × Int)))) × Int × Int) ⊕ ((List (Int × (Int × (Int × Int × Int × Int) × (Int × Int × Int × Int)) × (List (Int × Int × Int)))) × Int))
  | (x4, x5, x6) => (if x6 < (x4.length : Int) then ((ix x4 x6).bind fun x9 => (if (!(BL x9 p1c0)) = true then (ix x4 x5).bind fun x10 => some ((Dq x4 x5 x9), CA (x5 + 1)) else some (x4, x5))).bind fun (x7, x8) => some (.inl (x7, x8, CA (x6 + 1))) else some (.inr (x4, x5)))
noncomputable def AM (p0 : List (Int × (Int × (Int × Int × Int × Int) × (Int × Int × Int × Int)) × (List (Int × Int × Int)))) (p1c0 : Int × (Int × (Int × Int × Int × Int) × (Int × Int × Int × Int)) × (List (Int × Int × Int))) : Option (List (Int × (Int × (Int × Int × Int × Int) × (Int × Int × Int × Int)) × (List (Int × Int × Int)))) := (AP p0 p1c0).bind fun x1 => (if x1 = (-1) then some p0 else (Bk (AR p1c0) (p0, x1, CA (x1 + 1))).bind fun (x2, x3) => (DJ x2 x3 (x2.length : Int)).bind fun x11 => (Mw x2 x3 (List.replicate (x11.length) ((0, (0, (0, 0, 0, 0), (0, 0, 0, 0)), []) : Int × (Int × (Int × Int × Int × Int) × (Int × Int × Int × Int)) × (List (Int × Int × Int))))).bind fun x12 => (DJ x12 0 x3).bind fun x13 => some x13)
theorem Dm (Y : Nat → Prop) (X : List Nat) (w0 : World) (v1 : Value) (q_p1c0 : Nat) (v2 : Value) (p0 : List (Int × (Int × (Int × Int × Int × Int) × (Int × Int × Int × Int)) × (List (Int × Int × Int)))) (p1c0 : Int × (Int × (Int × Int × Int × Int) × (Int × Int × Int × Int)) × (List (Int × Int × Int))) (r : (List (Int × (Int × (Int × Int × Int × Int) × (Int × Int × Int × Int)) × (List (Int × Int × Int))))) (H : AM p0 p1c0 = some r) (h_v2 : Sl w0 (NX X) Bu v2 p1c0.2.2) (a_q_p1c0 : At ⟨Y, X, w0⟩ q_p1c0 0 [.int .i64 p1c0.1, .int .i64 p1c0.2.1.1, .int .i64 p1c0.2.1.2.1.1, .int .i64 p1c0.2.1.2.1.2.1, .int .i64 p1c0.2.1.2.1.2.2.1, .int .i64 p1c0.2.1.2.1.2.2.2, .int .i64 p1c0.2.1.2.2.1, .int .i64 p1c0.2.1.2.2.2.1, .int .i64 p1c0.2.1.2.2.2.2.1, .int .i64 p1c0.2.1.2.2.2.2.2, v2]) (hL : Stw ⟨Y, X, w0⟩ [] [row v1 40 Bc p0] w0) :
    Calls Try.prog 46 #[v1, .func (.func 66) #[] #[.pointer (some ⟨q_p1c0, 0, none⟩)]] w0 fun e w' => ∃ x : Value, e = .returned (x) ∧ Stw ⟨Y, X, w0⟩ [] [row (x) 40 Bc r] w' := by
 refine enter Try.func46 Aa Try.ntmps46 Aa fun a F => ?_
 have W := hL
 unfold AM at H
 refine Ak (Ae ?_)
 refine ls F W Aa (Ag F Aa).q fun a w F W => ?_
 refine Af (Ad (Ak (Ae ?_)))
 iterate 2 refine ls F W Aa (Ah F Aa).q fun a w F W => ?_
 obtain ⟨x1, h1, H⟩ := Ap H
 refine ls F W Aa (AY (v := Value.int .i64 x1) F NR Aa (fun w W => Cr any w (v1) q_p1c0 (v2) p0 p1c0 _ h1 (((Bg 0 Aa) : CV _ _ _ _ _ _) w W).nx (((Au h_v2) : CV _ _ _ _ _ _) w W).nx (At.re a_q_p1c0 W))) fun a w F W => ?_
 refine ls F W Aa (Ag F Aa).q fun a w F W => ?_
 refine Af (Ad (Ak (Ak (Ae ?_))))
 refine ls F W Aa (Ah F Aa).q fun a w F W => ?_
 refine ls F W Aa (BJ F Aa Aa).q fun a w F W => ?_
 refine Af (Ad ?_)
 refine AA F Aa (fun hb => ?_) fun hb => ?_
 ·
  have H := AK (Bi hb) H
  rw [hb] at F
  clear hb
  refine Ak (Ae ?_)
  refine ls F W Aa (Ah F Aa).q fun a w F W => ?_
  refine ls F W Aa (Ag F Aa).q fun a w F W => ?_
  refine Af (Ad (Ax (AD ?_)))
  have H := AL H
  subst H
  refine AF (.inl Aa) F W Aa (Av F Aa) ?_
  exact ⟨(v1), Aa, W⟩
 have H := AJ (Bh hb) H
 rw [hb] at F
 clear hb
 refine Ay (Ad ?_)
 obtain ⟨o1, G1, K1⟩ := Ap H
 refine AH (fun a w => ∃ x2 : List (Int × (Int × (Int × Int × Int × Int) × (Int × Int × Int × Int)) × (List (Int × Int × Int))), ∃ x3 : Int, some ((x2, x3)) = some o1 ∧ Fr 42 [] [(0, v1), (4, .slice none 0 0), (5, .int .i64 x3)] a ∧ Stw ⟨Y, X, w0⟩ [] [row v1 40 Bc x2] w) ?_ ?_
 ·
  have H := G1
  clear G1 K1
  refine Ak (Ae ?_)
  refine ls F W Aa (Ah F Aa).q fun a w F W => ?_
  refine ls F W Aa (B7 F Aa Aa Aa).q fun a w F W => ?_
  refine ls F W Aa (Ag F Aa).q fun a w F W => ?_
  refine Af (Ad (AC ?_))
  refine Bz H (fun s a w => Fr 42 [] [(0, v1), (1, .func (.func 66) #[] #[.pointer (some ⟨q_p1c0, 0, none⟩)]), (4, .slice none 0 0), (5, .int .i64 s.2.1), (6, .int .i64 s.2.2)] a ∧ Stw ⟨Y, X, w0⟩ [] [row v1 40 Bc s.1] w) ⟨F.re ⟨rfl, Aa, Aa, Aa, Aa, trivial⟩, W⟩ fun s o a w H L2 hR => ?_
  obtain ⟨x4, x5, x6⟩ := s
  obtain ⟨F, W⟩ := hR
  have F : Fr 42 [] [(0, v1), (1, .func (.func 66) #[] #[.pointer (some ⟨q_p1c0, 0, none⟩)]), (4, .slice none 0 0), (5, .int .i64 x5), (6, .int .i64 x6)] a := F
  have W : Stw ⟨Y, X, w0⟩ [] [row v1 40 Bc x4] w := W
  rw [AR] at H
  refine Ak (Ak (Ae ?_))
  iterate 2 refine ls F W Aa (Ah F Aa).q fun a w F W => ?_
  refine ls F W Aa (B1 (r := Bc) (l := x4) DZ Aa F Aa (Bg 0 Aa)).q fun a w F W => ?_
  refine ls F W Aa (BN F Aa Aa).q fun a w F W => ?_
  refine Af (Ad ?_)
  refine AA F Aa (fun hb => ?_) fun hb => ?_
  ·
   have H := AK (Bi hb) H
   rw [hb] at F
   clear hb
   refine Ay (Ad ?_)
   obtain ⟨o3, G3, K3⟩ := Ap H
   refine AH (fun a w => ∃ x7 : List (Int × (Int × (Int × Int × Int × Int) × (Int × Int × Int × Int)) × (List (Int × Int × Int))), ∃ x8 : Int, some ((x7, x8)) = some o3 ∧ Fr 42 [] [(0, v1), (1, .func (.func 66) #[] #[.pointer (some ⟨q_p1c0, 0, none⟩)]), (4, .slice none 0 0), (5, .int .i64 x8), (6, .int .i64 x6)] a ∧ Stw ⟨Y, X, w0⟩ [] [row v1 40 Bc x7] w) ?_ ?_
   ·
    have H := G3
    clear G3 K3
    refine AC (Ak ?_)
    obtain ⟨v3, h2, W⟩ := W.exR Bl
    refine Ae ?_
    iterate 2 refine ls F W Aa (Ah F Aa).q fun a w F W => ?_
    obtain ⟨x9, h3, H⟩ := Ap H
    obtain ⟨v4, h4, h5⟩ := CE h2 h3
    have h6 : B9 v4 = [.int .i64 x9.1, .int .i64 x9.2.1.1, .int .i64 x9.2.1.2.1.1, .int .i64 x9.2.1.2.1.2.1, .int .i64 x9.2.1.2.1.2.2.1, .int .i64 x9.2.1.2.1.2.2.2, .int .i64 x9.2.1.2.2.1, .int .i64 x9.2.1.2.2.2.1, .int .i64 x9.2.1.2.2.2.2.1, .int .i64 x9.2.1.2.2.2.2.2, (v4.2.2.1)] := congrArg (fun q : Int × (Int × (Int × Int × Int × Int) × (Int × Int × Int × Int)) × (List (Int × Int × Int)) => ([.int .i64 q.1, .int .i64 q.2.1.1, .int .i64 q.2.1.2.1.1, .int .i64 q.2.1.2.1.2.1, .int .i64 q.2.1.2.1.2.2.1, .int .i64 q.2.1.2.1.2.2.2, .int .i64 q.2.1.2.2.1, .int .i64 q.2.1.2.2.2.1, .int .i64 q.2.1.2.2.2.2.1, .int .i64 q.2.1.2.2.2.2.2, (v4.2.2.1)] : List Value)) h5
    refine ls F W Aa (Bd (r := CM) Fh F Aa Aa (Bg 0 Aa) h4).q fun a w F W => ?_
    refine ls F W Aa (A1 (y := Value.agg #[.int .i64 x9.1, .int .i64 x9.2.1.1, .int .i64 x9.2.1.2.1.1, .int .i64 x9.2.1.2.1.2.1, .int .i64 x9.2.1.2.1.2.2.1, .int .i64 x9.2.1.2.1.2.2.2, .int .i64 x9.2.1.2.2.1, .int .i64 x9.2.1.2.2.2.1, .int .i64 x9.2.1.2.2.2.2.1, .int .i64 x9.2.1.2.2.2.2.2, (v4.2.2.1)]) (j := 0) (i := x6) (enc := B9) F Aa Aa (Bg 0 Aa) h4 D8 C6 (by rw [h6]; rfl)).q fun a w F W => ?_
    have W := W.note (W.rowAt (k := 0) Aa h4 (BC.snd (BC.snd BC.here)) (congrArg (fun q : Int × (Int × (Int × Int × Int × Int) × (Int × Int × Int × Int)) × (List (Int × Int × Int)) => q.2.2) h5))
    refine Cp (cs := [.int .i64 0, .int .i64 0, .int .i64 0, .int .i64 0, .int .i64 0, .int .i64 0, .int .i64 0, .int .i64 0, .int .i64 0, .int .i64 0, .slice none 0 0]) F W Aa K0 Aa fun b1 a w F W => ?_
    refine BB (vs := [.int .i64 x9.1, .int .i64 x9.2.1.1, .int .i64 x9.2.1.2.1.1, .int .i64 x9.2.1.2.1.2.1, .int .i64 x9.2.1.2.1.2.2.1, .int .i64 x9.2.1.2.1.2.2.2, .int .i64 x9.2.1.2.2.1, .int .i64 x9.2.1.2.2.2.1, .int .i64 x9.2.1.2.2.2.2.1, .int .i64 x9.2.1.2.2.2.2.2, (v4.2.2.1)]) (M' := [(b1, [.int .i64 x9.1, .int .i64 x9.2.1.1, .int .i64 x9.2.1.2.1.1, .int .i64 x9.2.1.2.1.2.1, .int .i64 x9.2.1.2.1.2.2.1, .int .i64 x9.2.1.2.1.2.2.2, .int .i64 x9.2.1.2.2.1, .int .i64 x9.2.1.2.2.2.1, .int .i64 x9.2.1.2.2.2.2.1, .int .i64 x9.2.1.2.2.2.2.2, (v4.2.2.1)])]) 0 F W Aa Aa Aa C6 Aa Aa Aa (An Aa (An Aa (An Aa (An Aa (An Aa (An Aa (An Aa (An Aa (An Aa (An Aa (An (W.oneF (k := 0) Aa) Di))))))))))) Aa fun w W => ?_
    refine Af (Ad (Ak (Ae ?_)))
    refine ls F W Aa (Ah F Aa).q fun a w F W => ?_
    refine ls F W Aa (As (v := Value.agg #[.int .i64 x9.1, .int .i64 x9.2.1.1, .int .i64 x9.2.1.2.1.1, .int .i64 x9.2.1.2.1.2.1, .int .i64 x9.2.1.2.1.2.2.1, .int .i64 x9.2.1.2.1.2.2.2, .int .i64 x9.2.1.2.2.1, .int .i64 x9.2.1.2.2.2.1, .int .i64 x9.2.1.2.2.2.2.1, .int .i64 x9.2.1.2.2.2.2.2, (v4.2.2.1)]) 0 F Aa Aa C6 Aa).q fun a w F W => ?_
    refine ls F W Aa (EY (ws := [.agg #[.int .i64 x9.1, .int .i64 x9.2.1.1, .int .i64 x9.2.1.2.1.1, .int .i64 x9.2.1.2.1.2.1, .int .i64 x9.2.1.2.1.2.2.1, .int .i64 x9.2.1.2.1.2.2.2, .int .i64 x9.2.1.2.2.1, .int .i64 x9.2.1.2.2.2.1, .int .i64 x9.2.1.2.2.2.2.1, .int .i64 x9.2.1.2.2.2.2.2, (v4.2.2.1)], .pointer (some ⟨q_p1c0, 0, none⟩)]) (v := Value.bool (BL x9 p1c0)) F OI Aa (fun w W => EM any w ((v4.2.2.1)) q_p1c0 (v2) x9 p1c0 _ Aa (((CH 0 Aa) : CV _ _ _ _ _ _) w W).nx (((Au h_v2) : CV _ _ _ _ _ _) w W).nx (At.re a_q_p1c0 W))) fun a w F W => ?_
    refine ls F W Aa (E9 F Aa).q fun a w F W => ?_
    refine Af (Ad ?_)
    refine AA F Aa (fun hb => ?_) fun hb => ?_
    ·
     have H := AK hb H
     rw [hb] at F
     clear hb
     refine Ak (Ae ?_)
     iterate 2 refine ls F W Aa (Ah F Aa).q fun a w F W => ?_
     refine ls F W Aa (As (v := Value.agg #[.int .i64 x9.1, .int .i64 x9.2.1.1, .int .i64 x9.2.1.2.1.1, .int .i64 x9.2.1.2.1.2.1, .int .i64 x9.2.1.2.1.2.2.1, .int .i64 x9.2.1.2.1.2.2.2, .int .i64 x9.2.1.2.2.1, .int .i64 x9.2.1.2.2.2.1, .int .i64 x9.2.1.2.2.2.2.1, .int .i64 x9.2.1.2.2.2.2.2, (v4.2.2.1)]) 0 F Aa Aa C6 Aa).q fun a w F W => ?_
     obtain ⟨x10, h7, H⟩ := Ap H
     obtain ⟨v5, h8, h9⟩ := CE h2 h7
     have h10 : B9 v5 = [.int .i64 x10.1, .int .i64 x10.2.1.1, .int .i64 x10.2.1.2.1.1, .int .i64 x10.2.1.2.1.2.1, .int .i64 x10.2.1.2.1.2.2.1, .int .i64 x10.2.1.2.1.2.2.2, .int .i64 x10.2.1.2.2.1, .int .i64 x10.2.1.2.2.2.1, .int .i64 x10.2.1.2.2.2.2.1, .int .i64 x10.2.1.2.2.2.2.2, (v5.2.2.1)] := congrArg (fun q : Int × (Int × (Int × Int × Int × Int) × (Int × Int × Int × Int)) × (List (Int × Int × Int)) => ([.int .i64 q.1, .int .i64 q.2.1.1, .int .i64 q.2.1.2.1.1, .int .i64 q.2.1.2.1.2.1, .int .i64 q.2.1.2.1.2.2.1, .int .i64 q.2.1.2.1.2.2.2, .int .i64 q.2.1.2.2.1, .int .i64 q.2.1.2.2.2.1, .int .i64 q.2.1.2.2.2.2.1, .int .i64 q.2.1.2.2.2.2.2, (v5.2.2.1)] : List Value)) h9
     refine ls F W Aa (Bd (r := CM) Fh F Aa Aa (Bg 1 Aa) h8).q fun a w F W => ?_
     have W := W.frontZ (i := 1) Aa Aa
     have W := W.hideR Bl h2
     refine Fj (r := Bc) (i := x5) (j := 0) (vs := [.int .i64 x9.1, .int .i64 x9.2.1.1, .int .i64 x9.2.1.2.1.1, .int .i64 x9.2.1.2.1.2.1, .int .i64 x9.2.1.2.1.2.2.1, .int .i64 x9.2.1.2.1.2.2.2, .int .i64 x9.2.1.2.2.1, .int .i64 x9.2.1.2.2.2.1, .int .i64 x9.2.1.2.2.2.2.1, .int .i64 x9.2.1.2.2.2.2.2, (v4.2.2.1)]) (x' := x9) F W rfl rfl rfl (k := 0) rfl rfl h7 C6 rfl rfl rfl (An rfl (An rfl (An rfl (An rfl (An rfl (An rfl (An rfl (An rfl (An rfl (An rfl (An (W.oneF (k := 1) rfl) Di))))))))))) (fun A cs hA hc => by obtain ⟨z, hz, hc⟩ := Bl.to hc; have e1 := D8 hc; have e2 : B9 z = [.int .i64 x10.1, .int .i64 x10.2.1.1, .int .i64 x10.2.1.2.1.1, .int .i64 x10.2.1.2.1.2.1, .int .i64 x10.2.1.2.1.2.2.1, .int .i64 x10.2.1.2.1.2.2.2, .int .i64 x10.2.1.2.2.1, .int .i64 x10.2.1.2.2.2.1, .int .i64 x10.2.1.2.2.2.2.1, .int .i64 x10.2.1.2.2.2.2.2, (z.2.2.1)] := (congrArg (fun q : Int × (Int × (Int × Int × Int × Int) × (Int × Int × Int × Int)) × (List (Int × Int × Int)) => ([.int .i64 q.1, .int .i64 q.2.1.1, .int .i64 q.2.1.2.1.1, .int .i64 q.2.1.2.1.2.1, .int .i64 q.2.1.2.1.2.2.1, .int .i64 q.2.1.2.1.2.2.2, .int .i64 q.2.1.2.2.1, .int .i64 q.2.1.2.2.2.1, .int .i64 q.2.1.2.2.2.2.1, .int .i64 q.2.1.2.2.2.2.2, (z.2.2.1)] : List Value)) hz); rw [e1, e2]; exact ⟨[Value.int .i64 x9.1], [Value.int .i64 x9.2.1.1, Value.int .i64 x9.2.1.2.1.1, Value.int .i64 x9.2.1.2.1.2.1, Value.int .i64 x9.2.1.2.1.2.2.1, Value.int .i64 x9.2.1.2.1.2.2.2, Value.int .i64 x9.2.1.2.2.1, Value.int .i64 x9.2.1.2.2.2.1, Value.int .i64 x9.2.1.2.2.2.2.1, Value.int .i64 x9.2.1.2.2.2.2.2, (v4.2.2.1)], rfl, rfl, ⟨[Value.int .i64 x9.2.1.1, Value.int .i64 x9.2.1.2.1.1, Value.int .i64 x9.2.1.2.1.2.1, Value.int .i64 x9.2.1.2.1.2.2.1, Value.int .i64 x9.2.1.2.1.2.2.2, Value.int .i64 x9.2.1.2.2.1, Value.int .i64 x9.2.1.2.2.2.1, Value.int .i64 x9.2.1.2.2.2.2.1, Value.int .i64 x9.2.1.2.2.2.2.2], [(v4.2.2.1)], rfl, ⟨[Value.int .i64 x9.2.1.1], [Value.int .i64 x9.2.1.2.1.1, Value.int .i64 x9.2.1.2.1.2.1, Value.int .i64 x9.2.1.2.1.2.2.1, Value.int .i64 x9.2.1.2.1.2.2.2, Value.int .i64 x9.2.1.2.2.1, Value.int .i64 x9.2.1.2.2.2.1, Value.int .i64 x9.2.1.2.2.2.2.1, Value.int .i64 x9.2.1.2.2.2.2.2], rfl, rfl, ⟨[Value.int .i64 x9.2.1.2.1.1, Value.int .i64 x9.2.1.2.1.2.1, Value.int .i64 x9.2.1.2.1.2.2.1, Value.int .i64 x9.2.1.2.1.2.2.2], [Value.int .i64 x9.2.1.2.2.1, Value.int .i64 x9.2.1.2.2.2.1, Value.int .i64 x9.2.1.2.2.2.2.1, Value.int .i64 x9.2.1.2.2.2.2.2], rfl, ⟨[Value.int .i64 x9.2.1.2.1.1], [Value.int .i64 x9.2.1.2.1.2.1, Value.int .i64 x9.2.1.2.1.2.2.1, Value.int .i64 x9.2.1.2.1.2.2.2], rfl, rfl, ⟨[Value.int .i64 x9.2.1.2.1.2.1], [Value.int .i64 x9.2.1.2.1.2.2.1, Value.int .i64 x9.2.1.2.1.2.2.2], rfl, rfl, ⟨[Value.int .i64 x9.2.1.2.1.2.2.1], [Value.int .i64 x9.2.1.2.1.2.2.2], rfl, rfl, rfl⟩⟩⟩, ⟨[Value.int .i64 x9.2.1.2.2.1], [Value.int .i64 x9.2.1.2.2.2.1, Value.int .i64 x9.2.1.2.2.2.2.1, Value.int .i64 x9.2.1.2.2.2.2.2], rfl, rfl, ⟨[Value.int .i64 x9.2.1.2.2.2.1], [Value.int .i64 x9.2.1.2.2.2.2.1, Value.int .i64 x9.2.1.2.2.2.2.2], rfl, rfl, ⟨[Value.int .i64 x9.2.1.2.2.2.2.1], [Value.int .i64 x9.2.1.2.2.2.2.2], rfl, rfl, rfl⟩⟩⟩⟩⟩, ⟨_, rfl, (Sl.stab (W.item (i := 1) rfl) (fun b hb _ => ⟨hA b hb, rfl⟩))⟩⟩⟩) fun w W => ?_
     refine Af (Ad (Ae ?_))
     refine ls F W Aa (Ah F Aa).q fun a w F W => ?_
     refine ls F W Aa (B7 F Aa Aa Aa).q fun a w F W => ?_
     refine ls F W Aa (Ag F Aa).q fun a w F W => ?_
     refine Af (A5 (Ad ?_))
     have W := W.sub (M' := []) (Z' := [row v1 40 Bc (Dq x4 x5 x9)]) (List.nil_sublist _) (List.Sublist.cons_cons _ (List.nil_sublist _))
     exact ⟨_, _, H, F.re ⟨rfl, Aa, Aa, Aa, Aa, trivial⟩, W⟩
    have H := AJ (by rw [hb]; decide) H
    rw [hb] at F
    clear hb
    refine Ay (A5 (Ad ?_))
    have W := W.frontZ (i := 1) Aa Aa
    have W := W.hideR Bl h2
    have W := W.sub (M' := []) (Z' := [row v1 40 Bc x4]) (List.nil_sublist _) (List.Sublist.cons_cons _ (List.nil_sublist _))
    exact ⟨_, _, H, F.re ⟨rfl, Aa, Aa, Aa, Aa, trivial⟩, W⟩
   rintro a w ⟨x7, x8, hj, F, W⟩
   have hj := AL hj
   subst hj
   have H := K3
   clear G3 K3
   refine Ae ?_
   refine ls F W Aa (Ah F Aa).q fun a w F W => ?_
   refine ls F W Aa (B7 F Aa Aa Aa).q fun a w F W => ?_
   refine ls F W Aa (Ag F Aa).q fun a w F W => ?_
   refine Af (Ad ?_)
   exact ⟨_, H, F.re ⟨rfl, Aa, Aa, Aa, Aa, trivial⟩, W⟩
  have H := AJ (Bh hb) H
  rw [hb] at F
  clear hb
  refine Bw ?_
  iterate 2 refine B3 ?_
  refine Bx (Ad ?_)
  have H := L2 _ H
  exact ⟨_, _, H, F.re ⟨rfl, Aa, Aa, trivial⟩, W⟩
 rintro a w ⟨x2, x3, hj, F, W⟩
 have hj := AL hj
 subst hj
 have H := K1
 clear G1 K1
 refine Ak (Ae ?_)
 iterate 2 refine ls F W Aa (Ah F Aa).q fun a w F W => ?_
 obtain ⟨x11, h11, H⟩ := Ap H
 refine ls F W Aa (ET (r := Bc) Fh F Aa Aa Aa (Bg 0 Aa) h11).q fun a w F W => ?_
 obtain ⟨x12, h12, H⟩ := Ap H
 refine KR (r := Bc) (v := v1) (k := 0) ((0, (0, (0, 0, 0, 0), (0, 0, 0, 0)), []) : Int × (Int × (Int × Int × Int × Int) × (Int × Int × Int × Int)) × (List (Int × Int × Int))) F W Fh K0 Aa Aa Aa h11 (fun w A => ⟨[Value.int .i64 0], [Value.int .i64 0, Value.int .i64 0, Value.int .i64 0, Value.int .i64 0, Value.int .i64 0, Value.int .i64 0, Value.int .i64 0, Value.int .i64 0, Value.int .i64 0, Value.slice none 0 0], Aa, Aa, ⟨[Value.int .i64 0, Value.int .i64 0, Value.int .i64 0, Value.int .i64 0, Value.int .i64 0, Value.int .i64 0, Value.int .i64 0, Value.int .i64 0, Value.int .i64 0], [Value.slice none 0 0], Aa, ⟨[Value.int .i64 0], [Value.int .i64 0, Value.int .i64 0, Value.int .i64 0, Value.int .i64 0, Value.int .i64 0, Value.int .i64 0, Value.int .i64 0, Value.int .i64 0], Aa, Aa, ⟨[Value.int .i64 0, Value.int .i64 0, Value.int .i64 0, Value.int .i64 0], [Value.int .i64 0, Value.int .i64 0, Value.int .i64 0, Value.int .i64 0], Aa, ⟨[Value.int .i64 0], [Value.int .i64 0, Value.int .i64 0, Value.int .i64 0], Aa, Aa, ⟨[Value.int .i64 0], [Value.int .i64 0, Value.int .i64 0], Aa, Aa, ⟨[Value.int .i64 0], [Value.int .i64 0], Aa, Aa, Aa⟩⟩⟩, ⟨[Value.int .i64 0], [Value.int .i64 0, Value.int .i64 0, Value.int .i64 0], Aa, Aa, ⟨[Value.int .i64 0], [Value.int .i64 0, Value.int .i64 0], Aa, Aa, ⟨[Value.int .i64 0], [Value.int .i64 0], Aa, Aa, Aa⟩⟩⟩⟩⟩, ⟨_, Aa, Sl.nil⟩⟩⟩) h12 fun w W => ?_
 have W : Stw ⟨Y, X, w0⟩ [] [row v1 40 Bc x12] w := W
 refine Af (Ad (Ak (Ae ?_)))
 iterate 2 refine ls F W Aa (Ah F Aa).q fun a w F W => ?_
 obtain ⟨x13, h13, H⟩ := Ap H
 refine ls F W Aa (ET (r := Bc) Fh F Aa Aa Aa (Bg 0 Aa) h13).q fun a w F W => ?_
 refine ls F W Aa (Ag F Aa).q fun a w F W => ?_
 refine Af (Ad (Ax ?_))
 have H := AL H
 subst H
 refine AF (.inl Aa) F W Aa (Av F Aa) ?_
 have W := W.subRow (k := 0) Aa Aa h13
 exact ⟨((CC v1 (0 : Int) x3 11)), Aa, W⟩
noncomputable def Cx (p0 : List (Int × (Int × (Int × Int × Int × Int) × (Int × Int × Int × Int)) × (List (Int × Int × Int)))) (p1 : Int × (Int × (Int × (Int × Int × Int × Int) × (Int × Int × Int × Int)) × (List (Int × Int × Int))) × Bool) (p2 : Int) (p3 : Int) : Option ((List (Int × (Int × (Int × Int × Int × Int) × (Int × Int × Int × Int)) × (List (Int × Int × Int)))) × Int) := (Cw p0).bind fun x1 => (DW p1.2.1 p2).bind fun x2 => (if (!x2) = true then some (x1, 2) else (if p1.1 = 1 then (NN x1.length (((p0.length : Int)).toNat)).bind fun x3 => (Eo x1 p1 p3).bind fun x4 => some (x4.1, x4.2) else (if p1.1 = 2 then (Cf x1 p1.2.1 ((Aj p1.2.1).1, ((Aj p1.2.1).2.1.1, ((Aj p1.2.1).2.1.2.1.1, (Aj p1.2.1).2.1.2.1.2.1, (Aj p1.2.1).2.1.2.1.2.2.1, (Aj p1.2.1).2.1.2.1.2.2.2), ((Aj p1.2.1).2.1.2.2.1, (Aj p1.2.1).2.1.2.2.2.1, (Aj p1.2.1).2.1.2.2.2.2.1, (Aj p1.2.1).2.1.2.2.2.2.2)), (Aj p1.2.1).2.2)).bind fun x5 => some (x5, 0) else (if p1.1 = 3 then (Az x1 ((Ab p1.2.1).1, ((Ab p1.2.1).2.1.1, ((Ab p1.2.1).2.1.2.1.1, (Ab p1.2.1).2.1.2.1.2.1, (Ab p1.2.1).2.1.2.1.2.2.1, (Ab p1.2.1).2.1.2.1.2.2.2), ((Ab p1.2.1).2.1.2.2.1, (Ab p1.2.1).2.1.2.2.2.1, (Ab p1.2.1).2.1.2.2.2.2.1, (Ab p1.2.1).2.1.2.2.2.2.2)), (Ab p1.2.1).2.2)).bind fun x6 => (if (!x6) = true then some (x1, 7) else (B8 x1 p1.2.1 ((Ab p1.2.1).1, ((Ab p1.2.1).2.1.1, ((Ab p1.2.1).2.1.2.1.1, (Ab p1.2.1).2.1.2.1.2.1, (Ab p1.2.1).2.1.2.1.2.2.1, (Ab p1.2.1).2.1.2.1.2.2.2), ((Ab p1.2.1).2.1.2.2.1, (Ab p1.2.1).2.1.2.2.2.1, (Ab p1.2.1).2.1.2.2.2.2.1, (Ab p1.2.1).2.1.2.2.2.2.2)), (Ab p1.2.1).2.2)).bind fun x7 => some (x7, 0)) else (if p1.1 = 4 then (AS x1 ((Aj p1.2.1).1, ((Aj p1.2.1).2.1.1, ((Aj p1.2.1).2.1.2.1.1, (Aj p1.2.1).2.1.2.1.2.1, (Aj p1.2.1).2.1.2.1.2.2.1, (Aj p1.2.1).2.1.2.1.2.2.2), ((Aj p1.2.1).2.1.2.2.1, (Aj p1.2.1).2.1.2.2.2.1, (Aj p1.2.1).2.1.2.2.2.2.1, (Aj p1.2.1).2.1.2.2.2.2.2)), (Aj p1.2.1).2.2)).bind fun x8 => some (x8, 0) else (if p1.1 = 5 then (Az x1 ((Ab p1.2.1).1, ((Ab p1.2.1).2.1.1, ((Ab p1.2.1).2.1.2.1.1, (Ab p1.2.1).2.1.2.1.2.1, (Ab p1.2.1).2.1.2.1.2.2.1, (Ab p1.2.1).2.1.2.1.2.2.2), ((Ab p1.2.1).2.1.2.2.1, (Ab p1.2.1).2.1.2.2.2.1, (Ab p1.2.1).2.1.2.2.2.2.1, (Ab p1.2.1).2.1.2.2.2.2.2)), (Ab p1.2.1).2.2)).bind fun x9 => (if (!x9) = true then some (x1, 7) else (AM x1 ((Ab p1.2.1).1, ((Ab p1.2.1).2.1.1, ((Ab p1.2.1).2.1.2.1.1, (Ab p1.2.1).2.1.2.1.2.1, (Ab p1.2.1).2.1.2.1.2.2.1, (Ab p1.2.1).2.1.2.1.2.2.2), ((Ab p1.2.1).2.1.2.2.1, (Ab p1.2.1).2.1.2.2.2.1, (Ab p1.2.1).2.1.2.2.2.2.1, (Ab p1.2.1).2.1.2.2.2.2.2)), (Ab p1.2.1).2.2)).bind fun x10 => some (x10, 0)) else some (x1, 2)))))))
theorem FC (Y : Nat → Prop) (w0 : World) (v1 : Value) (v2 : Value) (p0 : List (Int × (Int × (Int × Int × Int × Int) × (Int × Int × Int × Int)) × (List (Int × Int × Int)))) (p1 : Int × (Int × (Int × (Int × Int × Int × Int) × (Int × Int × Int × Int)) × (List (Int × Int × Int))) × Bool) (p2 : Int) (p3 : Int) (r : (List (Int × (Int × (Int × Int × Int × Int) × (Int × Int × Int × Int)) × (List (Int × Int × Int)))) × Int) (H : Cx p0 p1 p2 p3 = some r) (s_v1 : Sl w0 Y Bc v1 p0) (s_v2 : Sl w0 Y Bu v2 p1.2.1.2.2) :
    Calls Try.prog 19 #[v1, .agg #[.int .i64 p1.1, .int .i64 p1.2.1.1, .int .i64 p1.2.1.2.1.1, .int .i64 p1.2.1.2.1.2.1.1, .int .i64 p1.2.1.2.1.2.1.2.1, .int .i64 p1.2.1.2.1.2.1.2.2.1, .int .i64 p1.2.1.2.1.2.1.2.2.2, .int .i64 p1.2.1.2.1.2.2.1, .int .i64 p1.2.1.2.1.2.2.2.1, .int .i64 p1.2.1.2.1.2.2.2.2.1, .int .i64 p1.2.1.2.1.2.2.2.2.2, v2, .bool p1.2.2], .int .i64 p2, .int .i64 p3] w0 fun e w' => ∃ x : Value, e = .returned (.tuple #[x, .int .i64 r.2]) ∧ Stw ⟨Y, [], w0⟩ [] [BM (x) Bc r.1] w' := by
 refine enter Try.func19 Aa Try.ntmps19 Aa fun a F => ?_
 have W := Stw.start Y w0
 obtain ⟨v3, h1, s_v1⟩ := s_v1.ex Bl
 have h_v1 := W.nx s_v1
 have h_v2 := W.nx s_v2
 unfold Cx at H
 refine Ak (Ae ?_)
 refine BS (cs := [.int .i64 p1.1, .int .i64 p1.2.1.1, .int .i64 p1.2.1.2.1.1, .int .i64 p1.2.1.2.1.2.1.1, .int .i64 p1.2.1.2.1.2.1.2.1, .int .i64 p1.2.1.2.1.2.1.2.2.1, .int .i64 p1.2.1.2.1.2.1.2.2.2, .int .i64 p1.2.1.2.1.2.2.1, .int .i64 p1.2.1.2.1.2.2.2.1, .int .i64 p1.2.1.2.1.2.2.2.2.1, .int .i64 p1.2.1.2.1.2.2.2.2.2, v2, .bool p1.2.2]) F W Aa Aa Aa fun b1 a w F W => ?_
 iterate 2 refine ls F W Aa (Ag F Aa).q fun a w F W => ?_
 refine Af (Ad (Ak (Ae ?_)))
 refine ls F W Aa (Ah F Aa).q fun a w F W => ?_
 obtain ⟨x1, h2, H⟩ := Ap H
 refine Bp (Ml := []) (Zl := []) (M := [(b1, [.int .i64 p1.1, .int .i64 p1.2.1.1, .int .i64 p1.2.1.2.1.1, .int .i64 p1.2.1.2.1.2.1.1, .int .i64 p1.2.1.2.1.2.1.2.1, .int .i64 p1.2.1.2.1.2.1.2.2.1, .int .i64 p1.2.1.2.1.2.1.2.2.2, .int .i64 p1.2.1.2.1.2.2.1, .int .i64 p1.2.1.2.1.2.2.2.1, .int .i64 p1.2.1.2.1.2.2.2.2.1, .int .i64 p1.2.1.2.1.2.2.2.2.2, v2, .bool p1.2.2])]) (Z := []) (β := {x : Value // HP x (((p0.length : Int)).toNat)}) (rv := fun x => x.1) (MM := fun x => []) (ZZ := fun x => [row x.1 40 Bc x1]) F W OB Aa Aa (fun hL => Fk _ w (v1) p0 _ h2 (Sl.hide Bl h1 (W.old s_v1))) fun x a w F W => ?_
 obtain ⟨v4, rfl⟩ : ∃ y, y = x := ⟨x, rfl⟩
 have W : Stw ⟨Y, [], w0⟩ [(b1, [.int .i64 p1.1, .int .i64 p1.2.1.1, .int .i64 p1.2.1.2.1.1, .int .i64 p1.2.1.2.1.2.1.1, .int .i64 p1.2.1.2.1.2.1.2.1, .int .i64 p1.2.1.2.1.2.1.2.2.1, .int .i64 p1.2.1.2.1.2.1.2.2.2, .int .i64 p1.2.1.2.1.2.2.1, .int .i64 p1.2.1.2.1.2.2.2.1, .int .i64 p1.2.1.2.1.2.2.2.2.1, .int .i64 p1.2.1.2.1.2.2.2.2.2, v2, .bool p1.2.2])] [row v4.1 40 Bc x1] w := W
 refine ls F W Aa (Ag F Aa).q fun a w F W => ?_
 refine Af (Ad (Ak (Ak (Ae ?_))))
 refine ls F W Aa (Al Gf Aa Aa Aa C6 F Aa 1 Aa).q fun a w F W => ?_
 refine ls F W Aa (As (v := Value.agg #[.int .i64 p1.2.1.1, .int .i64 p1.2.1.2.1.1, .int .i64 p1.2.1.2.1.2.1.1, .int .i64 p1.2.1.2.1.2.1.2.1, .int .i64 p1.2.1.2.1.2.1.2.2.1, .int .i64 p1.2.1.2.1.2.1.2.2.2, .int .i64 p1.2.1.2.1.2.2.1, .int .i64 p1.2.1.2.1.2.2.2.1, .int .i64 p1.2.1.2.1.2.2.2.2.1, .int .i64 p1.2.1.2.1.2.2.2.2.2, v2]) 0 F Aa Aa C6 Aa).q fun a w F W => ?_
 refine ls F W Aa (Ah F Aa).q fun a w F W => ?_
 obtain ⟨x2, h3, H⟩ := Ap H
 refine ls F W Aa (AY (v := Value.bool x2) F PF Aa (fun w W => Jj any w (v2) p1.2.1 p2 _ h3 (((Au h_v2) : CV _ _ _ _ _ _) w W).nx)) fun a w F W => ?_
 refine ls F W Aa (E9 F Aa).q fun a w F W => ?_
 refine Af (Ad ?_)
 refine AA F Aa (fun hb => ?_) fun hb => ?_
 ·
  have H := AK hb H
  rw [hb] at F
  clear hb
  refine Ak (Ae ?_)
  refine ls F W Aa (Ah F Aa).q fun a w F W => ?_
  iterate 2 refine ls F W Aa (Ag F Aa).q fun a w F W => ?_
  refine Af (Ad (Ax (AD ?_)))
  have H := AL H
  subst H
  refine ER (.inl Aa) F W Aa (Av F Aa) (Av F Aa) ?_
  have W := W.freeze
  have W := W.sub (M' := []) (Z' := [BM v4.1 Bc x1]) (List.nil_sublist _) (List.Sublist.refl _)
  exact ⟨(v4.1), Aa, W⟩
 have H := AJ (by rw [hb]; decide) H
 rw [hb] at F
 clear hb
 refine Ay (Ad (Ak (Ak (Ae ?_))))
 refine ls F W Aa (Al Gf Aa Aa Aa T3 F Aa 0 Aa).q fun a w F W => ?_
 refine ls F W Aa (As (v := Value.int .i64 p1.1) 0 F Aa Aa T3 Aa).q fun a w F W => ?_
 refine Af (Ad (AC (Ak (Ae ?_))))
 refine ls F W Aa (BJ F Aa Aa).q fun a w F W => ?_
 refine ls F W Aa (Ag F Aa).q fun a w F W => ?_
 refine Af (Ad ?_)
 refine AA F Aa (fun hb => ?_) fun hb => ?_
 ·
  have H := AK (Bi hb) H
  rw [hb] at F
  clear hb
  refine Ak (Ae ?_)
  refine ls F W Aa (Ah F Aa).q fun a w F W => ?_
  refine ls F W Aa (As (v := Value.agg #[.int .i64 p1.1, .int .i64 p1.2.1.1, .int .i64 p1.2.1.2.1.1, .int .i64 p1.2.1.2.1.2.1.1, .int .i64 p1.2.1.2.1.2.1.2.1, .int .i64 p1.2.1.2.1.2.1.2.2.1, .int .i64 p1.2.1.2.1.2.1.2.2.2, .int .i64 p1.2.1.2.1.2.2.1, .int .i64 p1.2.1.2.1.2.2.2.1, .int .i64 p1.2.1.2.1.2.2.2.2.1, .int .i64 p1.2.1.2.1.2.2.2.2.2, v2, .bool p1.2.2]) 0 F Aa Aa On Aa).q fun a w F W => ?_
  refine ls F W Aa (Ah F Aa).q fun a w F W => ?_
  obtain ⟨x3, h4, H⟩ := Ap H
  obtain ⟨x4, h5, H⟩ := Ap H
  refine Bp (Ml := []) (Zl := [row v4.1 40 Bc x1]) (M := [(b1, [.int .i64 p1.1, .int .i64 p1.2.1.1, .int .i64 p1.2.1.2.1.1, .int .i64 p1.2.1.2.1.2.1.1, .int .i64 p1.2.1.2.1.2.1.2.1, .int .i64 p1.2.1.2.1.2.1.2.2.1, .int .i64 p1.2.1.2.1.2.1.2.2.2, .int .i64 p1.2.1.2.1.2.2.1, .int .i64 p1.2.1.2.1.2.2.2.1, .int .i64 p1.2.1.2.1.2.2.2.2.1, .int .i64 p1.2.1.2.1.2.2.2.2.2, v2, .bool p1.2.2])]) (Z := []) (β := Value) (rv := fun x => .tuple #[x, .int .i64 x4.2]) (MM := fun x => []) (ZZ := fun x => [BM x Bc x4.1]) F W PN Aa Aa (fun hL => JJ _ _ w (v4.1) (v2) x1 p1 p3 _ h5 (LD h4 v4.2) (W.old s_v2) hL) fun x a w F W => ?_
  obtain ⟨v5, rfl⟩ : ∃ y, y = x := ⟨x, rfl⟩
  have W : Stw ⟨Y, [], w0⟩ [(b1, [.int .i64 p1.1, .int .i64 p1.2.1.1, .int .i64 p1.2.1.2.1.1, .int .i64 p1.2.1.2.1.2.1.1, .int .i64 p1.2.1.2.1.2.1.2.1, .int .i64 p1.2.1.2.1.2.1.2.2.1, .int .i64 p1.2.1.2.1.2.1.2.2.2, .int .i64 p1.2.1.2.1.2.2.1, .int .i64 p1.2.1.2.1.2.2.2.1, .int .i64 p1.2.1.2.1.2.2.2.2.1, .int .i64 p1.2.1.2.1.2.2.2.2.2, v2, .bool p1.2.2])] [BM v5 Bc x4.1] w := W
  refine ls F W Aa (Ck (v := v5) F Aa Aa).q fun a w F W => ?_
  refine ls F W Aa (Ck (v := Value.int .i64 x4.2) F Aa Aa).q fun a w F W => ?_
  iterate 2 refine ls F W Aa (Ag F Aa).q fun a w F W => ?_
  refine Af (Ad (Ax (AO (AD ?_))))
  have H := AL H
  subst H
  refine ER (.inl Aa) F W Aa (Av F Aa) (Av F Aa) ?_
  have W := W.sub (M' := []) (Z' := [BM v5 Bc x4.1]) (List.nil_sublist _) (List.Sublist.refl _)
  exact ⟨(v5), Aa, W⟩
 have H := AJ (Bh hb) H
 rw [hb] at F
 clear hb
 refine Ak (Ae ?_)
 refine ls F W Aa (BJ F Aa Aa).q fun a w F W => ?_
 refine ls F W Aa (Ag F Aa).q fun a w F W => ?_
 refine Af (Ad ?_)
 refine AA F Aa (fun hb => ?_) fun hb => ?_
 ·
  have H := AK (Bi hb) H
  rw [hb] at F
  clear hb
  refine Ak ?_
  refine E8 [(true, 0), (true, 1), (true, 2), (true, 3), (true, 4), (false, 5), (false, 6), (false, 7), (false, 8)] (CN ⟨Y, [], w0⟩ [(some 6, b1, [.int .i64 p1.1, .int .i64 p1.2.1.1, .int .i64 p1.2.1.2.1.1, .int .i64 p1.2.1.2.1.2.1.1, .int .i64 p1.2.1.2.1.2.1.2.1, .int .i64 p1.2.1.2.1.2.1.2.2.1, .int .i64 p1.2.1.2.1.2.1.2.2.2, .int .i64 p1.2.1.2.1.2.2.1, .int .i64 p1.2.1.2.1.2.2.2.1, .int .i64 p1.2.1.2.1.2.2.2.2.1, .int .i64 p1.2.1.2.1.2.2.2.2.2, v2, .bool p1.2.2]), (some 5, b1, [.int .i64 p1.1, .int .i64 p1.2.1.1, .int .i64 p1.2.1.2.1.1, .int .i64 p1.2.1.2.1.2.1.1, .int .i64 p1.2.1.2.1.2.1.2.1, .int .i64 p1.2.1.2.1.2.1.2.2.1, .int .i64 p1.2.1.2.1.2.1.2.2.2, .int .i64 p1.2.1.2.1.2.2.1, .int .i64 p1.2.1.2.1.2.2.2.1, .int .i64 p1.2.1.2.1.2.2.2.2.1, .int .i64 p1.2.1.2.1.2.2.2.2.2, v2, .bool p1.2.2])] []) (fun ch a d v w h => by cases d <;> exact h) MO (by kernel_rfl) W (fun w W => ⟨_, _, W, (all_cons (fun _ => (.head _)) (all_cons (fun _ => (.head _)) AB)), AB⟩) fun w W => ?_
  refine CK (R := []) F Aa Aa (yC fun M Z hN hZ => Ah F Aa) Aa Aa fun a F => ?_
  refine CK (R := []) F Aa Aa (yC fun M Z hN hZ => Al Gf Aa Aa Aa C6 F Aa 1 Aa) Aa Aa fun a F => ?_
  refine CK (R := [6]) F Aa Aa (yC fun M Z hN hZ => C8 (cs := [.int .i64 p1.1, .int .i64 p1.2.1.1, .int .i64 p1.2.1.2.1.1, .int .i64 p1.2.1.2.1.2.1.1, .int .i64 p1.2.1.2.1.2.1.2.1, .int .i64 p1.2.1.2.1.2.1.2.2.1, .int .i64 p1.2.1.2.1.2.1.2.2.2, .int .i64 p1.2.1.2.1.2.2.1, .int .i64 p1.2.1.2.1.2.2.2.1, .int .i64 p1.2.1.2.1.2.2.2.2.1, .int .i64 p1.2.1.2.1.2.2.2.2.2, v2, .bool p1.2.2]) (v := Value.agg #[.int .i64 p1.2.1.1, .int .i64 p1.2.1.2.1.1, .int .i64 p1.2.1.2.1.2.1.1, .int .i64 p1.2.1.2.1.2.1.2.1, .int .i64 p1.2.1.2.1.2.1.2.2.1, .int .i64 p1.2.1.2.1.2.1.2.2.2, .int .i64 p1.2.1.2.1.2.2.1, .int .i64 p1.2.1.2.1.2.2.2.1, .int .i64 p1.2.1.2.1.2.2.2.2.1, .int .i64 p1.2.1.2.1.2.2.2.2.2, v2]) F Aa (hN ((some 6), b1, [.int .i64 p1.1, .int .i64 p1.2.1.1, .int .i64 p1.2.1.2.1.1, .int .i64 p1.2.1.2.1.2.1.1, .int .i64 p1.2.1.2.1.2.1.2.1, .int .i64 p1.2.1.2.1.2.1.2.2.1, .int .i64 p1.2.1.2.1.2.1.2.2.2, .int .i64 p1.2.1.2.1.2.2.1, .int .i64 p1.2.1.2.1.2.2.2.1, .int .i64 p1.2.1.2.1.2.2.2.2.1, .int .i64 p1.2.1.2.1.2.2.2.2.2, v2, .bool p1.2.2]) (.head _) Aa) C6 Aa) (by kernel_rfl) Aa fun a F => ?_
  refine CK (R := []) F Aa Aa (yC fun M Z hN hZ => Al Gf Aa Aa Aa C6 F Aa 1 Aa) Aa Aa fun a F => ?_
  refine CK (R := [5]) F Aa Aa (yC fun M Z hN hZ => C8 (cs := [.int .i64 p1.1, .int .i64 p1.2.1.1, .int .i64 p1.2.1.2.1.1, .int .i64 p1.2.1.2.1.2.1.1, .int .i64 p1.2.1.2.1.2.1.2.1, .int .i64 p1.2.1.2.1.2.1.2.2.1, .int .i64 p1.2.1.2.1.2.1.2.2.2, .int .i64 p1.2.1.2.1.2.2.1, .int .i64 p1.2.1.2.1.2.2.2.1, .int .i64 p1.2.1.2.1.2.2.2.2.1, .int .i64 p1.2.1.2.1.2.2.2.2.2, v2, .bool p1.2.2]) (v := Value.agg #[.int .i64 p1.2.1.1, .int .i64 p1.2.1.2.1.1, .int .i64 p1.2.1.2.1.2.1.1, .int .i64 p1.2.1.2.1.2.1.2.1, .int .i64 p1.2.1.2.1.2.1.2.2.1, .int .i64 p1.2.1.2.1.2.1.2.2.2, .int .i64 p1.2.1.2.1.2.2.1, .int .i64 p1.2.1.2.1.2.2.2.1, .int .i64 p1.2.1.2.1.2.2.2.2.1, .int .i64 p1.2.1.2.1.2.2.2.2.2, v2]) F Aa (hN ((some 5), b1, [.int .i64 p1.1, .int .i64 p1.2.1.1, .int .i64 p1.2.1.2.1.1, .int .i64 p1.2.1.2.1.2.1.1, .int .i64 p1.2.1.2.1.2.1.2.1, .int .i64 p1.2.1.2.1.2.1.2.2.1, .int .i64 p1.2.1.2.1.2.1.2.2.2, .int .i64 p1.2.1.2.1.2.2.1, .int .i64 p1.2.1.2.1.2.2.2.1, .int .i64 p1.2.1.2.1.2.2.2.2.1, .int .i64 p1.2.1.2.1.2.2.2.2.2, v2, .bool p1.2.2]) (.tail _ (.head _)) Aa) C6 Aa) (by kernel_rfl) Aa fun a F => ?_
  refine DE Aa ?_
  refine Bp (Ml := []) (Zl := []) (M := [(b1, [.int .i64 p1.1, .int .i64 p1.2.1.1, .int .i64 p1.2.1.2.1.1, .int .i64 p1.2.1.2.1.2.1.1, .int .i64 p1.2.1.2.1.2.1.2.1, .int .i64 p1.2.1.2.1.2.1.2.2.1, .int .i64 p1.2.1.2.1.2.1.2.2.2, .int .i64 p1.2.1.2.1.2.2.1, .int .i64 p1.2.1.2.1.2.2.2.1, .int .i64 p1.2.1.2.1.2.2.2.2.1, .int .i64 p1.2.1.2.1.2.2.2.2.2, v2, .bool p1.2.2])]) (Z := [row v4.1 40 Bc x1]) (β := Nat × Value) (rv := fun x => .func (.func 64) #[] #[.pointer (some ⟨x.1, 0, none⟩)]) (MM := fun x => [(x.1, [.int .i64 ((Aj p1.2.1).1), .int .i64 ((Aj p1.2.1).2.1.1), .int .i64 ((Aj p1.2.1).2.1.2.1.1), .int .i64 ((Aj p1.2.1).2.1.2.1.2.1), .int .i64 ((Aj p1.2.1).2.1.2.1.2.2.1), .int .i64 ((Aj p1.2.1).2.1.2.1.2.2.2), .int .i64 ((Aj p1.2.1).2.1.2.2.1), .int .i64 ((Aj p1.2.1).2.1.2.2.2.1), .int .i64 ((Aj p1.2.1).2.1.2.2.2.2.1), .int .i64 ((Aj p1.2.1).2.1.2.2.2.2.2), x.2])]) (ZZ := fun x => [BM x.2 Bu ((Aj p1.2.1).2.2)]) F W OY Aa Aa (fun hL => Gu _ w (v2) p1.2.1 _ Aa (W.old s_v2)) fun x a w F W => ?_
  obtain ⟨b2, v6⟩ := x
  have W : Stw ⟨Y, [], w0⟩ [(b2, [.int .i64 ((Aj p1.2.1).1), .int .i64 ((Aj p1.2.1).2.1.1), .int .i64 ((Aj p1.2.1).2.1.2.1.1), .int .i64 ((Aj p1.2.1).2.1.2.1.2.1), .int .i64 ((Aj p1.2.1).2.1.2.1.2.2.1), .int .i64 ((Aj p1.2.1).2.1.2.1.2.2.2), .int .i64 ((Aj p1.2.1).2.1.2.2.1), .int .i64 ((Aj p1.2.1).2.1.2.2.2.1), .int .i64 ((Aj p1.2.1).2.1.2.2.2.2.1), .int .i64 ((Aj p1.2.1).2.1.2.2.2.2.2), v6]), (b1, [.int .i64 p1.1, .int .i64 p1.2.1.1, .int .i64 p1.2.1.2.1.1, .int .i64 p1.2.1.2.1.2.1.1, .int .i64 p1.2.1.2.1.2.1.2.1, .int .i64 p1.2.1.2.1.2.1.2.2.1, .int .i64 p1.2.1.2.1.2.1.2.2.2, .int .i64 p1.2.1.2.1.2.2.1, .int .i64 p1.2.1.2.1.2.2.2.1, .int .i64 p1.2.1.2.1.2.2.2.2.1, .int .i64 p1.2.1.2.1.2.2.2.2.2, v2, .bool p1.2.2])] [BM v6 Bu ((Aj p1.2.1).2.2), row v4.1 40 Bc x1] w := W
  refine Bq (N2 := []) (NZ2 := []) (N3 := [(some 6, b1, [.int .i64 p1.1, .int .i64 p1.2.1.1, .int .i64 p1.2.1.2.1.1, .int .i64 p1.2.1.2.1.2.1.1, .int .i64 p1.2.1.2.1.2.1.2.1, .int .i64 p1.2.1.2.1.2.1.2.2.1, .int .i64 p1.2.1.2.1.2.1.2.2.2, .int .i64 p1.2.1.2.1.2.2.1, .int .i64 p1.2.1.2.1.2.2.2.1, .int .i64 p1.2.1.2.1.2.2.2.2.1, .int .i64 p1.2.1.2.1.2.2.2.2.2, v2, .bool p1.2.2]), (some 5, b1, [.int .i64 p1.1, .int .i64 p1.2.1.1, .int .i64 p1.2.1.2.1.1, .int .i64 p1.2.1.2.1.2.1.1, .int .i64 p1.2.1.2.1.2.1.2.1, .int .i64 p1.2.1.2.1.2.1.2.2.1, .int .i64 p1.2.1.2.1.2.1.2.2.2, .int .i64 p1.2.1.2.1.2.2.1, .int .i64 p1.2.1.2.1.2.2.2.1, .int .i64 p1.2.1.2.1.2.2.2.2.1, .int .i64 p1.2.1.2.1.2.2.2.2.2, v2, .bool p1.2.2])]) (NZ3 := []) W Aa Aa (all_cons (fun _ => (.tail _ (.head _))) (all_cons (fun h => AE (by kernel_rfl) h) AB)) AB ?_
  refine DE Aa ?_
  obtain ⟨x5, h6, H⟩ := Ap H
  have W := W.frontZ (i := 1) Aa Aa
  refine Bp (Ml := []) (Zl := [row v4.1 40 Bc x1]) (M := [(b2, [.int .i64 ((Aj p1.2.1).1), .int .i64 ((Aj p1.2.1).2.1.1), .int .i64 ((Aj p1.2.1).2.1.2.1.1), .int .i64 ((Aj p1.2.1).2.1.2.1.2.1), .int .i64 ((Aj p1.2.1).2.1.2.1.2.2.1), .int .i64 ((Aj p1.2.1).2.1.2.1.2.2.2), .int .i64 ((Aj p1.2.1).2.1.2.2.1), .int .i64 ((Aj p1.2.1).2.1.2.2.2.1), .int .i64 ((Aj p1.2.1).2.1.2.2.2.2.1), .int .i64 ((Aj p1.2.1).2.1.2.2.2.2.2), v6]), (b1, [.int .i64 p1.1, .int .i64 p1.2.1.1, .int .i64 p1.2.1.2.1.1, .int .i64 p1.2.1.2.1.2.1.1, .int .i64 p1.2.1.2.1.2.1.2.1, .int .i64 p1.2.1.2.1.2.1.2.2.1, .int .i64 p1.2.1.2.1.2.1.2.2.2, .int .i64 p1.2.1.2.1.2.2.1, .int .i64 p1.2.1.2.1.2.2.2.1, .int .i64 p1.2.1.2.1.2.2.2.2.1, .int .i64 p1.2.1.2.1.2.2.2.2.2, v2, .bool p1.2.2])]) (Z := [BM v6 Bu ((Aj p1.2.1).2.2)]) (β := Value) (rv := fun x => x) (MM := fun x => []) (ZZ := fun x => [row x 40 Bc x5]) F W OC Aa Aa (fun hL => GY _ _ w (v4.1) (v2) b2 (v6) x1 p1.2.1 ((Aj p1.2.1).1, ((Aj p1.2.1).2.1.1, ((Aj p1.2.1).2.1.2.1.1, (Aj p1.2.1).2.1.2.1.2.1, (Aj p1.2.1).2.1.2.1.2.2.1, (Aj p1.2.1).2.1.2.1.2.2.2), ((Aj p1.2.1).2.1.2.2.1, (Aj p1.2.1).2.1.2.2.2.1, (Aj p1.2.1).2.1.2.2.2.2.1, (Aj p1.2.1).2.1.2.2.2.2.2)), (Aj p1.2.1).2.2) _ h6 (W.old s_v2) (Sl.nxF (W.item (i := 1) Aa) (fun g hg => Ha hg)) (JD (Ml := []) (Zl := [row v4.1 40 Bc x1]) W 0 Aa) hL) fun x a w F W => ?_
  obtain ⟨v7, rfl⟩ : ∃ y, y = x := ⟨x, rfl⟩
  have W : Stw ⟨Y, [], w0⟩ [(b2, [.int .i64 ((Aj p1.2.1).1), .int .i64 ((Aj p1.2.1).2.1.1), .int .i64 ((Aj p1.2.1).2.1.2.1.1), .int .i64 ((Aj p1.2.1).2.1.2.1.2.1), .int .i64 ((Aj p1.2.1).2.1.2.1.2.2.1), .int .i64 ((Aj p1.2.1).2.1.2.1.2.2.2), .int .i64 ((Aj p1.2.1).2.1.2.2.1), .int .i64 ((Aj p1.2.1).2.1.2.2.2.1), .int .i64 ((Aj p1.2.1).2.1.2.2.2.2.1), .int .i64 ((Aj p1.2.1).2.1.2.2.2.2.2), v6]), (b1, [.int .i64 p1.1, .int .i64 p1.2.1.1, .int .i64 p1.2.1.2.1.1, .int .i64 p1.2.1.2.1.2.1.1, .int .i64 p1.2.1.2.1.2.1.2.1, .int .i64 p1.2.1.2.1.2.1.2.2.1, .int .i64 p1.2.1.2.1.2.1.2.2.2, .int .i64 p1.2.1.2.1.2.2.1, .int .i64 p1.2.1.2.1.2.2.2.1, .int .i64 p1.2.1.2.1.2.2.2.2.1, .int .i64 p1.2.1.2.1.2.2.2.2.2, v2, .bool p1.2.2])] [row v7 40 Bc x5, BM v6 Bu ((Aj p1.2.1).2.2)] w := W
  refine Bq (N2 := []) (NZ2 := []) (N3 := [(some 6, b1, [.int .i64 p1.1, .int .i64 p1.2.1.1, .int .i64 p1.2.1.2.1.1, .int .i64 p1.2.1.2.1.2.1.1, .int .i64 p1.2.1.2.1.2.1.2.1, .int .i64 p1.2.1.2.1.2.1.2.2.1, .int .i64 p1.2.1.2.1.2.1.2.2.2, .int .i64 p1.2.1.2.1.2.2.1, .int .i64 p1.2.1.2.1.2.2.2.1, .int .i64 p1.2.1.2.1.2.2.2.2.1, .int .i64 p1.2.1.2.1.2.2.2.2.2, v2, .bool p1.2.2]), (some 5, b1, [.int .i64 p1.1, .int .i64 p1.2.1.1, .int .i64 p1.2.1.2.1.1, .int .i64 p1.2.1.2.1.2.1.1, .int .i64 p1.2.1.2.1.2.1.2.1, .int .i64 p1.2.1.2.1.2.1.2.2.1, .int .i64 p1.2.1.2.1.2.1.2.2.2, .int .i64 p1.2.1.2.1.2.2.1, .int .i64 p1.2.1.2.1.2.2.2.1, .int .i64 p1.2.1.2.1.2.2.2.2.1, .int .i64 p1.2.1.2.1.2.2.2.2.2, v2, .bool p1.2.2])]) (NZ3 := []) W Aa Aa (all_cons (fun h => AE (by kernel_rfl) h) (all_cons (fun h => AE (by kernel_rfl) h) AB)) AB ?_
  refine DE Aa ?_
  refine ls F W Aa (Ag F Aa).q fun a w F W => ?_
  refine Bq (N2 := []) (NZ2 := []) (N3 := [(some 6, b1, [.int .i64 p1.1, .int .i64 p1.2.1.1, .int .i64 p1.2.1.2.1.1, .int .i64 p1.2.1.2.1.2.1.1, .int .i64 p1.2.1.2.1.2.1.2.1, .int .i64 p1.2.1.2.1.2.1.2.2.1, .int .i64 p1.2.1.2.1.2.1.2.2.2, .int .i64 p1.2.1.2.1.2.2.1, .int .i64 p1.2.1.2.1.2.2.2.1, .int .i64 p1.2.1.2.1.2.2.2.2.1, .int .i64 p1.2.1.2.1.2.2.2.2.2, v2, .bool p1.2.2]), (some 5, b1, [.int .i64 p1.1, .int .i64 p1.2.1.1, .int .i64 p1.2.1.2.1.1, .int .i64 p1.2.1.2.1.2.1.1, .int .i64 p1.2.1.2.1.2.1.2.1, .int .i64 p1.2.1.2.1.2.1.2.2.1, .int .i64 p1.2.1.2.1.2.1.2.2.2, .int .i64 p1.2.1.2.1.2.2.1, .int .i64 p1.2.1.2.1.2.2.2.1, .int .i64 p1.2.1.2.1.2.2.2.2.1, .int .i64 p1.2.1.2.1.2.2.2.2.2, v2, .bool p1.2.2])]) (NZ3 := []) W Aa Aa (all_cons (fun h => AE (by kernel_rfl) h) (all_cons (fun h => AE (by kernel_rfl) h) AB)) AB ?_
  refine DE Aa ?_
  refine ls F W Aa (Ag F Aa).q fun a w F W => ?_
  refine Bq (N2 := []) (NZ2 := []) (N3 := [(some 6, b1, [.int .i64 p1.1, .int .i64 p1.2.1.1, .int .i64 p1.2.1.2.1.1, .int .i64 p1.2.1.2.1.2.1.1, .int .i64 p1.2.1.2.1.2.1.2.1, .int .i64 p1.2.1.2.1.2.1.2.2.1, .int .i64 p1.2.1.2.1.2.1.2.2.2, .int .i64 p1.2.1.2.1.2.2.1, .int .i64 p1.2.1.2.1.2.2.2.1, .int .i64 p1.2.1.2.1.2.2.2.2.1, .int .i64 p1.2.1.2.1.2.2.2.2.2, v2, .bool p1.2.2]), (some 5, b1, [.int .i64 p1.1, .int .i64 p1.2.1.1, .int .i64 p1.2.1.2.1.1, .int .i64 p1.2.1.2.1.2.1.1, .int .i64 p1.2.1.2.1.2.1.2.1, .int .i64 p1.2.1.2.1.2.1.2.2.1, .int .i64 p1.2.1.2.1.2.1.2.2.2, .int .i64 p1.2.1.2.1.2.2.1, .int .i64 p1.2.1.2.1.2.2.2.1, .int .i64 p1.2.1.2.1.2.2.2.2.1, .int .i64 p1.2.1.2.1.2.2.2.2.2, v2, .bool p1.2.2])]) (NZ3 := []) W Aa Aa (all_cons (fun h => AE (by kernel_rfl) h) (all_cons (fun h => AE (by kernel_rfl) h) AB)) AB ?_
  refine F7 (Ad (Ax (AO (AD ?_))))
  have H := AL H
  subst H
  refine ER (.inl Aa) F W Aa (Av F Aa) (Av F Aa) ?_
  have W := W.freeze
  have W := W.sub (M' := []) (Z' := [BM v7 Bc x5]) (List.nil_sublist _) (List.Sublist.cons_cons _ (List.nil_sublist _))
  exact ⟨(v7), Aa, W⟩
 have H := AJ (Bh hb) H
 rw [hb] at F
 clear hb
 refine Ak (Ae ?_)
 refine ls F W Aa (BJ F Aa Aa).q fun a w F W => ?_
 refine ls F W Aa (Ag F Aa).q fun a w F W => ?_
 refine Af (Ad ?_)
 refine AA F Aa (fun hb => ?_) fun hb => ?_
 ·
  have H := AK (Bi hb) H
  rw [hb] at F
  clear hb
  refine Ak (Ak (Ae ?_))
  refine ls F W Aa (Ah F Aa).q fun a w F W => ?_
  refine ls F W Aa (Al Gf Aa Aa Aa C6 F Aa 1 Aa).q fun a w F W => ?_
  refine ls F W Aa (As (v := Value.agg #[.int .i64 p1.2.1.1, .int .i64 p1.2.1.2.1.1, .int .i64 p1.2.1.2.1.2.1.1, .int .i64 p1.2.1.2.1.2.1.2.1, .int .i64 p1.2.1.2.1.2.1.2.2.1, .int .i64 p1.2.1.2.1.2.1.2.2.2, .int .i64 p1.2.1.2.1.2.2.1, .int .i64 p1.2.1.2.1.2.2.2.1, .int .i64 p1.2.1.2.1.2.2.2.2.1, .int .i64 p1.2.1.2.1.2.2.2.2.2, v2]) 0 F Aa Aa C6 Aa).q fun a w F W => ?_
  refine Bp (Ml := []) (Zl := []) (M := [(b1, [.int .i64 p1.1, .int .i64 p1.2.1.1, .int .i64 p1.2.1.2.1.1, .int .i64 p1.2.1.2.1.2.1.1, .int .i64 p1.2.1.2.1.2.1.2.1, .int .i64 p1.2.1.2.1.2.1.2.2.1, .int .i64 p1.2.1.2.1.2.1.2.2.2, .int .i64 p1.2.1.2.1.2.2.1, .int .i64 p1.2.1.2.1.2.2.2.1, .int .i64 p1.2.1.2.1.2.2.2.2.1, .int .i64 p1.2.1.2.1.2.2.2.2.2, v2, .bool p1.2.2])]) (Z := [row v4.1 40 Bc x1]) (β := Nat × Value) (rv := fun x => .func (.func 66) #[] #[.pointer (some ⟨x.1, 0, none⟩)]) (MM := fun x => [(x.1, [.int .i64 ((Ab p1.2.1).1), .int .i64 ((Ab p1.2.1).2.1.1), .int .i64 ((Ab p1.2.1).2.1.2.1.1), .int .i64 ((Ab p1.2.1).2.1.2.1.2.1), .int .i64 ((Ab p1.2.1).2.1.2.1.2.2.1), .int .i64 ((Ab p1.2.1).2.1.2.1.2.2.2), .int .i64 ((Ab p1.2.1).2.1.2.2.1), .int .i64 ((Ab p1.2.1).2.1.2.2.2.1), .int .i64 ((Ab p1.2.1).2.1.2.2.2.2.1), .int .i64 ((Ab p1.2.1).2.1.2.2.2.2.2), x.2])]) (ZZ := fun x => [BM x.2 Bu ((Ab p1.2.1).2.2)]) F W NO Aa Aa (fun hL => Db _ w (v2) p1.2.1 _ Aa (W.old s_v2)) fun x a w F W => ?_
  obtain ⟨b3, v8⟩ := x
  have W : Stw ⟨Y, [], w0⟩ [(b3, [.int .i64 ((Ab p1.2.1).1), .int .i64 ((Ab p1.2.1).2.1.1), .int .i64 ((Ab p1.2.1).2.1.2.1.1), .int .i64 ((Ab p1.2.1).2.1.2.1.2.1), .int .i64 ((Ab p1.2.1).2.1.2.1.2.2.1), .int .i64 ((Ab p1.2.1).2.1.2.1.2.2.2), .int .i64 ((Ab p1.2.1).2.1.2.2.1), .int .i64 ((Ab p1.2.1).2.1.2.2.2.1), .int .i64 ((Ab p1.2.1).2.1.2.2.2.2.1), .int .i64 ((Ab p1.2.1).2.1.2.2.2.2.2), v8]), (b1, [.int .i64 p1.1, .int .i64 p1.2.1.1, .int .i64 p1.2.1.2.1.1, .int .i64 p1.2.1.2.1.2.1.1, .int .i64 p1.2.1.2.1.2.1.2.1, .int .i64 p1.2.1.2.1.2.1.2.2.1, .int .i64 p1.2.1.2.1.2.1.2.2.2, .int .i64 p1.2.1.2.1.2.2.1, .int .i64 p1.2.1.2.1.2.2.2.1, .int .i64 p1.2.1.2.1.2.2.2.2.1, .int .i64 p1.2.1.2.1.2.2.2.2.2, v2, .bool p1.2.2])] [BM v8 Bu ((Ab p1.2.1).2.2), row v4.1 40 Bc x1] w := W
  obtain ⟨x6, h7, H⟩ := Ap H
  refine ls F W Aa (AY (v := Value.bool x6) F Ol Aa (fun w W => BE any w (v4.1) b3 (v8) x1 ((Ab p1.2.1).1, ((Ab p1.2.1).2.1.1, ((Ab p1.2.1).2.1.2.1.1, (Ab p1.2.1).2.1.2.1.2.1, (Ab p1.2.1).2.1.2.1.2.2.1, (Ab p1.2.1).2.1.2.1.2.2.2), ((Ab p1.2.1).2.1.2.2.1, (Ab p1.2.1).2.1.2.2.2.1, (Ab p1.2.1).2.1.2.2.2.2.1, (Ab p1.2.1).2.1.2.2.2.2.2)), (Ab p1.2.1).2.2) _ h7 (((Bg 1 Aa) : CV _ _ _ _ _ _) w W).nx (((CH 0 Aa) : CV _ _ _ _ _ _) w W).nx (Ki W 0 Aa))) fun a w F W => ?_
  refine ls F W Aa (E9 F Aa).q fun a w F W => ?_
  refine Af (Ad ?_)
  refine AA F Aa (fun hb => ?_) fun hb => ?_
  ·
   have H := AK hb H
   rw [hb] at F
   clear hb
   refine Ak (Ae ?_)
   refine ls F W Aa (Ah F Aa).q fun a w F W => ?_
   iterate 2 refine ls F W Aa (Ag F Aa).q fun a w F W => ?_
   refine Af (Ad (Ax (AD (AO (AD ?_)))))
   have H := AL H
   subst H
   refine ER (.inl Aa) F W Aa (Av F Aa) (Av F Aa) ?_
   have W := W.frontZ (i := 1) Aa Aa
   have W := W.freeze
   have W := W.sub (M' := []) (Z' := [BM v4.1 Bc x1]) (List.nil_sublist _) (List.Sublist.cons_cons _ (List.nil_sublist _))
   exact ⟨(v4.1), Aa, W⟩
  have H := AJ (by rw [hb]; decide) H
  rw [hb] at F
  clear hb
  refine Ay (Ad (Ak ?_))
  refine E8 [(true, 0), (true, 1), (true, 2), (true, 3), (true, 4), (false, 5), (false, 6), (false, 7), (false, 8)] (CN ⟨Y, [], w0⟩ [(some 6, b1, [.int .i64 p1.1, .int .i64 p1.2.1.1, .int .i64 p1.2.1.2.1.1, .int .i64 p1.2.1.2.1.2.1.1, .int .i64 p1.2.1.2.1.2.1.2.1, .int .i64 p1.2.1.2.1.2.1.2.2.1, .int .i64 p1.2.1.2.1.2.1.2.2.2, .int .i64 p1.2.1.2.1.2.2.1, .int .i64 p1.2.1.2.1.2.2.2.1, .int .i64 p1.2.1.2.1.2.2.2.2.1, .int .i64 p1.2.1.2.1.2.2.2.2.2, v2, .bool p1.2.2]), (some 5, b1, [.int .i64 p1.1, .int .i64 p1.2.1.1, .int .i64 p1.2.1.2.1.1, .int .i64 p1.2.1.2.1.2.1.1, .int .i64 p1.2.1.2.1.2.1.2.1, .int .i64 p1.2.1.2.1.2.1.2.2.1, .int .i64 p1.2.1.2.1.2.1.2.2.2, .int .i64 p1.2.1.2.1.2.2.1, .int .i64 p1.2.1.2.1.2.2.2.1, .int .i64 p1.2.1.2.1.2.2.2.2.1, .int .i64 p1.2.1.2.1.2.2.2.2.2, v2, .bool p1.2.2])] []) (fun ch a d v w h => by cases d <;> exact h) MO (by kernel_rfl) W (fun w W => ⟨_, _, W, (all_cons (fun _ => (.tail _ (.head _))) (all_cons (fun _ => (.tail _ (.head _))) AB)), AB⟩) fun w W => ?_
  refine CK (R := []) F Aa Aa (yC fun M Z hN hZ => Ah F Aa) Aa Aa fun a F => ?_
  refine CK (R := []) F Aa Aa (yC fun M Z hN hZ => Al Gf Aa Aa Aa C6 F Aa 1 Aa) Aa Aa fun a F => ?_
  refine CK (R := [6]) F Aa Aa (yC fun M Z hN hZ => C8 (cs := [.int .i64 p1.1, .int .i64 p1.2.1.1, .int .i64 p1.2.1.2.1.1, .int .i64 p1.2.1.2.1.2.1.1, .int .i64 p1.2.1.2.1.2.1.2.1, .int .i64 p1.2.1.2.1.2.1.2.2.1, .int .i64 p1.2.1.2.1.2.1.2.2.2, .int .i64 p1.2.1.2.1.2.2.1, .int .i64 p1.2.1.2.1.2.2.2.1, .int .i64 p1.2.1.2.1.2.2.2.2.1, .int .i64 p1.2.1.2.1.2.2.2.2.2, v2, .bool p1.2.2]) (v := Value.agg #[.int .i64 p1.2.1.1, .int .i64 p1.2.1.2.1.1, .int .i64 p1.2.1.2.1.2.1.1, .int .i64 p1.2.1.2.1.2.1.2.1, .int .i64 p1.2.1.2.1.2.1.2.2.1, .int .i64 p1.2.1.2.1.2.1.2.2.2, .int .i64 p1.2.1.2.1.2.2.1, .int .i64 p1.2.1.2.1.2.2.2.1, .int .i64 p1.2.1.2.1.2.2.2.2.1, .int .i64 p1.2.1.2.1.2.2.2.2.2, v2]) F Aa (hN ((some 6), b1, [.int .i64 p1.1, .int .i64 p1.2.1.1, .int .i64 p1.2.1.2.1.1, .int .i64 p1.2.1.2.1.2.1.1, .int .i64 p1.2.1.2.1.2.1.2.1, .int .i64 p1.2.1.2.1.2.1.2.2.1, .int .i64 p1.2.1.2.1.2.1.2.2.2, .int .i64 p1.2.1.2.1.2.2.1, .int .i64 p1.2.1.2.1.2.2.2.1, .int .i64 p1.2.1.2.1.2.2.2.2.1, .int .i64 p1.2.1.2.1.2.2.2.2.2, v2, .bool p1.2.2]) (.head _) Aa) C6 Aa) (by kernel_rfl) Aa fun a F => ?_
  refine CK (R := []) F Aa Aa (yC fun M Z hN hZ => Al Gf Aa Aa Aa C6 F Aa 1 Aa) Aa Aa fun a F => ?_
  refine CK (R := [5]) F Aa Aa (yC fun M Z hN hZ => C8 (cs := [.int .i64 p1.1, .int .i64 p1.2.1.1, .int .i64 p1.2.1.2.1.1, .int .i64 p1.2.1.2.1.2.1.1, .int .i64 p1.2.1.2.1.2.1.2.1, .int .i64 p1.2.1.2.1.2.1.2.2.1, .int .i64 p1.2.1.2.1.2.1.2.2.2, .int .i64 p1.2.1.2.1.2.2.1, .int .i64 p1.2.1.2.1.2.2.2.1, .int .i64 p1.2.1.2.1.2.2.2.2.1, .int .i64 p1.2.1.2.1.2.2.2.2.2, v2, .bool p1.2.2]) (v := Value.agg #[.int .i64 p1.2.1.1, .int .i64 p1.2.1.2.1.1, .int .i64 p1.2.1.2.1.2.1.1, .int .i64 p1.2.1.2.1.2.1.2.1, .int .i64 p1.2.1.2.1.2.1.2.2.1, .int .i64 p1.2.1.2.1.2.1.2.2.2, .int .i64 p1.2.1.2.1.2.2.1, .int .i64 p1.2.1.2.1.2.2.2.1, .int .i64 p1.2.1.2.1.2.2.2.2.1, .int .i64 p1.2.1.2.1.2.2.2.2.2, v2]) F Aa (hN ((some 5), b1, [.int .i64 p1.1, .int .i64 p1.2.1.1, .int .i64 p1.2.1.2.1.1, .int .i64 p1.2.1.2.1.2.1.1, .int .i64 p1.2.1.2.1.2.1.2.1, .int .i64 p1.2.1.2.1.2.1.2.2.1, .int .i64 p1.2.1.2.1.2.1.2.2.2, .int .i64 p1.2.1.2.1.2.2.1, .int .i64 p1.2.1.2.1.2.2.2.1, .int .i64 p1.2.1.2.1.2.2.2.2.1, .int .i64 p1.2.1.2.1.2.2.2.2.2, v2, .bool p1.2.2]) (.tail _ (.head _)) Aa) C6 Aa) (by kernel_rfl) Aa fun a F => ?_
  refine DE Aa ?_
  refine Bp (Ml := []) (Zl := []) (M := [(b3, [.int .i64 ((Ab p1.2.1).1), .int .i64 ((Ab p1.2.1).2.1.1), .int .i64 ((Ab p1.2.1).2.1.2.1.1), .int .i64 ((Ab p1.2.1).2.1.2.1.2.1), .int .i64 ((Ab p1.2.1).2.1.2.1.2.2.1), .int .i64 ((Ab p1.2.1).2.1.2.1.2.2.2), .int .i64 ((Ab p1.2.1).2.1.2.2.1), .int .i64 ((Ab p1.2.1).2.1.2.2.2.1), .int .i64 ((Ab p1.2.1).2.1.2.2.2.2.1), .int .i64 ((Ab p1.2.1).2.1.2.2.2.2.2), v8]), (b1, [.int .i64 p1.1, .int .i64 p1.2.1.1, .int .i64 p1.2.1.2.1.1, .int .i64 p1.2.1.2.1.2.1.1, .int .i64 p1.2.1.2.1.2.1.2.1, .int .i64 p1.2.1.2.1.2.1.2.2.1, .int .i64 p1.2.1.2.1.2.1.2.2.2, .int .i64 p1.2.1.2.1.2.2.1, .int .i64 p1.2.1.2.1.2.2.2.1, .int .i64 p1.2.1.2.1.2.2.2.2.1, .int .i64 p1.2.1.2.1.2.2.2.2.2, v2, .bool p1.2.2])]) (Z := [BM v8 Bu ((Ab p1.2.1).2.2), row v4.1 40 Bc x1]) (β := Nat × Value) (rv := fun x => .func (.func 66) #[] #[.pointer (some ⟨x.1, 0, none⟩)]) (MM := fun x => [(x.1, [.int .i64 ((Ab p1.2.1).1), .int .i64 ((Ab p1.2.1).2.1.1), .int .i64 ((Ab p1.2.1).2.1.2.1.1), .int .i64 ((Ab p1.2.1).2.1.2.1.2.1), .int .i64 ((Ab p1.2.1).2.1.2.1.2.2.1), .int .i64 ((Ab p1.2.1).2.1.2.1.2.2.2), .int .i64 ((Ab p1.2.1).2.1.2.2.1), .int .i64 ((Ab p1.2.1).2.1.2.2.2.1), .int .i64 ((Ab p1.2.1).2.1.2.2.2.2.1), .int .i64 ((Ab p1.2.1).2.1.2.2.2.2.2), x.2])]) (ZZ := fun x => [BM x.2 Bu ((Ab p1.2.1).2.2)]) F W NO Aa Aa (fun hL => Db _ w (v2) p1.2.1 _ Aa (W.old s_v2)) fun x a w F W => ?_
  obtain ⟨b4, v9⟩ := x
  have W : Stw ⟨Y, [], w0⟩ [(b4, [.int .i64 ((Ab p1.2.1).1), .int .i64 ((Ab p1.2.1).2.1.1), .int .i64 ((Ab p1.2.1).2.1.2.1.1), .int .i64 ((Ab p1.2.1).2.1.2.1.2.1), .int .i64 ((Ab p1.2.1).2.1.2.1.2.2.1), .int .i64 ((Ab p1.2.1).2.1.2.1.2.2.2), .int .i64 ((Ab p1.2.1).2.1.2.2.1), .int .i64 ((Ab p1.2.1).2.1.2.2.2.1), .int .i64 ((Ab p1.2.1).2.1.2.2.2.2.1), .int .i64 ((Ab p1.2.1).2.1.2.2.2.2.2), v9]), (b3, [.int .i64 ((Ab p1.2.1).1), .int .i64 ((Ab p1.2.1).2.1.1), .int .i64 ((Ab p1.2.1).2.1.2.1.1), .int .i64 ((Ab p1.2.1).2.1.2.1.2.1), .int .i64 ((Ab p1.2.1).2.1.2.1.2.2.1), .int .i64 ((Ab p1.2.1).2.1.2.1.2.2.2), .int .i64 ((Ab p1.2.1).2.1.2.2.1), .int .i64 ((Ab p1.2.1).2.1.2.2.2.1), .int .i64 ((Ab p1.2.1).2.1.2.2.2.2.1), .int .i64 ((Ab p1.2.1).2.1.2.2.2.2.2), v8]), (b1, [.int .i64 p1.1, .int .i64 p1.2.1.1, .int .i64 p1.2.1.2.1.1, .int .i64 p1.2.1.2.1.2.1.1, .int .i64 p1.2.1.2.1.2.1.2.1, .int .i64 p1.2.1.2.1.2.1.2.2.1, .int .i64 p1.2.1.2.1.2.1.2.2.2, .int .i64 p1.2.1.2.1.2.2.1, .int .i64 p1.2.1.2.1.2.2.2.1, .int .i64 p1.2.1.2.1.2.2.2.2.1, .int .i64 p1.2.1.2.1.2.2.2.2.2, v2, .bool p1.2.2])] [BM v9 Bu ((Ab p1.2.1).2.2), BM v8 Bu ((Ab p1.2.1).2.2), row v4.1 40 Bc x1] w := W
  refine Bq (N2 := []) (NZ2 := []) (N3 := [(some 6, b1, [.int .i64 p1.1, .int .i64 p1.2.1.1, .int .i64 p1.2.1.2.1.1, .int .i64 p1.2.1.2.1.2.1.1, .int .i64 p1.2.1.2.1.2.1.2.1, .int .i64 p1.2.1.2.1.2.1.2.2.1, .int .i64 p1.2.1.2.1.2.1.2.2.2, .int .i64 p1.2.1.2.1.2.2.1, .int .i64 p1.2.1.2.1.2.2.2.1, .int .i64 p1.2.1.2.1.2.2.2.2.1, .int .i64 p1.2.1.2.1.2.2.2.2.2, v2, .bool p1.2.2]), (some 5, b1, [.int .i64 p1.1, .int .i64 p1.2.1.1, .int .i64 p1.2.1.2.1.1, .int .i64 p1.2.1.2.1.2.1.1, .int .i64 p1.2.1.2.1.2.1.2.1, .int .i64 p1.2.1.2.1.2.1.2.2.1, .int .i64 p1.2.1.2.1.2.1.2.2.2, .int .i64 p1.2.1.2.1.2.2.1, .int .i64 p1.2.1.2.1.2.2.2.1, .int .i64 p1.2.1.2.1.2.2.2.2.1, .int .i64 p1.2.1.2.1.2.2.2.2.2, v2, .bool p1.2.2])]) (NZ3 := []) W Aa Aa (all_cons (fun _ => (.tail _ (.tail _ (.head _)))) (all_cons (fun h => AE (by kernel_rfl) h) AB)) AB ?_
  refine DE Aa ?_
  obtain ⟨x7, h8, H⟩ := Ap H
  have W := W.frontZ (i := 2) Aa Aa
  refine Bp (Ml := []) (Zl := [row v4.1 40 Bc x1]) (M := [(b4, [.int .i64 ((Ab p1.2.1).1), .int .i64 ((Ab p1.2.1).2.1.1), .int .i64 ((Ab p1.2.1).2.1.2.1.1), .int .i64 ((Ab p1.2.1).2.1.2.1.2.1), .int .i64 ((Ab p1.2.1).2.1.2.1.2.2.1), .int .i64 ((Ab p1.2.1).2.1.2.1.2.2.2), .int .i64 ((Ab p1.2.1).2.1.2.2.1), .int .i64 ((Ab p1.2.1).2.1.2.2.2.1), .int .i64 ((Ab p1.2.1).2.1.2.2.2.2.1), .int .i64 ((Ab p1.2.1).2.1.2.2.2.2.2), v9]), (b3, [.int .i64 ((Ab p1.2.1).1), .int .i64 ((Ab p1.2.1).2.1.1), .int .i64 ((Ab p1.2.1).2.1.2.1.1), .int .i64 ((Ab p1.2.1).2.1.2.1.2.1), .int .i64 ((Ab p1.2.1).2.1.2.1.2.2.1), .int .i64 ((Ab p1.2.1).2.1.2.1.2.2.2), .int .i64 ((Ab p1.2.1).2.1.2.2.1), .int .i64 ((Ab p1.2.1).2.1.2.2.2.1), .int .i64 ((Ab p1.2.1).2.1.2.2.2.2.1), .int .i64 ((Ab p1.2.1).2.1.2.2.2.2.2), v8]), (b1, [.int .i64 p1.1, .int .i64 p1.2.1.1, .int .i64 p1.2.1.2.1.1, .int .i64 p1.2.1.2.1.2.1.1, .int .i64 p1.2.1.2.1.2.1.2.1, .int .i64 p1.2.1.2.1.2.1.2.2.1, .int .i64 p1.2.1.2.1.2.1.2.2.2, .int .i64 p1.2.1.2.1.2.2.1, .int .i64 p1.2.1.2.1.2.2.2.1, .int .i64 p1.2.1.2.1.2.2.2.2.1, .int .i64 p1.2.1.2.1.2.2.2.2.2, v2, .bool p1.2.2])]) (Z := [BM v9 Bu ((Ab p1.2.1).2.2), BM v8 Bu ((Ab p1.2.1).2.2)]) (β := Value) (rv := fun x => x) (MM := fun x => []) (ZZ := fun x => [row x 40 Bc x7]) F W OC Aa Aa (fun hL => Ga _ _ w (v4.1) (v2) b4 (v9) x1 p1.2.1 ((Ab p1.2.1).1, ((Ab p1.2.1).2.1.1, ((Ab p1.2.1).2.1.2.1.1, (Ab p1.2.1).2.1.2.1.2.1, (Ab p1.2.1).2.1.2.1.2.2.1, (Ab p1.2.1).2.1.2.1.2.2.2), ((Ab p1.2.1).2.1.2.2.1, (Ab p1.2.1).2.1.2.2.2.1, (Ab p1.2.1).2.1.2.2.2.2.1, (Ab p1.2.1).2.1.2.2.2.2.2)), (Ab p1.2.1).2.2) _ h8 (W.old s_v2) (Sl.nxF (W.item (i := 1) Aa) (fun g hg => Ha hg)) (JD (Ml := []) (Zl := [row v4.1 40 Bc x1]) W 0 Aa) hL) fun x a w F W => ?_
  obtain ⟨v10, rfl⟩ : ∃ y, y = x := ⟨x, rfl⟩
  have W : Stw ⟨Y, [], w0⟩ [(b4, [.int .i64 ((Ab p1.2.1).1), .int .i64 ((Ab p1.2.1).2.1.1), .int .i64 ((Ab p1.2.1).2.1.2.1.1), .int .i64 ((Ab p1.2.1).2.1.2.1.2.1), .int .i64 ((Ab p1.2.1).2.1.2.1.2.2.1), .int .i64 ((Ab p1.2.1).2.1.2.1.2.2.2), .int .i64 ((Ab p1.2.1).2.1.2.2.1), .int .i64 ((Ab p1.2.1).2.1.2.2.2.1), .int .i64 ((Ab p1.2.1).2.1.2.2.2.2.1), .int .i64 ((Ab p1.2.1).2.1.2.2.2.2.2), v9]), (b3, [.int .i64 ((Ab p1.2.1).1), .int .i64 ((Ab p1.2.1).2.1.1), .int .i64 ((Ab p1.2.1).2.1.2.1.1), .int .i64 ((Ab p1.2.1).2.1.2.1.2.1), .int .i64 ((Ab p1.2.1).2.1.2.1.2.2.1), .int .i64 ((Ab p1.2.1).2.1.2.1.2.2.2), .int .i64 ((Ab p1.2.1).2.1.2.2.1), .int .i64 ((Ab p1.2.1).2.1.2.2.2.1), .int .i64 ((Ab p1.2.1).2.1.2.2.2.2.1), .int .i64 ((Ab p1.2.1).2.1.2.2.2.2.2), v8]), (b1, [.int .i64 p1.1, .int .i64 p1.2.1.1, .int .i64 p1.2.1.2.1.1, .int .i64 p1.2.1.2.1.2.1.1, .int .i64 p1.2.1.2.1.2.1.2.1, .int .i64 p1.2.1.2.1.2.1.2.2.1, .int .i64 p1.2.1.2.1.2.1.2.2.2, .int .i64 p1.2.1.2.1.2.2.1, .int .i64 p1.2.1.2.1.2.2.2.1, .int .i64 p1.2.1.2.1.2.2.2.2.1, .int .i64 p1.2.1.2.1.2.2.2.2.2, v2, .bool p1.2.2])] [row v10 40 Bc x7, BM v9 Bu ((Ab p1.2.1).2.2), BM v8 Bu ((Ab p1.2.1).2.2)] w := W
  refine Bq (N2 := []) (NZ2 := []) (N3 := [(some 6, b1, [.int .i64 p1.1, .int .i64 p1.2.1.1, .int .i64 p1.2.1.2.1.1, .int .i64 p1.2.1.2.1.2.1.1, .int .i64 p1.2.1.2.1.2.1.2.1, .int .i64 p1.2.1.2.1.2.1.2.2.1, .int .i64 p1.2.1.2.1.2.1.2.2.2, .int .i64 p1.2.1.2.1.2.2.1, .int .i64 p1.2.1.2.1.2.2.2.1, .int .i64 p1.2.1.2.1.2.2.2.2.1, .int .i64 p1.2.1.2.1.2.2.2.2.2, v2, .bool p1.2.2]), (some 5, b1, [.int .i64 p1.1, .int .i64 p1.2.1.1, .int .i64 p1.2.1.2.1.1, .int .i64 p1.2.1.2.1.2.1.1, .int .i64 p1.2.1.2.1.2.1.2.1, .int .i64 p1.2.1.2.1.2.1.2.2.1, .int .i64 p1.2.1.2.1.2.1.2.2.2, .int .i64 p1.2.1.2.1.2.2.1, .int .i64 p1.2.1.2.1.2.2.2.1, .int .i64 p1.2.1.2.1.2.2.2.2.1, .int .i64 p1.2.1.2.1.2.2.2.2.2, v2, .bool p1.2.2])]) (NZ3 := []) W Aa Aa (all_cons (fun h => AE (by kernel_rfl) h) (all_cons (fun h => AE (by kernel_rfl) h) AB)) AB ?_
  refine DE Aa ?_
  refine ls F W Aa (Ag F Aa).q fun a w F W => ?_
  refine Bq (N2 := []) (NZ2 := []) (N3 := [(some 6, b1, [.int .i64 p1.1, .int .i64 p1.2.1.1, .int .i64 p1.2.1.2.1.1, .int .i64 p1.2.1.2.1.2.1.1, .int .i64 p1.2.1.2.1.2.1.2.1, .int .i64 p1.2.1.2.1.2.1.2.2.1, .int .i64 p1.2.1.2.1.2.1.2.2.2, .int .i64 p1.2.1.2.1.2.2.1, .int .i64 p1.2.1.2.1.2.2.2.1, .int .i64 p1.2.1.2.1.2.2.2.2.1, .int .i64 p1.2.1.2.1.2.2.2.2.2, v2, .bool p1.2.2]), (some 5, b1, [.int .i64 p1.1, .int .i64 p1.2.1.1, .int .i64 p1.2.1.2.1.1, .int .i64 p1.2.1.2.1.2.1.1, .int .i64 p1.2.1.2.1.2.1.2.1, .int .i64 p1.2.1.2.1.2.1.2.2.1, .int .i64 p1.2.1.2.1.2.1.2.2.2, .int .i64 p1.2.1.2.1.2.2.1, .int .i64 p1.2.1.2.1.2.2.2.1, .int .i64 p1.2.1.2.1.2.2.2.2.1, .int .i64 p1.2.1.2.1.2.2.2.2.2, v2, .bool p1.2.2])]) (NZ3 := []) W Aa Aa (all_cons (fun h => AE (by kernel_rfl) h) (all_cons (fun h => AE (by kernel_rfl) h) AB)) AB ?_
  refine DE Aa ?_
  refine ls F W Aa (Ag F Aa).q fun a w F W => ?_
  refine Bq (N2 := []) (NZ2 := []) (N3 := [(some 6, b1, [.int .i64 p1.1, .int .i64 p1.2.1.1, .int .i64 p1.2.1.2.1.1, .int .i64 p1.2.1.2.1.2.1.1, .int .i64 p1.2.1.2.1.2.1.2.1, .int .i64 p1.2.1.2.1.2.1.2.2.1, .int .i64 p1.2.1.2.1.2.1.2.2.2, .int .i64 p1.2.1.2.1.2.2.1, .int .i64 p1.2.1.2.1.2.2.2.1, .int .i64 p1.2.1.2.1.2.2.2.2.1, .int .i64 p1.2.1.2.1.2.2.2.2.2, v2, .bool p1.2.2]), (some 5, b1, [.int .i64 p1.1, .int .i64 p1.2.1.1, .int .i64 p1.2.1.2.1.1, .int .i64 p1.2.1.2.1.2.1.1, .int .i64 p1.2.1.2.1.2.1.2.1, .int .i64 p1.2.1.2.1.2.1.2.2.1, .int .i64 p1.2.1.2.1.2.1.2.2.2, .int .i64 p1.2.1.2.1.2.2.1, .int .i64 p1.2.1.2.1.2.2.2.1, .int .i64 p1.2.1.2.1.2.2.2.2.1, .int .i64 p1.2.1.2.1.2.2.2.2.2, v2, .bool p1.2.2])]) (NZ3 := []) W Aa Aa (all_cons (fun h => AE (by kernel_rfl) h) (all_cons (fun h => AE (by kernel_rfl) h) AB)) AB ?_
  refine F7 (Ad (Ax (AO (AD ?_))))
  have H := AL H
  subst H
  refine ER (.inl Aa) F W Aa (Av F Aa) (Av F Aa) ?_
  have W := W.freeze
  have W := W.sub (M' := []) (Z' := [BM v10 Bc x7]) (List.nil_sublist _) (List.Sublist.cons_cons _ (List.nil_sublist _))
  exact ⟨(v10), Aa, W⟩
 have H := AJ (Bh hb) H
 rw [hb] at F
 clear hb
 refine Ak (Ae ?_)
 refine ls F W Aa (BJ F Aa Aa).q fun a w F W => ?_
 refine ls F W Aa (Ag F Aa).q fun a w F W => ?_
 refine Af (Ad ?_)
 refine AA F Aa (fun hb => ?_) fun hb => ?_
 ·
  have H := AK (Bi hb) H
  rw [hb] at F
  clear hb
  refine Ak (Ae ?_)
  refine ls F W Aa (Ah F Aa).q fun a w F W => ?_
  refine ls F W Aa (Al Gf Aa Aa Aa C6 F Aa 1 Aa).q fun a w F W => ?_
  refine ls F W Aa (As (v := Value.agg #[.int .i64 p1.2.1.1, .int .i64 p1.2.1.2.1.1, .int .i64 p1.2.1.2.1.2.1.1, .int .i64 p1.2.1.2.1.2.1.2.1, .int .i64 p1.2.1.2.1.2.1.2.2.1, .int .i64 p1.2.1.2.1.2.1.2.2.2, .int .i64 p1.2.1.2.1.2.2.1, .int .i64 p1.2.1.2.1.2.2.2.1, .int .i64 p1.2.1.2.1.2.2.2.2.1, .int .i64 p1.2.1.2.1.2.2.2.2.2, v2]) 0 F Aa Aa C6 Aa).q fun a w F W => ?_
  refine Bp (Ml := []) (Zl := []) (M := [(b1, [.int .i64 p1.1, .int .i64 p1.2.1.1, .int .i64 p1.2.1.2.1.1, .int .i64 p1.2.1.2.1.2.1.1, .int .i64 p1.2.1.2.1.2.1.2.1, .int .i64 p1.2.1.2.1.2.1.2.2.1, .int .i64 p1.2.1.2.1.2.1.2.2.2, .int .i64 p1.2.1.2.1.2.2.1, .int .i64 p1.2.1.2.1.2.2.2.1, .int .i64 p1.2.1.2.1.2.2.2.2.1, .int .i64 p1.2.1.2.1.2.2.2.2.2, v2, .bool p1.2.2])]) (Z := [row v4.1 40 Bc x1]) (β := Nat × Value) (rv := fun x => .func (.func 64) #[] #[.pointer (some ⟨x.1, 0, none⟩)]) (MM := fun x => [(x.1, [.int .i64 ((Aj p1.2.1).1), .int .i64 ((Aj p1.2.1).2.1.1), .int .i64 ((Aj p1.2.1).2.1.2.1.1), .int .i64 ((Aj p1.2.1).2.1.2.1.2.1), .int .i64 ((Aj p1.2.1).2.1.2.1.2.2.1), .int .i64 ((Aj p1.2.1).2.1.2.1.2.2.2), .int .i64 ((Aj p1.2.1).2.1.2.2.1), .int .i64 ((Aj p1.2.1).2.1.2.2.2.1), .int .i64 ((Aj p1.2.1).2.1.2.2.2.2.1), .int .i64 ((Aj p1.2.1).2.1.2.2.2.2.2), x.2])]) (ZZ := fun x => [BM x.2 Bu ((Aj p1.2.1).2.2)]) F W OY Aa Aa (fun hL => Gu _ w (v2) p1.2.1 _ Aa (W.old s_v2)) fun x a w F W => ?_
  obtain ⟨b5, v11⟩ := x
  have W : Stw ⟨Y, [], w0⟩ [(b5, [.int .i64 ((Aj p1.2.1).1), .int .i64 ((Aj p1.2.1).2.1.1), .int .i64 ((Aj p1.2.1).2.1.2.1.1), .int .i64 ((Aj p1.2.1).2.1.2.1.2.1), .int .i64 ((Aj p1.2.1).2.1.2.1.2.2.1), .int .i64 ((Aj p1.2.1).2.1.2.1.2.2.2), .int .i64 ((Aj p1.2.1).2.1.2.2.1), .int .i64 ((Aj p1.2.1).2.1.2.2.2.1), .int .i64 ((Aj p1.2.1).2.1.2.2.2.2.1), .int .i64 ((Aj p1.2.1).2.1.2.2.2.2.2), v11]), (b1, [.int .i64 p1.1, .int .i64 p1.2.1.1, .int .i64 p1.2.1.2.1.1, .int .i64 p1.2.1.2.1.2.1.1, .int .i64 p1.2.1.2.1.2.1.2.1, .int .i64 p1.2.1.2.1.2.1.2.2.1, .int .i64 p1.2.1.2.1.2.1.2.2.2, .int .i64 p1.2.1.2.1.2.2.1, .int .i64 p1.2.1.2.1.2.2.2.1, .int .i64 p1.2.1.2.1.2.2.2.2.1, .int .i64 p1.2.1.2.1.2.2.2.2.2, v2, .bool p1.2.2])] [BM v11 Bu ((Aj p1.2.1).2.2), row v4.1 40 Bc x1] w := W
  obtain ⟨x8, h9, H⟩ := Ap H
  have W := W.frontZ (i := 1) Aa Aa
  refine Bp (Ml := []) (Zl := [row v4.1 40 Bc x1]) (M := [(b5, [.int .i64 ((Aj p1.2.1).1), .int .i64 ((Aj p1.2.1).2.1.1), .int .i64 ((Aj p1.2.1).2.1.2.1.1), .int .i64 ((Aj p1.2.1).2.1.2.1.2.1), .int .i64 ((Aj p1.2.1).2.1.2.1.2.2.1), .int .i64 ((Aj p1.2.1).2.1.2.1.2.2.2), .int .i64 ((Aj p1.2.1).2.1.2.2.1), .int .i64 ((Aj p1.2.1).2.1.2.2.2.1), .int .i64 ((Aj p1.2.1).2.1.2.2.2.2.1), .int .i64 ((Aj p1.2.1).2.1.2.2.2.2.2), v11]), (b1, [.int .i64 p1.1, .int .i64 p1.2.1.1, .int .i64 p1.2.1.2.1.1, .int .i64 p1.2.1.2.1.2.1.1, .int .i64 p1.2.1.2.1.2.1.2.1, .int .i64 p1.2.1.2.1.2.1.2.2.1, .int .i64 p1.2.1.2.1.2.1.2.2.2, .int .i64 p1.2.1.2.1.2.2.1, .int .i64 p1.2.1.2.1.2.2.2.1, .int .i64 p1.2.1.2.1.2.2.2.2.1, .int .i64 p1.2.1.2.1.2.2.2.2.2, v2, .bool p1.2.2])]) (Z := [BM v11 Bu ((Aj p1.2.1).2.2)]) (β := Value) (rv := fun x => x) (MM := fun x => []) (ZZ := fun x => [row x 40 Bc x8]) F W O3 Aa Aa (fun hL => DF _ _ w (v4.1) b5 (v11) x1 ((Aj p1.2.1).1, ((Aj p1.2.1).2.1.1, ((Aj p1.2.1).2.1.2.1.1, (Aj p1.2.1).2.1.2.1.2.1, (Aj p1.2.1).2.1.2.1.2.2.1, (Aj p1.2.1).2.1.2.1.2.2.2), ((Aj p1.2.1).2.1.2.2.1, (Aj p1.2.1).2.1.2.2.2.1, (Aj p1.2.1).2.1.2.2.2.2.1, (Aj p1.2.1).2.1.2.2.2.2.2)), (Aj p1.2.1).2.2) _ h9 (Sl.nxF (W.item (i := 1) Aa) (fun g hg => Ha hg)) (JD (Ml := []) (Zl := [row v4.1 40 Bc x1]) W 0 Aa) hL) fun x a w F W => ?_
  obtain ⟨v12, rfl⟩ : ∃ y, y = x := ⟨x, rfl⟩
  have W : Stw ⟨Y, [], w0⟩ [(b5, [.int .i64 ((Aj p1.2.1).1), .int .i64 ((Aj p1.2.1).2.1.1), .int .i64 ((Aj p1.2.1).2.1.2.1.1), .int .i64 ((Aj p1.2.1).2.1.2.1.2.1), .int .i64 ((Aj p1.2.1).2.1.2.1.2.2.1), .int .i64 ((Aj p1.2.1).2.1.2.1.2.2.2), .int .i64 ((Aj p1.2.1).2.1.2.2.1), .int .i64 ((Aj p1.2.1).2.1.2.2.2.1), .int .i64 ((Aj p1.2.1).2.1.2.2.2.2.1), .int .i64 ((Aj p1.2.1).2.1.2.2.2.2.2), v11]), (b1, [.int .i64 p1.1, .int .i64 p1.2.1.1, .int .i64 p1.2.1.2.1.1, .int .i64 p1.2.1.2.1.2.1.1, .int .i64 p1.2.1.2.1.2.1.2.1, .int .i64 p1.2.1.2.1.2.1.2.2.1, .int .i64 p1.2.1.2.1.2.1.2.2.2, .int .i64 p1.2.1.2.1.2.2.1, .int .i64 p1.2.1.2.1.2.2.2.1, .int .i64 p1.2.1.2.1.2.2.2.2.1, .int .i64 p1.2.1.2.1.2.2.2.2.2, v2, .bool p1.2.2])] [row v12 40 Bc x8, BM v11 Bu ((Aj p1.2.1).2.2)] w := W
  iterate 2 refine ls F W Aa (Ag F Aa).q fun a w F W => ?_
  refine Af (Ad (Ax (AO (AD ?_))))
  have H := AL H
  subst H
  refine ER (.inl Aa) F W Aa (Av F Aa) (Av F Aa) ?_
  have W := W.freeze
  have W := W.sub (M' := []) (Z' := [BM v12 Bc x8]) (List.nil_sublist _) (List.Sublist.cons_cons _ (List.nil_sublist _))
  exact ⟨(v12), Aa, W⟩
 have H := AJ (Bh hb) H
 rw [hb] at F
 clear hb
 refine Ak (Ae ?_)
 refine ls F W Aa (BJ F Aa Aa).q fun a w F W => ?_
 refine ls F W Aa (Ag F Aa).q fun a w F W => ?_
 refine Af (Ad ?_)
 refine AA F Aa (fun hb => ?_) fun hb => ?_
 ·
  have H := AK (Bi hb) H
  rw [hb] at F
  clear hb
  refine Ak (Ak (Ae ?_))
  refine ls F W Aa (Ah F Aa).q fun a w F W => ?_
  refine ls F W Aa (Al Gf Aa Aa Aa C6 F Aa 1 Aa).q fun a w F W => ?_
  refine ls F W Aa (As (v := Value.agg #[.int .i64 p1.2.1.1, .int .i64 p1.2.1.2.1.1, .int .i64 p1.2.1.2.1.2.1.1, .int .i64 p1.2.1.2.1.2.1.2.1, .int .i64 p1.2.1.2.1.2.1.2.2.1, .int .i64 p1.2.1.2.1.2.1.2.2.2, .int .i64 p1.2.1.2.1.2.2.1, .int .i64 p1.2.1.2.1.2.2.2.1, .int .i64 p1.2.1.2.1.2.2.2.2.1, .int .i64 p1.2.1.2.1.2.2.2.2.2, v2]) 0 F Aa Aa C6 Aa).q fun a w F W => ?_
  refine Bp (Ml := []) (Zl := []) (M := [(b1, [.int .i64 p1.1, .int .i64 p1.2.1.1, .int .i64 p1.2.1.2.1.1, .int .i64 p1.2.1.2.1.2.1.1, .int .i64 p1.2.1.2.1.2.1.2.1, .int .i64 p1.2.1.2.1.2.1.2.2.1, .int .i64 p1.2.1.2.1.2.1.2.2.2, .int .i64 p1.2.1.2.1.2.2.1, .int .i64 p1.2.1.2.1.2.2.2.1, .int .i64 p1.2.1.2.1.2.2.2.2.1, .int .i64 p1.2.1.2.1.2.2.2.2.2, v2, .bool p1.2.2])]) (Z := [row v4.1 40 Bc x1]) (β := Nat × Value) (rv := fun x => .func (.func 66) #[] #[.pointer (some ⟨x.1, 0, none⟩)]) (MM := fun x => [(x.1, [.int .i64 ((Ab p1.2.1).1), .int .i64 ((Ab p1.2.1).2.1.1), .int .i64 ((Ab p1.2.1).2.1.2.1.1), .int .i64 ((Ab p1.2.1).2.1.2.1.2.1), .int .i64 ((Ab p1.2.1).2.1.2.1.2.2.1), .int .i64 ((Ab p1.2.1).2.1.2.1.2.2.2), .int .i64 ((Ab p1.2.1).2.1.2.2.1), .int .i64 ((Ab p1.2.1).2.1.2.2.2.1), .int .i64 ((Ab p1.2.1).2.1.2.2.2.2.1), .int .i64 ((Ab p1.2.1).2.1.2.2.2.2.2), x.2])]) (ZZ := fun x => [BM x.2 Bu ((Ab p1.2.1).2.2)]) F W NO Aa Aa (fun hL => Db _ w (v2) p1.2.1 _ Aa (W.old s_v2)) fun x a w F W => ?_
  obtain ⟨b6, v13⟩ := x
  have W : Stw ⟨Y, [], w0⟩ [(b6, [.int .i64 ((Ab p1.2.1).1), .int .i64 ((Ab p1.2.1).2.1.1), .int .i64 ((Ab p1.2.1).2.1.2.1.1), .int .i64 ((Ab p1.2.1).2.1.2.1.2.1), .int .i64 ((Ab p1.2.1).2.1.2.1.2.2.1), .int .i64 ((Ab p1.2.1).2.1.2.1.2.2.2), .int .i64 ((Ab p1.2.1).2.1.2.2.1), .int .i64 ((Ab p1.2.1).2.1.2.2.2.1), .int .i64 ((Ab p1.2.1).2.1.2.2.2.2.1), .int .i64 ((Ab p1.2.1).2.1.2.2.2.2.2), v13]), (b1, [.int .i64 p1.1, .int .i64 p1.2.1.1, .int .i64 p1.2.1.2.1.1, .int .i64 p1.2.1.2.1.2.1.1, .int .i64 p1.2.1.2.1.2.1.2.1, .int .i64 p1.2.1.2.1.2.1.2.2.1, .int .i64 p1.2.1.2.1.2.1.2.2.2, .int .i64 p1.2.1.2.1.2.2.1, .int .i64 p1.2.1.2.1.2.2.2.1, .int .i64 p1.2.1.2.1.2.2.2.2.1, .int .i64 p1.2.1.2.1.2.2.2.2.2, v2, .bool p1.2.2])] [BM v13 Bu ((Ab p1.2.1).2.2), row v4.1 40 Bc x1] w := W
  obtain ⟨x9, h10, H⟩ := Ap H
  refine ls F W Aa (AY (v := Value.bool x9) F Ol Aa (fun w W => BE any w (v4.1) b6 (v13) x1 ((Ab p1.2.1).1, ((Ab p1.2.1).2.1.1, ((Ab p1.2.1).2.1.2.1.1, (Ab p1.2.1).2.1.2.1.2.1, (Ab p1.2.1).2.1.2.1.2.2.1, (Ab p1.2.1).2.1.2.1.2.2.2), ((Ab p1.2.1).2.1.2.2.1, (Ab p1.2.1).2.1.2.2.2.1, (Ab p1.2.1).2.1.2.2.2.2.1, (Ab p1.2.1).2.1.2.2.2.2.2)), (Ab p1.2.1).2.2) _ h10 (((Bg 1 Aa) : CV _ _ _ _ _ _) w W).nx (((CH 0 Aa) : CV _ _ _ _ _ _) w W).nx (Ki W 0 Aa))) fun a w F W => ?_
  refine ls F W Aa (E9 F Aa).q fun a w F W => ?_
  refine Af (Ad ?_)
  refine AA F Aa (fun hb => ?_) fun hb => ?_
  ·
   have H := AK hb H
   rw [hb] at F
   clear hb
   refine Ak (Ae ?_)
   refine ls F W Aa (Ah F Aa).q fun a w F W => ?_
   iterate 2 refine ls F W Aa (Ag F Aa).q fun a w F W => ?_
   refine Af (Ad (Ax (AD (AO (AD ?_)))))
   have H := AL H
   subst H
   refine ER (.inl Aa) F W Aa (Av F Aa) (Av F Aa) ?_
   have W := W.frontZ (i := 1) Aa Aa
   have W := W.freeze
   have W := W.sub (M' := []) (Z' := [BM v4.1 Bc x1]) (List.nil_sublist _) (List.Sublist.cons_cons _ (List.nil_sublist _))
   exact ⟨(v4.1), Aa, W⟩
  have H := AJ (by rw [hb]; decide) H
  rw [hb] at F
  clear hb
  refine Ay (Ad (Ak (Ae ?_)))
  refine ls F W Aa (Ah F Aa).q fun a w F W => ?_
  refine ls F W Aa (Al Gf Aa Aa Aa C6 F Aa 1 Aa).q fun a w F W => ?_
  refine ls F W Aa (As (v := Value.agg #[.int .i64 p1.2.1.1, .int .i64 p1.2.1.2.1.1, .int .i64 p1.2.1.2.1.2.1.1, .int .i64 p1.2.1.2.1.2.1.2.1, .int .i64 p1.2.1.2.1.2.1.2.2.1, .int .i64 p1.2.1.2.1.2.1.2.2.2, .int .i64 p1.2.1.2.1.2.2.1, .int .i64 p1.2.1.2.1.2.2.2.1, .int .i64 p1.2.1.2.1.2.2.2.2.1, .int .i64 p1.2.1.2.1.2.2.2.2.2, v2]) 1 F Aa Aa C6 Aa).q fun a w F W => ?_
  refine Bp (Ml := []) (Zl := []) (M := [(b6, [.int .i64 ((Ab p1.2.1).1), .int .i64 ((Ab p1.2.1).2.1.1), .int .i64 ((Ab p1.2.1).2.1.2.1.1), .int .i64 ((Ab p1.2.1).2.1.2.1.2.1), .int .i64 ((Ab p1.2.1).2.1.2.1.2.2.1), .int .i64 ((Ab p1.2.1).2.1.2.1.2.2.2), .int .i64 ((Ab p1.2.1).2.1.2.2.1), .int .i64 ((Ab p1.2.1).2.1.2.2.2.1), .int .i64 ((Ab p1.2.1).2.1.2.2.2.2.1), .int .i64 ((Ab p1.2.1).2.1.2.2.2.2.2), v13]), (b1, [.int .i64 p1.1, .int .i64 p1.2.1.1, .int .i64 p1.2.1.2.1.1, .int .i64 p1.2.1.2.1.2.1.1, .int .i64 p1.2.1.2.1.2.1.2.1, .int .i64 p1.2.1.2.1.2.1.2.2.1, .int .i64 p1.2.1.2.1.2.1.2.2.2, .int .i64 p1.2.1.2.1.2.2.1, .int .i64 p1.2.1.2.1.2.2.2.1, .int .i64 p1.2.1.2.1.2.2.2.2.1, .int .i64 p1.2.1.2.1.2.2.2.2.2, v2, .bool p1.2.2])]) (Z := [BM v13 Bu ((Ab p1.2.1).2.2), row v4.1 40 Bc x1]) (β := Nat × Value) (rv := fun x => .func (.func 66) #[] #[.pointer (some ⟨x.1, 0, none⟩)]) (MM := fun x => [(x.1, [.int .i64 ((Ab p1.2.1).1), .int .i64 ((Ab p1.2.1).2.1.1), .int .i64 ((Ab p1.2.1).2.1.2.1.1), .int .i64 ((Ab p1.2.1).2.1.2.1.2.1), .int .i64 ((Ab p1.2.1).2.1.2.1.2.2.1), .int .i64 ((Ab p1.2.1).2.1.2.1.2.2.2), .int .i64 ((Ab p1.2.1).2.1.2.2.1), .int .i64 ((Ab p1.2.1).2.1.2.2.2.1), .int .i64 ((Ab p1.2.1).2.1.2.2.2.2.1), .int .i64 ((Ab p1.2.1).2.1.2.2.2.2.2), x.2])]) (ZZ := fun x => [BM x.2 Bu ((Ab p1.2.1).2.2)]) F W NO Aa Aa (fun hL => Db _ w (v2) p1.2.1 _ Aa (W.old s_v2)) fun x a w F W => ?_
  obtain ⟨b7, v14⟩ := x
  have W : Stw ⟨Y, [], w0⟩ [(b7, [.int .i64 ((Ab p1.2.1).1), .int .i64 ((Ab p1.2.1).2.1.1), .int .i64 ((Ab p1.2.1).2.1.2.1.1), .int .i64 ((Ab p1.2.1).2.1.2.1.2.1), .int .i64 ((Ab p1.2.1).2.1.2.1.2.2.1), .int .i64 ((Ab p1.2.1).2.1.2.1.2.2.2), .int .i64 ((Ab p1.2.1).2.1.2.2.1), .int .i64 ((Ab p1.2.1).2.1.2.2.2.1), .int .i64 ((Ab p1.2.1).2.1.2.2.2.2.1), .int .i64 ((Ab p1.2.1).2.1.2.2.2.2.2), v14]), (b6, [.int .i64 ((Ab p1.2.1).1), .int .i64 ((Ab p1.2.1).2.1.1), .int .i64 ((Ab p1.2.1).2.1.2.1.1), .int .i64 ((Ab p1.2.1).2.1.2.1.2.1), .int .i64 ((Ab p1.2.1).2.1.2.1.2.2.1), .int .i64 ((Ab p1.2.1).2.1.2.1.2.2.2), .int .i64 ((Ab p1.2.1).2.1.2.2.1), .int .i64 ((Ab p1.2.1).2.1.2.2.2.1), .int .i64 ((Ab p1.2.1).2.1.2.2.2.2.1), .int .i64 ((Ab p1.2.1).2.1.2.2.2.2.2), v13]), (b1, [.int .i64 p1.1, .int .i64 p1.2.1.1, .int .i64 p1.2.1.2.1.1, .int .i64 p1.2.1.2.1.2.1.1, .int .i64 p1.2.1.2.1.2.1.2.1, .int .i64 p1.2.1.2.1.2.1.2.2.1, .int .i64 p1.2.1.2.1.2.1.2.2.2, .int .i64 p1.2.1.2.1.2.2.1, .int .i64 p1.2.1.2.1.2.2.2.1, .int .i64 p1.2.1.2.1.2.2.2.2.1, .int .i64 p1.2.1.2.1.2.2.2.2.2, v2, .bool p1.2.2])] [BM v14 Bu ((Ab p1.2.1).2.2), BM v13 Bu ((Ab p1.2.1).2.2), row v4.1 40 Bc x1] w := W
  obtain ⟨x10, h11, H⟩ := Ap H
  have W := W.frontZ (i := 2) Aa Aa
  refine Bp (Ml := []) (Zl := [row v4.1 40 Bc x1]) (M := [(b7, [.int .i64 ((Ab p1.2.1).1), .int .i64 ((Ab p1.2.1).2.1.1), .int .i64 ((Ab p1.2.1).2.1.2.1.1), .int .i64 ((Ab p1.2.1).2.1.2.1.2.1), .int .i64 ((Ab p1.2.1).2.1.2.1.2.2.1), .int .i64 ((Ab p1.2.1).2.1.2.1.2.2.2), .int .i64 ((Ab p1.2.1).2.1.2.2.1), .int .i64 ((Ab p1.2.1).2.1.2.2.2.1), .int .i64 ((Ab p1.2.1).2.1.2.2.2.2.1), .int .i64 ((Ab p1.2.1).2.1.2.2.2.2.2), v14]), (b6, [.int .i64 ((Ab p1.2.1).1), .int .i64 ((Ab p1.2.1).2.1.1), .int .i64 ((Ab p1.2.1).2.1.2.1.1), .int .i64 ((Ab p1.2.1).2.1.2.1.2.1), .int .i64 ((Ab p1.2.1).2.1.2.1.2.2.1), .int .i64 ((Ab p1.2.1).2.1.2.1.2.2.2), .int .i64 ((Ab p1.2.1).2.1.2.2.1), .int .i64 ((Ab p1.2.1).2.1.2.2.2.1), .int .i64 ((Ab p1.2.1).2.1.2.2.2.2.1), .int .i64 ((Ab p1.2.1).2.1.2.2.2.2.2), v13]), (b1, [.int .i64 p1.1, .int .i64 p1.2.1.1, .int .i64 p1.2.1.2.1.1, .int .i64 p1.2.1.2.1.2.1.1, .int .i64 p1.2.1.2.1.2.1.2.1, .int .i64 p1.2.1.2.1.2.1.2.2.1, .int .i64 p1.2.1.2.1.2.1.2.2.2, .int .i64 p1.2.1.2.1.2.2.1, .int .i64 p1.2.1.2.1.2.2.2.1, .int .i64 p1.2.1.2.1.2.2.2.2.1, .int .i64 p1.2.1.2.1.2.2.2.2.2, v2, .bool p1.2.2])]) (Z := [BM v14 Bu ((Ab p1.2.1).2.2), BM v13 Bu ((Ab p1.2.1).2.2)]) (β := Value) (rv := fun x => x) (MM := fun x => []) (ZZ := fun x => [row x 40 Bc x10]) F W O3 Aa Aa (fun hL => Dm _ _ w (v4.1) b7 (v14) x1 ((Ab p1.2.1).1, ((Ab p1.2.1).2.1.1, ((Ab p1.2.1).2.1.2.1.1, (Ab p1.2.1).2.1.2.1.2.1, (Ab p1.2.1).2.1.2.1.2.2.1, (Ab p1.2.1).2.1.2.1.2.2.2), ((Ab p1.2.1).2.1.2.2.1, (Ab p1.2.1).2.1.2.2.2.1, (Ab p1.2.1).2.1.2.2.2.2.1, (Ab p1.2.1).2.1.2.2.2.2.2)), (Ab p1.2.1).2.2) _ h11 (Sl.nxF (W.item (i := 1) Aa) (fun g hg => Ha hg)) (JD (Ml := []) (Zl := [row v4.1 40 Bc x1]) W 0 Aa) hL) fun x a w F W => ?_
  obtain ⟨v15, rfl⟩ : ∃ y, y = x := ⟨x, rfl⟩
  have W : Stw ⟨Y, [], w0⟩ [(b7, [.int .i64 ((Ab p1.2.1).1), .int .i64 ((Ab p1.2.1).2.1.1), .int .i64 ((Ab p1.2.1).2.1.2.1.1), .int .i64 ((Ab p1.2.1).2.1.2.1.2.1), .int .i64 ((Ab p1.2.1).2.1.2.1.2.2.1), .int .i64 ((Ab p1.2.1).2.1.2.1.2.2.2), .int .i64 ((Ab p1.2.1).2.1.2.2.1), .int .i64 ((Ab p1.2.1).2.1.2.2.2.1), .int .i64 ((Ab p1.2.1).2.1.2.2.2.2.1), .int .i64 ((Ab p1.2.1).2.1.2.2.2.2.2), v14]), (b6, [.int .i64 ((Ab p1.2.1).1), .int .i64 ((Ab p1.2.1).2.1.1), .int .i64 ((Ab p1.2.1).2.1.2.1.1), .int .i64 ((Ab p1.2.1).2.1.2.1.2.1), .int .i64 ((Ab p1.2.1).2.1.2.1.2.2.1), .int .i64 ((Ab p1.2.1).2.1.2.1.2.2.2), .int .i64 ((Ab p1.2.1).2.1.2.2.1), .int .i64 ((Ab p1.2.1).2.1.2.2.2.1), .int .i64 ((Ab p1.2.1).2.1.2.2.2.2.1), .int .i64 ((Ab p1.2.1).2.1.2.2.2.2.2), v13]), (b1, [.int .i64 p1.1, .int .i64 p1.2.1.1, .int .i64 p1.2.1.2.1.1, .int .i64 p1.2.1.2.1.2.1.1, .int .i64 p1.2.1.2.1.2.1.2.1, .int .i64 p1.2.1.2.1.2.1.2.2.1, .int .i64 p1.2.1.2.1.2.1.2.2.2, .int .i64 p1.2.1.2.1.2.2.1, .int .i64 p1.2.1.2.1.2.2.2.1, .int .i64 p1.2.1.2.1.2.2.2.2.1, .int .i64 p1.2.1.2.1.2.2.2.2.2, v2, .bool p1.2.2])] [row v15 40 Bc x10, BM v14 Bu ((Ab p1.2.1).2.2), BM v13 Bu ((Ab p1.2.1).2.2)] w := W
  iterate 2 refine ls F W Aa (Ag F Aa).q fun a w F W => ?_
  refine Af (Ad (Ax (AO (AD ?_))))
  have H := AL H
  subst H
  refine ER (.inl Aa) F W Aa (Av F Aa) (Av F Aa) ?_
  have W := W.freeze
  have W := W.sub (M' := []) (Z' := [BM v15 Bc x10]) (List.nil_sublist _) (List.Sublist.cons_cons _ (List.nil_sublist _))
  exact ⟨(v15), Aa, W⟩
 have H := AJ (Bh hb) H
 rw [hb] at F
 clear hb
 refine Ay (A5 (Ad (Ak (Ae ?_))))
 refine ls F W Aa (Ah F Aa).q fun a w F W => ?_
 iterate 2 refine ls F W Aa (Ag F Aa).q fun a w F W => ?_
 refine Af (Ad (Ax ?_))
 have H := AL H
 subst H
 refine ER (.inl Aa) F W Aa (Av F Aa) (Av F Aa) ?_
 have W := W.freeze
 have W := W.sub (M' := []) (Z' := [BM v4.1 Bc x1]) (List.nil_sublist _) (List.Sublist.refl _)
 exact ⟨(v4.1), Aa, W⟩
theorem OD : Has Try.prog 19 := ⟨fun args w => Am Try.func19 rfl (by decide) args w⟩
noncomputable def Ev (p0 : List (Int × (Int × (Int × Int × Int × Int) × (Int × Int × Int × Int)) × (List (Int × Int × Int)))) (p1 : List (Int × (Int × (Int × (Int × Int × Int × Int) × (Int × Int × Int × Int)) × (List (Int × Int × Int))) × Bool)) (p2 : Int) (p3 : Int) : ((List (Int × (Int × (Int × Int × Int × Int) × (Int × Int × Int × Int)) × (List (Int × Int × Int)))) × Int) → Option (((List (Int × (Int × (Int × Int × Int × Int) × (Int × Int × Int × Int)) × (List (Int × Int × Int)))) × Int) ⊕ ((List (Int × (Int × (Int × Int × Int × Int) × (Int × Int × Int × Int)) × (List (Int × Int × Int)))) ⊕ ((List (Int × (Int × (Int × Int × Int × Int) × (Int × Int × Int × Int)) × (List (Int × Int × Int)))) × Int × Int)))
  | (x3, x4) => (if x4 < (p1.length : Int) then (ix p1 x4).bind fun x5 => (Cx x3 x5 p2 p3).bind fun x6 => (if x6.2 ≠ 0 then (Cw p0).bind fun x7 => some (.inr (.inr (x7, x4, x6.2))) else some (.inl (x6.1, CA (x4 + 1)))) else some (.inr (.inl x3)))
noncomputable def E6 (p0 : List (Int × (Int × (Int × Int × Int × Int) × (Int × Int × Int × Int)) × (List (Int × Int × Int)))) (p1 : List (Int × (Int × (Int × (Int × Int × Int × Int) × (Int × Int × Int × Int)) × (List (Int × Int × Int))) × Bool)) (p2 : Int) (p3 : Int) : Option ((List (Int × (Int × (Int × Int × Int × Int) × (Int × Int × Int × Int)) × (List (Int × Int × Int)))) × Int × Int) := (Cw p0).bind fun x1 => Fp (Bk (Ev p0 p1 p2 p3) (x1, 0)) fun x2 => some (x2, (-1), 0)
theorem Jr (Y : Nat → Prop) (w0 : World) (v1 : Value) (v2 : Value) (p0 : List (Int × (Int × (Int × Int × Int × Int) × (Int × Int × Int × Int)) × (List (Int × Int × Int)))) (p1 : List (Int × (Int × (Int × (Int × Int × Int × Int) × (Int × Int × Int × Int)) × (List (Int × Int × Int))) × Bool)) (p2 : Int) (p3 : Int) (r : (List (Int × (Int × (Int × Int × Int × Int) × (Int × Int × Int × Int)) × (List (Int × Int × Int)))) × Int × Int) (H : E6 p0 p1 p2 p3 = some r) (s_v1 : Sl w0 Y Bc v1 p0) (s_v2 : Sl w0 Y M8 v2 p1) :
    Calls Try.prog 22 #[v1, v2, .int .i64 p2, .int .i64 p3] w0 fun e w' => ∃ x : Value, e = .returned (.tuple #[x, .int .i64 r.2.1, .int .i64 r.2.2]) ∧ Stw ⟨Y, [], w0⟩ [] [BM (x) Bc r.1] w' := by
 refine enter Try.func22 Aa Try.ntmps22 Aa fun a F => ?_
 have W := Stw.start Y w0
 obtain ⟨v3, h1, s_v1⟩ := s_v1.ex Bl
 obtain ⟨v4, h2, s_v2⟩ := s_v2.ex NF
 have h_v1 := W.nx s_v1
 have h_v2 := W.nx s_v2
 unfold E6 at H
 refine Ak (Ae ?_)
 iterate 3 refine ls F W Aa (Ag F Aa).q fun a w F W => ?_
 refine Af (Ad (Ak (Ae ?_)))
 refine ls F W Aa (Ah F Aa).q fun a w F W => ?_
 obtain ⟨x1, h3, H⟩ := Ap H
 refine Bp (Ml := []) (Zl := []) (M := []) (Z := []) (β := {x : Value // HP x (((p0.length : Int)).toNat)}) (rv := fun x => x.1) (MM := fun x => []) (ZZ := fun x => [row x.1 40 Bc x1]) F W OB Aa Aa (fun hL => Fk _ w (v1) p0 _ h3 (Sl.hide Bl h1 (W.old s_v1))) fun x a w F W => ?_
 obtain ⟨v5, rfl⟩ : ∃ y, y = x := ⟨x, rfl⟩
 have W : Stw ⟨Y, [], w0⟩ [] [row v5.1 40 Bc x1] w := W
 refine ls F W Aa (Ag F Aa).q fun a w F W => ?_
 refine Af (Ad ?_)
 obtain ⟨o1, G1, K1, L1⟩ := HZ H
 refine AH (fun a w => ∃ x2 : List (Int × (Int × (Int × Int × Int × Int) × (Int × Int × Int × Int)) × (List (Int × Int × Int))), ∃ v6 : Value, some (Sum.inl x2) = some o1 ∧ Fr 42 [] [(8, .slice none 0 0), (9, .int .i64 0), (10, .int .i64 0), (11, v6)] a ∧ Stw ⟨Y, [], w0⟩ [] [BM v6 Bc x2] w) ?_ ?_
 ·
  have H := G1
  clear G1 K1
  refine Ak (Ae ?_)
  refine ls F W Aa (Ah F Aa).q fun a w F W => ?_
  refine ls F W Aa (B1 (r := M8) (l := p1) Oa Aa F Aa (Be NF h2 (Au h_v2))).q fun a w F W => ?_
  refine ls F W Aa (Ah F Aa).q fun a w F W => ?_
  refine Af (Ad (AC ?_))
  have W := W.freeze
  refine Bz H (fun s a w => ∃ v7 : Value, Fr 42 [] [(0, v1), (2, .int .i64 p2), (3, .int .i64 p3), (8, .slice none 0 0), (9, .int .i64 0), (10, .int .i64 0), (11, v7), (18, v2), (19, .int .i64 (p1.length : Int)), (20, .int .i64 s.2)] a ∧ Stw ⟨Y, [], w0⟩ [] [BM v7 Bc s.1] w) ⟨(v5.1), F.re ⟨rfl, Aa, Aa, Aa, Aa, Aa, Aa, Aa, Aa, Aa, trivial⟩, W⟩ fun s o a w H L2 hR => ?_
  obtain ⟨x3, x4⟩ := s
  obtain ⟨v7, F, W⟩ := hR
  have F : Fr 42 [] [(0, v1), (2, .int .i64 p2), (3, .int .i64 p3), (8, .slice none 0 0), (9, .int .i64 0), (10, .int .i64 0), (11, v7), (18, v2), (19, .int .i64 (p1.length : Int)), (20, .int .i64 x4)] a := F
  have W : Stw ⟨Y, [], w0⟩ [] [BM v7 Bc x3] w := W
  rw [Ev] at H
  refine Ak (Ae ?_)
  refine ls F W Aa (BN F Aa Aa).q fun a w F W => ?_
  refine Af (Ad (Ak ?_))
  refine AA F Aa (fun hb => ?_) fun hb => ?_
  ·
   have H := AK (Bi hb) H
   rw [hb] at F
   clear hb
   refine Ay (Ad (Ak (AC (Ak ?_))))
   obtain ⟨v8, h4, W⟩ := W.exF Bl
   refine Ae ?_
   refine ls F W Aa (Ah F Aa).q fun a w F W => ?_
   obtain ⟨x5, h5, H⟩ := Ap H
   obtain ⟨v9, h6, h7⟩ := CE h2 h5
   have h8 : NE v9 = [.int .i64 x5.1, .int .i64 x5.2.1.1, .int .i64 x5.2.1.2.1.1, .int .i64 x5.2.1.2.1.2.1.1, .int .i64 x5.2.1.2.1.2.1.2.1, .int .i64 x5.2.1.2.1.2.1.2.2.1, .int .i64 x5.2.1.2.1.2.1.2.2.2, .int .i64 x5.2.1.2.1.2.2.1, .int .i64 x5.2.1.2.1.2.2.2.1, .int .i64 x5.2.1.2.1.2.2.2.2.1, .int .i64 x5.2.1.2.1.2.2.2.2.2, (v9.2.1.2.2.1), .bool x5.2.2] := congrArg (fun q : Int × (Int × (Int × (Int × Int × Int × Int) × (Int × Int × Int × Int)) × (List (Int × Int × Int))) × Bool => ([.int .i64 q.1, .int .i64 q.2.1.1, .int .i64 q.2.1.2.1.1, .int .i64 q.2.1.2.1.2.1.1, .int .i64 q.2.1.2.1.2.1.2.1, .int .i64 q.2.1.2.1.2.1.2.2.1, .int .i64 q.2.1.2.1.2.1.2.2.2, .int .i64 q.2.1.2.1.2.2.1, .int .i64 q.2.1.2.1.2.2.2.1, .int .i64 q.2.1.2.1.2.2.2.2.1, .int .i64 q.2.1.2.1.2.2.2.2.2, (v9.2.1.2.2.1), .bool q.2.2] : List Value)) h7
   refine ls F W Aa (Bd (r := NJ) Ph F Aa Aa (Au h_v2) h6).q fun a w F W => ?_
   refine ls F W Aa (A1 (y := Value.agg #[.int .i64 x5.1, .int .i64 x5.2.1.1, .int .i64 x5.2.1.2.1.1, .int .i64 x5.2.1.2.1.2.1.1, .int .i64 x5.2.1.2.1.2.1.2.1, .int .i64 x5.2.1.2.1.2.1.2.2.1, .int .i64 x5.2.1.2.1.2.1.2.2.2, .int .i64 x5.2.1.2.1.2.2.1, .int .i64 x5.2.1.2.1.2.2.2.1, .int .i64 x5.2.1.2.1.2.2.2.2.1, .int .i64 x5.2.1.2.1.2.2.2.2.2, (v9.2.1.2.2.1), .bool x5.2.2]) (j := 0) (i := x4) (enc := NE) F Aa Aa (Au h_v2) h6 Oy On (by rw [h8]; rfl)).q fun a w F W => ?_
   refine Cp (cs := [.int .i64 0, .int .i64 0, .int .i64 0, .int .i64 0, .int .i64 0, .int .i64 0, .int .i64 0, .int .i64 0, .int .i64 0, .int .i64 0, .int .i64 0, .slice none 0 0, .bool false]) F W Aa OX Aa fun b1 a w F W => ?_
   refine ls F W Aa (Ag F Aa).q fun a w F W => ?_
   refine BB (vs := [.int .i64 x5.1, .int .i64 x5.2.1.1, .int .i64 x5.2.1.2.1.1, .int .i64 x5.2.1.2.1.2.1.1, .int .i64 x5.2.1.2.1.2.1.2.1, .int .i64 x5.2.1.2.1.2.1.2.2.1, .int .i64 x5.2.1.2.1.2.1.2.2.2, .int .i64 x5.2.1.2.1.2.2.1, .int .i64 x5.2.1.2.1.2.2.2.1, .int .i64 x5.2.1.2.1.2.2.2.2.1, .int .i64 x5.2.1.2.1.2.2.2.2.2, (v9.2.1.2.2.1), .bool x5.2.2]) (M' := [(b1, [.int .i64 x5.1, .int .i64 x5.2.1.1, .int .i64 x5.2.1.2.1.1, .int .i64 x5.2.1.2.1.2.1.1, .int .i64 x5.2.1.2.1.2.1.2.1, .int .i64 x5.2.1.2.1.2.1.2.2.1, .int .i64 x5.2.1.2.1.2.1.2.2.2, .int .i64 x5.2.1.2.1.2.2.1, .int .i64 x5.2.1.2.1.2.2.2.1, .int .i64 x5.2.1.2.1.2.2.2.2.1, .int .i64 x5.2.1.2.1.2.2.2.2.2, (v9.2.1.2.2.1), .bool x5.2.2])]) 0 F W Aa Aa Aa On Aa Aa Aa (An Aa (An Aa (An Aa (An Aa (An Aa (An Aa (An Aa (An Aa (An Aa (An Aa (An Aa (An ((DU (Au h_v2) h6 (BC.snd (BC.fst (BC.snd (BC.snd BC.here)))) (congrArg (fun q : Int × (Int × (Int × (Int × Int × Int × Int) × (Int × Int × Int × Int)) × (List (Int × Int × Int))) × Bool => q.2.1.2.2) h7)) _ W).one (An Aa Di))))))))))))) Aa fun w W => ?_
   refine Af (Ad (Ak (Ae ?_)))
   refine ls F W Aa (Ah F Aa).q fun a w F W => ?_
   refine ls F W Aa (As (v := Value.agg #[.int .i64 x5.1, .int .i64 x5.2.1.1, .int .i64 x5.2.1.2.1.1, .int .i64 x5.2.1.2.1.2.1.1, .int .i64 x5.2.1.2.1.2.1.2.1, .int .i64 x5.2.1.2.1.2.1.2.2.1, .int .i64 x5.2.1.2.1.2.1.2.2.2, .int .i64 x5.2.1.2.1.2.2.1, .int .i64 x5.2.1.2.1.2.2.2.1, .int .i64 x5.2.1.2.1.2.2.2.2.1, .int .i64 x5.2.1.2.1.2.2.2.2.2, (v9.2.1.2.2.1), .bool x5.2.2]) 0 F Aa Aa On Aa).q fun a w F W => ?_
   iterate 2 refine ls F W Aa (Ah F Aa).q fun a w F W => ?_
   obtain ⟨x6, h9, H⟩ := Ap H
   refine Bp (Ml := []) (Zl := []) (M := [(b1, [.int .i64 x5.1, .int .i64 x5.2.1.1, .int .i64 x5.2.1.2.1.1, .int .i64 x5.2.1.2.1.2.1.1, .int .i64 x5.2.1.2.1.2.1.2.1, .int .i64 x5.2.1.2.1.2.1.2.2.1, .int .i64 x5.2.1.2.1.2.1.2.2.2, .int .i64 x5.2.1.2.1.2.2.1, .int .i64 x5.2.1.2.1.2.2.2.1, .int .i64 x5.2.1.2.1.2.2.2.2.1, .int .i64 x5.2.1.2.1.2.2.2.2.2, (v9.2.1.2.2.1), .bool x5.2.2])]) (Z := [BM v7 CM v8]) (β := Value) (rv := fun x => .tuple #[x, .int .i64 x6.2]) (MM := fun x => []) (ZZ := fun x => [BM x Bc x6.1]) F W OD Aa Aa (fun hL => FC _ w (v7) ((v9.2.1.2.2.1)) x3 x5 p2 p3 _ h9 (Sl.hide Bl h4 (W.item (i := 0) Aa)) (Sl.at_ (W.old s_v2) h6 (BC.snd (BC.fst (BC.snd (BC.snd BC.here)))) (congrArg (fun q : Int × (Int × (Int × (Int × Int × Int × Int) × (Int × Int × Int × Int)) × (List (Int × Int × Int))) × Bool => q.2.1.2.2) h7))) fun x a w F W => ?_
   obtain ⟨v10, rfl⟩ : ∃ y, y = x := ⟨x, rfl⟩
   have W : Stw ⟨Y, [], w0⟩ [(b1, [.int .i64 x5.1, .int .i64 x5.2.1.1, .int .i64 x5.2.1.2.1.1, .int .i64 x5.2.1.2.1.2.1.1, .int .i64 x5.2.1.2.1.2.1.2.1, .int .i64 x5.2.1.2.1.2.1.2.2.1, .int .i64 x5.2.1.2.1.2.1.2.2.2, .int .i64 x5.2.1.2.1.2.2.1, .int .i64 x5.2.1.2.1.2.2.2.1, .int .i64 x5.2.1.2.1.2.2.2.2.1, .int .i64 x5.2.1.2.1.2.2.2.2.2, (v9.2.1.2.2.1), .bool x5.2.2])] [BM v10 Bc x6.1, BM v7 CM v8] w := W
   refine ls F W Aa (Ah F Aa).q fun a w F W => ?_
   refine ls F W Aa (Ck (v := v10) F Aa Aa).q fun a w F W => ?_
   refine ls F W Aa (Ck (v := Value.int .i64 x6.2) F Aa Aa).q fun a w F W => ?_
   iterate 2 refine ls F W Aa (Ag F Aa).q fun a w F W => ?_
   refine Af (Ad (Ak (Ak (Ae ?_))))
   refine ls F W Aa (Ah F Aa).q fun a w F W => ?_
   refine ls F W Aa (Eh F Aa Aa).q fun a w F W => ?_
   refine Af (Ad ?_)
   refine AA F Aa (fun hb => ?_) fun hb => ?_
   ·
    have H := AK (Bi hb) H
    rw [hb] at F
    clear hb
    refine Ak (Ae ?_)
    refine ls F W Aa (Ah F Aa).q fun a w F W => ?_
    obtain ⟨x7, h10, H⟩ := Ap H
    refine Bp (Ml := []) (Zl := []) (M := [(b1, [.int .i64 x5.1, .int .i64 x5.2.1.1, .int .i64 x5.2.1.2.1.1, .int .i64 x5.2.1.2.1.2.1.1, .int .i64 x5.2.1.2.1.2.1.2.1, .int .i64 x5.2.1.2.1.2.1.2.2.1, .int .i64 x5.2.1.2.1.2.1.2.2.2, .int .i64 x5.2.1.2.1.2.2.1, .int .i64 x5.2.1.2.1.2.2.2.1, .int .i64 x5.2.1.2.1.2.2.2.2.1, .int .i64 x5.2.1.2.1.2.2.2.2.2, (v9.2.1.2.2.1), .bool x5.2.2])]) (Z := [BM v10 Bc x6.1, BM v7 CM v8]) (β := {x : Value // HP x (((p0.length : Int)).toNat)}) (rv := fun x => x.1) (MM := fun x => []) (ZZ := fun x => [row x.1 40 Bc x7]) F W OB Aa Aa (fun hL => Fk _ w (v1) p0 _ h10 (Sl.hide Bl h1 (W.old s_v1))) fun x a w F W => ?_
    obtain ⟨v11, rfl⟩ : ∃ y, y = x := ⟨x, rfl⟩
    have W : Stw ⟨Y, [], w0⟩ [(b1, [.int .i64 x5.1, .int .i64 x5.2.1.1, .int .i64 x5.2.1.2.1.1, .int .i64 x5.2.1.2.1.2.1.1, .int .i64 x5.2.1.2.1.2.1.2.1, .int .i64 x5.2.1.2.1.2.1.2.2.1, .int .i64 x5.2.1.2.1.2.1.2.2.2, .int .i64 x5.2.1.2.1.2.2.1, .int .i64 x5.2.1.2.1.2.2.2.1, .int .i64 x5.2.1.2.1.2.2.2.2.1, .int .i64 x5.2.1.2.1.2.2.2.2.2, (v9.2.1.2.2.1), .bool x5.2.2])] [row v11.1 40 Bc x7, BM v10 Bc x6.1, BM v7 CM v8] w := W
    iterate 2 refine ls F W Aa (Ah F Aa).q fun a w F W => ?_
    iterate 3 refine ls F W Aa (Ag F Aa).q fun a w F W => ?_
    refine Af (Ad (Ax (AD (AO ?_))))
    iterate 2 refine AD ?_
    refine AO (AD ?_)
    have H := L2 _ H
    have H := L1 _ H
    have H := AL H
    subst H
    refine Nb (.inl Aa) F W Aa (Av F Aa) (Av F Aa) (Av F Aa) ?_
    have W := W.freeze
    have W := W.sub (M' := []) (Z' := [BM v11.1 Bc x7]) (List.nil_sublist _) (List.Sublist.cons_cons _ (List.nil_sublist _))
    exact ⟨(v11.1), Aa, W⟩
   have H := AJ (Bh hb) H
   rw [hb] at F
   clear hb
   refine Ay (Ad (Ae ?_))
   refine ls F W Aa (Ah F Aa).q fun a w F W => ?_
   refine ls F W Aa (Ag F Aa).q fun a w F W => ?_
   refine Af (A5 (Ad (Ae ?_)))
   refine ls F W Aa (B7 F Aa Aa Aa).q fun a w F W => ?_
   refine ls F W Aa (Ah F Aa).q fun a w F W => ?_
   refine Af (Ad ?_)
   have W := W.sub (M' := []) (Z' := [BM v10 Bc x6.1]) (List.nil_sublist _) (List.Sublist.cons_cons _ (List.nil_sublist _))
   exact ⟨_, H, (v10), F.re ⟨rfl, Aa, Aa, Aa, Aa, Aa, Aa, Aa, Aa, Aa, trivial⟩, W⟩
  have H := AJ (Bh hb) H
  rw [hb] at F
  clear hb
  refine Bw ?_
  iterate 2 refine B3 ?_
  refine Bx (Ad ?_)
  have H := L2 _ H
  exact ⟨_, (v7), H, F.re ⟨rfl, Aa, Aa, Aa, trivial⟩, W⟩
 rintro a w ⟨x2, v6, hj, F, W⟩
 have H := K1 _ hj
 clear hj G1 K1 L1
 refine Ak (Ae ?_)
 refine ls F W Aa (Ah F Aa).q fun a w F W => ?_
 iterate 3 refine ls F W Aa (Ag F Aa).q fun a w F W => ?_
 refine Af (Ad (Ax ?_))
 have H := AL H
 subst H
 refine Nb (.inl Aa) F W Aa (Av F Aa) (Av F Aa) (Av F Aa) ?_
 exact ⟨(v6), Aa, W⟩
theorem OS : type_of% Try.underlying24 := Try.underlying24
theorem PI : Has Try.prog 22 := ⟨fun args w => Am Try.func22 rfl (by decide) args w⟩
theorem NV : ∃ z, (Try.prog.info? 24).bind (·.zero) = some z ∧ z.cells = [.int .i64 0, .int .i64 0, .int .i64 0, .int .i64 0].toArray := ⟨.agg #[.int .i64 0, .int .i64 0, .int .i64 0, .int .i64 0], by kernel_rfl, rfl⟩
theorem Jg : Ar Try.prog 24 4 3 1 := ⟨OS, by kernel_rfl⟩
theorem GD : Ty Try.prog 24 true 4 := ⟨by kernel_rfl, by kernel_rfl⟩
noncomputable def Dd (p0 : Int × (Int × Int × Int × Int) × (Int × Int × Int × Int)) (p2 : Int × Int × Int × Int) : Int → Option (Int ⊕ (Unit ⊕ Bool))
  | x1 => (if x1 < 4 then (ix ([p0.2.2.1, p0.2.2.2.1, p0.2.2.2.2.1, p0.2.2.2.2.2] : List Int) x1).bind fun x2 => (ix ([p2.1, p2.2.1, p2.2.2.1, p2.2.2.2] : List Int) x1).bind fun x3 => (ix ([p0.2.1.1, p0.2.1.2.1, p0.2.1.2.2.1, p0.2.1.2.2.2] : List Int) x1).bind fun x4 => (if (GT .i64 (Iu .i64 x3 x4) x2) ≠ 0 then some (.inr (.inr false)) else some (.inl (CA (x1 + 1)))) else some (.inr (.inl ())))
noncomputable def Dw (p0 : Int × (Int × Int × Int × Int) × (Int × Int × Int × Int)) (p1 : Int) (p2 : Int × Int × Int × Int) : Option Bool := (if (decide (p0.1 ≠ (-1)) && decide (p0.1 ≠ p1)) = true then some false else Fp (Bk (Dd p0 p2) 0) fun _ => some true)
theorem GW (Y : Nat → Prop) (w0 : World)  (p0 : Int × (Int × Int × Int × Int) × (Int × Int × Int × Int)) (p1 : Int) (p2 : Int × Int × Int × Int) (r : Bool) (H : Dw p0 p1 p2 = some r)  :
    Calls Try.prog 26 #[.agg #[.int .i64 p0.1, .int .i64 p0.2.1.1, .int .i64 p0.2.1.2.1, .int .i64 p0.2.1.2.2.1, .int .i64 p0.2.1.2.2.2, .int .i64 p0.2.2.1, .int .i64 p0.2.2.2.1, .int .i64 p0.2.2.2.2.1, .int .i64 p0.2.2.2.2.2], .int .i64 p1, .agg #[.int .i64 p2.1, .int .i64 p2.2.1, .int .i64 p2.2.2.1, .int .i64 p2.2.2.2]] w0 fun e w' => e = .returned (.bool r) ∧ Below w0.heap.size w0 w' := by
 refine enter Try.func26 Aa Try.ntmps26 Aa fun a F => ?_
 have W := Stw.start Y w0
 unfold Dw at H
 refine Ak (Ae ?_)
 refine BS (cs := [.int .i64 p0.1, .int .i64 p0.2.1.1, .int .i64 p0.2.1.2.1, .int .i64 p0.2.1.2.2.1, .int .i64 p0.2.1.2.2.2, .int .i64 p0.2.2.1, .int .i64 p0.2.2.2.1, .int .i64 p0.2.2.2.2.1, .int .i64 p0.2.2.2.2.2]) F W Aa Aa Aa fun b1 a w F W => ?_
 refine BS (cs := [.int .i64 p2.1, .int .i64 p2.2.1, .int .i64 p2.2.2.1, .int .i64 p2.2.2.2]) F W Aa Aa Aa fun b2 a w F W => ?_
 refine ls F W Aa (Ag F Aa).q fun a w F W => ?_
 refine Af (Ad (Ak ?_))
 refine AH (fun a w => Fr 36 [] [(3, .pointer (some ⟨b1, 0, none⟩)), (5, .pointer (some ⟨b2, 0, none⟩)), (6, .bool false), (17, .bool (decide (p0.1 ≠ (-1)) && decide (p0.1 ≠ p1)))] a ∧ Stw ⟨Y, [], w0⟩ [(b2, [.int .i64 p2.1, .int .i64 p2.2.1, .int .i64 p2.2.2.1, .int .i64 p2.2.2.2]), (b1, [.int .i64 p0.1, .int .i64 p0.2.1.1, .int .i64 p0.2.1.2.1, .int .i64 p0.2.1.2.2.1, .int .i64 p0.2.1.2.2.2, .int .i64 p0.2.2.1, .int .i64 p0.2.2.2.1, .int .i64 p0.2.2.2.2.1, .int .i64 p0.2.2.2.2.2])] [] w) ?_ ?_
 ·
  refine Ae ?_
  refine ls F W Aa (Al CL Aa Aa Aa T3 F Aa 0 Aa).q fun a w F W => ?_
  refine ls F W Aa (As (v := Value.int .i64 p0.1) 1 F Aa Aa T3 Aa).q fun a w F W => ?_
  refine ls F W Aa (Eh F Aa Aa).q fun a w F W => ?_
  refine ls F W Aa (Ah F Aa).q fun a w F W => ?_
  rcases Bool.eq_false_or_eq_true (decide (p0.1 ≠ (-1))) with hb0 | hb0
  ·
   rw [hb0] at F
   refine AG F W (Ai F Aa Aa Aa Aa) Aa (Ao Aa) (Al CL Aa Aa Aa T3 F Aa 0 Aa).q fun a w F W => ?_
   refine AG F W (Ai F Aa Aa Aa Aa) Aa (Ao Aa) (As (v := Value.int .i64 p0.1) 1 F Aa Aa T3 Aa).q fun a w F W => ?_
   refine AG F W (Ai F Aa Aa Aa Aa) Aa (Ao Aa) (Ah F Aa).q fun a w F W => ?_
   refine AG F W (Ai F Aa Aa Aa Aa) Aa (Ao Aa) (Eh F Aa Aa).q fun a w F W => ?_
   refine ls F W Aa (Aw F Aa Aa Aa).q fun a w F W => ?_
   refine Af (Ad ?_)
   exact ⟨F.re ⟨rfl, Aa, Aa, (by show some (Value.bool (decide (p0.1 ≠ p1))) = some (Value.bool (decide (p0.1 ≠ (-1)) && decide (p0.1 ≠ p1))); try rw [hb0]; all_goals simp only [Bool.not_true, Bool.not_false, Bool.true_and, Bool.false_and, Bool.true_or, Bool.false_or, Bool.and_true, Bool.or_false, cond_true, cond_false]), trivial⟩, W⟩
  rw [hb0] at F
  iterate 4 refine Cs F Aa Aa Aa Aa Aa Aa Aa fun a F => ?_
  refine ls F W Aa (Aq F Aa Aa Aa).q fun a w F W => ?_
  refine Af (Ad ?_)
  exact ⟨F.re ⟨rfl, Aa, Aa, (by show some (Value.bool false) = some (Value.bool (decide (p0.1 ≠ (-1)) && decide (p0.1 ≠ p1))); try rw [hb0]; all_goals simp only [Bool.not_true, Bool.not_false, Bool.true_and, Bool.false_and, Bool.true_or, Bool.false_or, Bool.and_true, Bool.or_false, cond_true, cond_false]), trivial⟩, W⟩
 rintro a w ⟨F, W⟩
 refine AA F Aa (fun hb => ?_) fun hb => ?_
 ·
  have H := AK hb H
  rw [hb] at F
  clear hb
  refine Ak (Ae ?_)
  refine ls F W Aa (Ag F Aa).q fun a w F W => ?_
  refine Af (Ad (Ax (AD ?_)))
  have H := AL H
  subst H
  refine AF (.inl Aa) F W Aa (Av F Aa) ?_
  exact ⟨rfl, W.done⟩
 have H := AJ (by rw [hb]; decide) H
 rw [hb] at F
 clear hb
 refine Ay (Ad ?_)
 obtain ⟨o1, G1, K1, L1⟩ := HZ H
 refine AH (fun a w => some (Sum.inl ()) = some o1 ∧ Fr 36 [] [(6, .bool false)] a ∧ Stw ⟨Y, [], w0⟩ [(b2, [.int .i64 p2.1, .int .i64 p2.2.1, .int .i64 p2.2.2.1, .int .i64 p2.2.2.2]), (b1, [.int .i64 p0.1, .int .i64 p0.2.1.1, .int .i64 p0.2.1.2.1, .int .i64 p0.2.1.2.2.1, .int .i64 p0.2.1.2.2.2, .int .i64 p0.2.2.1, .int .i64 p0.2.2.2.1, .int .i64 p0.2.2.2.2.1, .int .i64 p0.2.2.2.2.2])] [] w) ?_ ?_
 ·
  have H := G1
  clear G1 K1
  refine Ak (Ae ?_)
  refine ls F W Aa (Al CL Aa Aa Aa Hd F Aa 5 Aa).q fun a w F W => ?_
  refine ls F W Aa (As (v := Value.agg #[.int .i64 p0.2.2.1, .int .i64 p0.2.2.2.1, .int .i64 p0.2.2.2.2.1, .int .i64 p0.2.2.2.2.2]) 1 F Aa Aa Hd Aa).q fun a w F W => ?_
  refine ls F W Aa (Ah F Aa).q fun a w F W => ?_
  refine Af (Ad (AC ?_))
  have W := W.frontM (i := 1) Aa Aa
  have W := W.frontM (i := 1) Aa Aa
  refine Bz H (fun s a w => Fr 36 [] [(3, .pointer (some ⟨b1, 0, none⟩)), (5, .pointer (some ⟨b2, 0, none⟩)), (6, .bool false), (19, .agg #[.int .i64 p0.2.2.1, .int .i64 p0.2.2.2.1, .int .i64 p0.2.2.2.2.1, .int .i64 p0.2.2.2.2.2]), (20, .int .i64 s)] a ∧ Stw ⟨Y, [], w0⟩ [(b2, [.int .i64 p2.1, .int .i64 p2.2.1, .int .i64 p2.2.2.1, .int .i64 p2.2.2.2]), (b1, [.int .i64 p0.1, .int .i64 p0.2.1.1, .int .i64 p0.2.1.2.1, .int .i64 p0.2.1.2.2.1, .int .i64 p0.2.1.2.2.2, .int .i64 p0.2.2.1, .int .i64 p0.2.2.2.1, .int .i64 p0.2.2.2.2.1, .int .i64 p0.2.2.2.2.2])] [] w) ⟨F.re ⟨rfl, Aa, Aa, Aa, Aa, trivial⟩, W⟩ fun s o a w H L2 hR => ?_
  obtain ⟨x1, rfl⟩ : ∃ x, x = s := ⟨s, rfl⟩
  obtain ⟨F, W⟩ := hR
  have F : Fr 36 [] [(3, .pointer (some ⟨b1, 0, none⟩)), (5, .pointer (some ⟨b2, 0, none⟩)), (6, .bool false), (19, .agg #[.int .i64 p0.2.2.1, .int .i64 p0.2.2.2.1, .int .i64 p0.2.2.2.2.1, .int .i64 p0.2.2.2.2.2]), (20, .int .i64 x1)] a := F
  have W : Stw ⟨Y, [], w0⟩ [(b2, [.int .i64 p2.1, .int .i64 p2.2.1, .int .i64 p2.2.2.1, .int .i64 p2.2.2.2]), (b1, [.int .i64 p0.1, .int .i64 p0.2.1.1, .int .i64 p0.2.1.2.1, .int .i64 p0.2.1.2.2.1, .int .i64 p0.2.1.2.2.2, .int .i64 p0.2.2.1, .int .i64 p0.2.2.2.1, .int .i64 p0.2.2.2.2.1, .int .i64 p0.2.2.2.2.2])] [] w := W
  rw [Dd] at H
  refine Ak (Ae ?_)
  refine ls F W Aa (BN F Aa Aa).q fun a w F W => ?_
  refine Af (Ad (Ak ?_))
  refine AA F Aa (fun hb => ?_) fun hb => ?_
  ·
   have H := AK (Bi hb) H
   rw [hb] at F
   clear hb
   refine Ay (Ad (Ak (AC (Ak (Ae ?_)))))
   refine ls F W Aa (Ah F Aa).q fun a w F W => ?_
   obtain ⟨x2, h1, H⟩ := Ap H
   refine ls F W Aa (JV (enc := Value.int .i64) (cs := [.int .i64 p0.2.2.1, .int .i64 p0.2.2.2.1, .int .i64 p0.2.2.2.2.1, .int .i64 p0.2.2.2.2.2]) EE T3 F Aa Aa Aa Aa h1).q fun a w F W => ?_
   iterate 2 refine ls F W Aa (Ag F Aa).q fun a w F W => ?_
   refine Af (Ad (Ak ?_))
   refine Ci W MO (by kernel_rfl) ?_
   refine qs F Aa (Ah F Aa).q fun a F => ?_
   obtain ⟨x3, h2, H⟩ := Ap H
   refine qs F Aa (Bo (0 + (x1).toNat * 1) Jg F Aa Aa Aa h2 Aa).q fun a F => ?_
   refine qs F Aa (As (v := Value.int .i64 x3) 0 F Aa Aa T3 (Cb (base := 0) (m := 4) (l := [p2.1, p2.2.1, p2.2.2.1, p2.2.2.2]) (enc := Value.int .i64) Aa h2)).q fun a F => ?_
   refine qs F Aa (Ah F Aa).q fun a F => ?_
   refine qs F Aa (Al CL Aa Aa Aa Hd F Aa 1 Aa).q fun a F => ?_
   obtain ⟨x4, h3, H⟩ := Ap H
   refine qs F Aa (Bo (1 + (x1).toNat * 1) EE F Aa Aa Aa h3 Aa).q fun a F => ?_
   refine qs F Aa (As (v := Value.int .i64 x4) 1 F Aa Aa T3 (Cb (base := 1) (m := 4) (l := [p0.2.1.1, p0.2.1.2.1, p0.2.1.2.2.1, p0.2.1.2.2.2]) (enc := Value.int .i64) Aa h3)).q fun a F => ?_
   refine qs F Aa (Nc F Aa Aa).q fun a F => ?_
   refine qs F Aa (Ah F Aa).q fun a F => ?_
   refine qs F Aa (Mn F Aa Aa).q fun a F => ?_
   refine qs F Aa (Eh F Aa Aa).q fun a F => ?_
   refine A9 fun w W => ?_
   refine Ad ?_
   refine AA F Aa (fun hb => ?_) fun hb => ?_
   ·
    have H := AK (Bi hb) H
    rw [hb] at F
    clear hb
    refine Ak (Ae ?_)
    refine ls F W Aa (Ag F Aa).q fun a w F W => ?_
    refine Af (Ad (Ax (AO ?_)))
    iterate 2 refine AD ?_
    refine AO (AD ?_)
    have H := L2 _ H
    have H := L1 _ H
    have H := AL H
    subst H
    refine AF (.inl Aa) F W Aa (Av F Aa) ?_
    exact ⟨rfl, W.done⟩
   have H := AJ (Bh hb) H
   rw [hb] at F
   clear hb
   refine Ay (A5 (Ad (Ae ?_)))
   refine ls F W Aa (B7 F Aa Aa Aa).q fun a w F W => ?_
   refine ls F W Aa (Ah F Aa).q fun a w F W => ?_
   refine Af (Ad ?_)
   have W := W.frontM (i := 1) Aa Aa
   have W := W.frontM (i := 1) Aa Aa
   exact ⟨_, H, F.re ⟨rfl, Aa, Aa, Aa, Aa, trivial⟩, W⟩
  have H := AJ (Bh hb) H
  rw [hb] at F
  clear hb
  refine Bw ?_
  iterate 2 refine B3 ?_
  refine Bx (Ad ?_)
  have W := W.frontM (i := 1) Aa Aa
  have W := W.frontM (i := 1) Aa Aa
  have H := L2 _ H
  exact ⟨H, F.re ⟨rfl, trivial⟩, W⟩
 rintro a w ⟨hj, F, W⟩
 have H := K1 _ hj
 clear hj G1 K1 L1
 refine Ak (Ae ?_)
 refine ls F W Aa (Ag F Aa).q fun a w F W => ?_
 refine Af (Ad (Ax ?_))
 have H := AL H
 subst H
 refine AF (.inl Aa) F W Aa (Av F Aa) ?_
 exact ⟨rfl, W.done⟩
theorem O4 : Has Try.prog 26 := ⟨fun args w => Am Try.func26 rfl (by decide) args w⟩
noncomputable def DL (p0 : Int × (Int × (Int × Int × Int × Int) × (Int × Int × Int × Int)) × (List (Int × Int × Int))) (p1 : Int) (p2 : Int × Int × Int × Int) : Option Bool := (Dw p0.2.1 p1 p2).bind fun x1 => some x1
theorem IB (Y : Nat → Prop) (w0 : World) (v1 : Value) (q_p1 : Nat) (q_p2 : Nat) (p0 : Int × (Int × (Int × Int × Int × Int) × (Int × Int × Int × Int)) × (List (Int × Int × Int))) (p1 : Int) (p2 : Int × Int × Int × Int) (r : Bool) (H : DL p0 p1 p2 = some r) (h_v1 : Sl w0 (NX []) Bu v1 p0.2.2) (a_q_p1 : At ⟨Y, [], w0⟩ q_p1 0 [.int .i64 p1]) (a_q_p2 : At ⟨Y, [], w0⟩ q_p2 0 [.int .i64 p2.1, .int .i64 p2.2.1, .int .i64 p2.2.2.1, .int .i64 p2.2.2.2]) :
    Calls Try.prog 37 #[.agg #[.int .i64 p0.1, .int .i64 p0.2.1.1, .int .i64 p0.2.1.2.1.1, .int .i64 p0.2.1.2.1.2.1, .int .i64 p0.2.1.2.1.2.2.1, .int .i64 p0.2.1.2.1.2.2.2, .int .i64 p0.2.1.2.2.1, .int .i64 p0.2.1.2.2.2.1, .int .i64 p0.2.1.2.2.2.2.1, .int .i64 p0.2.1.2.2.2.2.2, v1], .pointer (some ⟨q_p1, 0, none⟩), .pointer (some ⟨q_p2, 0, none⟩)] w0 fun e w' => e = .returned (.bool r) ∧ Below w0.heap.size w0 w' := by
 refine enter Try.func37 Aa Try.ntmps37 Aa fun a F => ?_
 have W := Stw.start Y w0
 unfold DL at H
 refine Ak (Ae ?_)
 refine BS (cs := [.int .i64 p0.1, .int .i64 p0.2.1.1, .int .i64 p0.2.1.2.1.1, .int .i64 p0.2.1.2.1.2.1, .int .i64 p0.2.1.2.1.2.2.1, .int .i64 p0.2.1.2.1.2.2.2, .int .i64 p0.2.1.2.2.1, .int .i64 p0.2.1.2.2.2.1, .int .i64 p0.2.1.2.2.2.2.1, .int .i64 p0.2.1.2.2.2.2.2, v1]) F W Aa Aa Aa fun b1 a w F W => ?_
 refine ls F W Aa (Ag F Aa).q fun a w F W => ?_
 refine Af (Ad (Ak (Ae ?_)))
 refine ls F W Aa (Al Ct Aa Aa Aa Ef F Aa 1 Aa).q fun a w F W => ?_
 refine ls F W Aa (As (v := Value.agg #[.int .i64 p0.2.1.1, .int .i64 p0.2.1.2.1.1, .int .i64 p0.2.1.2.1.2.1, .int .i64 p0.2.1.2.1.2.2.1, .int .i64 p0.2.1.2.1.2.2.2, .int .i64 p0.2.1.2.2.1, .int .i64 p0.2.1.2.2.2.1, .int .i64 p0.2.1.2.2.2.2.1, .int .i64 p0.2.1.2.2.2.2.2]) 0 F Aa Aa Ef Aa).q fun a w F W => ?_
 refine ls F W Aa (E3 (y := Value.int .i64 p1) (j := 0) F Aa (Nat.zero_add _).symm a_q_p1 T3 Aa).q fun a w F W => ?_
 refine ls F W Aa (E3 (y := Value.agg #[.int .i64 p2.1, .int .i64 p2.2.1, .int .i64 p2.2.2.1, .int .i64 p2.2.2.2]) (j := 0) F Aa (Nat.zero_add _).symm a_q_p2 GD Aa).q fun a w F W => ?_
 obtain ⟨x1, h1, H⟩ := Ap H
 refine ls F W Aa (AY (v := Value.bool x1) F O4 Aa (fun w W => GW any w p0.2.1 p1 p2 _ h1)) fun a w F W => ?_
 refine ls F W Aa (Ag F Aa).q fun a w F W => ?_
 refine Af (Ad (Ax ?_))
 have H := AL H
 subst H
 refine AF (.inl Aa) F W Aa (Av F Aa) ?_
 exact ⟨rfl, W.done⟩
end Go.Proofs.Ytkjjioigbpkifaa
