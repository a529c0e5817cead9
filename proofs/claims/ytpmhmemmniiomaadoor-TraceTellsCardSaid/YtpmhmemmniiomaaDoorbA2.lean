/- The functions of layer 41, ER. Conditions: none. -/
import Derived.Test.YtpmhmemmniiomaaDoorbA1
namespace Go.Proofs.YtpmhmemmniiomaaDoor
open Go Go.RowKit
set_option linter.unusedVariables false
set_option linter.unusedSimpArgs false
set_option maxRecDepth 20000
theorem Jm : Has Tryd.prog 16 := ⟨fun args w => Ap Tryd.func16 rfl (by decide) args w⟩
noncomputable def Cj (p0 : List (Int × Int × Int × Int × List Int × Int × Int × Int)) (p1 : List (Int × Int × Int × Int × List Int × Int × Int × Int)) : Int → Option (Int ⊕ (Unit ⊕ Bool))
  | x1 => (if x1 < (p0.length : Int) then (ix p0 x1).bind fun x2 => (ix p1 x1).bind fun x3 => (if x2.1 ≠ x3.1 then some true else (if x2.2.1 ≠ x3.2.1 then some true else (if x2.2.2.1 ≠ x3.2.2.1 then some true else (if x2.2.2.2.1 ≠ x3.2.2.2.1 then some true else (if x2.2.2.2.2.2.1 ≠ x3.2.2.2.2.2.1 then some true else (if x2.2.2.2.2.2.2.1 ≠ x3.2.2.2.2.2.2.1 then some true else (if x2.2.2.2.2.2.2.2 ≠ x3.2.2.2.2.2.2.2 then some true else (Dg x2.2.2.2.2.1 x3.2.2.2.2.1).bind fun x5 => some (!x5)))))))).bind fun x4 => (if x4 = true then some (.inr (.inr false)) else some (.inl (CV (x1 + 1)))) else some (.inr (.inl ())))
noncomputable def C9 (p0 : List (Int × Int × Int × Int × List Int × Int × Int × Int)) (p1 : List (Int × Int × Int × Int × List Int × Int × Int × Int)) : Option Bool := (if (p0.length : Int) ≠ (p1.length : Int) then some false else Ix (AP (Cj p0 p1) 0) fun _ => some true)
theorem F1 (Y : Nat → Prop) (w0 : World) (v1 : Value) (v2 : Value) (p0 : List (Int × Int × Int × Int × List Int × Int × Int × Int)) (p1 : List (Int × Int × Int × Int × List Int × Int × Int × Int)) (r : Bool) (H : C9 p0 p1 = some r) (h_v1 : Sl w0 (NX []) Db v1 p0) (h_v2 : Sl w0 (NX []) Db v2 p1) :
    Calls Tryd.prog 8 #[v1, v2] w0 fun e w' => e = .returned (.bool r) ∧ Below w0.heap.size w0 w' := by
 refine enter Tryd.func8 Aa Tryd.ntmps8 Aa fun a F => ?_
 have W := Stw.start Y w0
 obtain ⟨v3, h1, h_v1⟩ := h_v1.ex DJ
 obtain ⟨v4, h2, h_v2⟩ := h_v2.ex DJ
 unfold C9 at H
 refine Aj (Ad ?_)
 refine ls F W Aa (Ag F Aa).q fun a w F W => ?_
 refine Ae (Ac (Aj (Aj (Ad ?_))))
 refine ls F W Aa (Af F Aa).q fun a w F W => ?_
 refine ls F W Aa (BT (r := Db) (l := p0) Gx Aa F Aa (C7 DJ h1 (Ax h_v1))).q fun a w F W => ?_
 refine ls F W Aa (Af F Aa).q fun a w F W => ?_
 refine ls F W Aa (BT (r := Db) (l := p1) Gx Aa F Aa (C7 DJ h2 (Ax h_v2))).q fun a w F W => ?_
 refine ls F W Aa (C2 F Aa Aa).q fun a w F W => ?_
 refine Ae (Ac ?_)
 refine AB F Aa (fun hb => ?_) fun hb => ?_
 ·
  have H := A0 (Ba hb) H
  rw [hb] at F
  clear hb
  refine Aj (Ad ?_)
  refine ls F W Aa (Ag F Aa).q fun a w F W => ?_
  refine Ae (Ac (AJ (Bc ?_)))
  have H := A1 H
  subst H
  refine A9 (.inl Aa) F W Aa (AM F Aa) ?_
  exact ⟨rfl, W.done⟩
 have H := AY (A7 hb) H
 rw [hb] at F
 clear hb
 refine Ay (Ac ?_)
 obtain ⟨o1, G1, K1, L1⟩ := IB H
 refine A3 (fun a w => some (Sum.inl ()) = some o1 ∧ Fr 82 [] [(4, .bool false)] a ∧ Stw ⟨Y, [], w0⟩ [] [] w) ?_ ?_
 ·
  have H := G1
  clear G1 K1
  refine Aj (Ad ?_)
  refine ls F W Aa (Ag F Aa).q fun a w F W => ?_
  refine Ae (Ac (AD ?_))
  refine BN H (fun s a w => Fr 82 [] [(0, v1), (1, v2), (4, .bool false), (5, .int .i64 s)] a ∧ Stw ⟨Y, [], w0⟩ [] [] w) ⟨F.re ⟨rfl, Aa, Aa, Aa, trivial⟩, W⟩ fun s o a w H L2 hR => ?_
  obtain ⟨x1, rfl⟩ : ∃ x, x = s := ⟨s, rfl⟩
  obtain ⟨F, W⟩ := hR
  have F : Fr 82 [] [(0, v1), (1, v2), (4, .bool false), (5, .int .i64 x1)] a := F
  have W : Stw ⟨Y, [], w0⟩ [] [] w := W
  rw [Cj] at H
  refine Aj (Aj (Ad ?_))
  iterate 2 refine ls F W Aa (Af F Aa).q fun a w F W => ?_
  refine ls F W Aa (BT (r := Db) (l := p0) Gx Aa F Aa (C7 DJ h1 (Ax h_v1))).q fun a w F W => ?_
  refine ls F W Aa (Cn F Aa Aa).q fun a w F W => ?_
  refine Ae (Ac ?_)
  refine AB F Aa (fun hb => ?_) fun hb => ?_
  ·
   have H := A0 (Ba hb) H
   rw [hb] at F
   clear hb
   refine Ay (Ac (Aj (AD (Aj ?_))))
   obtain ⟨x2, h3, H⟩ := Ak H
   obtain ⟨v5, h4, h5⟩ := Bh h1 h3
   have h6 : EG v5 = [.int .i64 x2.1, .int .i64 x2.2.1, .int .i64 x2.2.2.1, .int .i64 x2.2.2.2.1, (v5.2.2.2.2.1.1), .int .i64 x2.2.2.2.2.2.1, .int .i64 x2.2.2.2.2.2.2.1, .int .i64 x2.2.2.2.2.2.2.2] := congrArg (fun q : Int × Int × Int × Int × List Int × Int × Int × Int => ([.int .i64 q.1, .int .i64 q.2.1, .int .i64 q.2.2.1, .int .i64 q.2.2.2.1, (v5.2.2.2.2.1.1), .int .i64 q.2.2.2.2.2.1, .int .i64 q.2.2.2.2.2.2.1, .int .i64 q.2.2.2.2.2.2.2] : List Value)) h5
   obtain ⟨x3, h7, H⟩ := Ak H
   obtain ⟨v6, h8, h9⟩ := Bh h2 h7
   have h10 : EG v6 = [.int .i64 x3.1, .int .i64 x3.2.1, .int .i64 x3.2.2.1, .int .i64 x3.2.2.2.1, (v6.2.2.2.2.1.1), .int .i64 x3.2.2.2.2.2.1, .int .i64 x3.2.2.2.2.2.2.1, .int .i64 x3.2.2.2.2.2.2.2] := congrArg (fun q : Int × Int × Int × Int × List Int × Int × Int × Int => ([.int .i64 q.1, .int .i64 q.2.1, .int .i64 q.2.2.1, .int .i64 q.2.2.2.1, (v6.2.2.2.2.1.1), .int .i64 q.2.2.2.2.2.1, .int .i64 q.2.2.2.2.2.2.1, .int .i64 q.2.2.2.2.2.2.2] : List Value)) h9
   refine HT (fun a w => ∃ b1 : Nat, ∃ b2 : Nat, Fr 82 [] [(0, v1), (1, v2), (4, .bool false), (5, .int .i64 x1), (6, .pointer (some ⟨b1, 0, none⟩)), (7, .pointer (some ⟨b2, 0, none⟩)), (13, .int .i64 x1), (14, v1), (15, .int .i64 (p0.length : Int)), (16, .bool true), (19, v1), (20, .int .i64 x1), (21, .pointer (some ⟨Du v1, BW v1 + (x1).toNat * 8, none⟩)), (22, .agg #[.int .i64 x2.1, .int .i64 x2.2.1, .int .i64 x2.2.2.1, .int .i64 x2.2.2.2.1, (v5.2.2.2.2.1.1), .int .i64 x2.2.2.2.2.2.1, .int .i64 x2.2.2.2.2.2.2.1, .int .i64 x2.2.2.2.2.2.2.2]), (23, v2), (24, .int .i64 x1), (25, .pointer (some ⟨Du v2, BW v2 + (x1).toNat * 8, none⟩)), (26, .agg #[.int .i64 x3.1, .int .i64 x3.2.1, .int .i64 x3.2.2.1, .int .i64 x3.2.2.2.1, (v6.2.2.2.2.1.1), .int .i64 x3.2.2.2.2.2.1, .int .i64 x3.2.2.2.2.2.2.1, .int .i64 x3.2.2.2.2.2.2.2])] a ∧ Stw ⟨Y, [], w0⟩ [(b2, [.int .i64 x3.1, .int .i64 x3.2.1, .int .i64 x3.2.2.1, .int .i64 x3.2.2.2.1, (v6.2.2.2.2.1.1), .int .i64 x3.2.2.2.2.2.1, .int .i64 x3.2.2.2.2.2.2.1, .int .i64 x3.2.2.2.2.2.2.2]), (b1, [.int .i64 x2.1, .int .i64 x2.2.1, .int .i64 x2.2.2.1, .int .i64 x2.2.2.2.1, (v5.2.2.2.2.1.1), .int .i64 x2.2.2.2.2.2.1, .int .i64 x2.2.2.2.2.2.2.1, .int .i64 x2.2.2.2.2.2.2.2])] [] w) ?_ ?_
   ·
    refine Hp (PT.st 0 (PT.st 1 (PT.st 2 (PT.st 3 (PT.st 4 (PT.st 5 (PT.st 6 (PT.st 7 (PT.alt 8 (PT.alt 9 (PT.alt 10 (PT.alt 11 PT.done PT.stop) PT.stop) PT.stop) (PT.alt 9 (PT.alt 8 (PT.alt 10 (PT.alt 11 PT.done PT.stop) PT.stop) PT.stop) PT.stop)))))))))) (CN ⟨Y, [], w0⟩ [] []) (fun ch a d v w h => by cases d <;> exact h) MO (by kernel_rfl) W (fun w W => ⟨_, _, W, As, As⟩) fun w W => ?_
    iterate 2 refine Gv (R := []) F Aa Aa (yC fun M Z hN hZ => Af F Aa) Aa Aa fun a F => ?_
    refine Gv (R := []) F Aa Aa (yC fun M Z hN hZ => AE (r := Ge) FX F Aa Aa (Ax h_v1) h4) Aa Aa fun a F => ?_
    refine Gv (R := []) F Aa Aa (yC fun M Z hN hZ => Az (y := Value.agg #[.int .i64 x2.1, .int .i64 x2.2.1, .int .i64 x2.2.2.1, .int .i64 x2.2.2.2.1, (v5.2.2.2.2.1.1), .int .i64 x2.2.2.2.2.2.1, .int .i64 x2.2.2.2.2.2.2.1, .int .i64 x2.2.2.2.2.2.2.2]) (j := 0) (i := x1) (enc := EG) F Aa Aa (Ax h_v1) h4 Hj Iq (by rw [h6]; rfl)) Aa Aa fun a F => ?_
    iterate 2 refine Gv (R := []) F Aa Aa (yC fun M Z hN hZ => Af F Aa) Aa Aa fun a F => ?_
    refine Gv (R := []) F Aa Aa (yC fun M Z hN hZ => AE (r := Ge) FX F Aa Aa (Ax h_v2) h8) Aa Aa fun a F => ?_
    refine Gv (R := []) F Aa Aa (yC fun M Z hN hZ => Az (y := Value.agg #[.int .i64 x3.1, .int .i64 x3.2.1, .int .i64 x3.2.2.1, .int .i64 x3.2.2.2.1, (v6.2.2.2.2.1.1), .int .i64 x3.2.2.2.2.2.1, .int .i64 x3.2.2.2.2.2.2.1, .int .i64 x3.2.2.2.2.2.2.2]) (j := 0) (i := x1) (enc := EG) F Aa Aa (Ax h_v2) h8 Hj Iq (by rw [h10]; rfl)) Aa Aa fun a F => ?_
    refine Is Aa ?_ ?_
    ·
     refine CJ (cs := [.int .i64 0, .int .i64 0, .int .i64 0, .int .i64 0, .slice none 0 0, .int .i64 0, .int .i64 0, .int .i64 0]) F W Aa Iw Aa fun b1 a w F W => ?_
     refine CI (N2 := []) (NZ2 := []) (N3 := []) (NZ3 := []) W Aa Aa As As ?_
     refine Fe Aa ?_
     refine CJ (cs := [.int .i64 0, .int .i64 0, .int .i64 0, .int .i64 0, .slice none 0 0, .int .i64 0, .int .i64 0, .int .i64 0]) F W Aa Iw Aa fun b2 a w F W => ?_
     refine CI (N2 := []) (NZ2 := []) (N3 := []) (NZ3 := []) W Aa Aa As As ?_
     refine Fe Aa ?_
     refine Cy (vs := [.int .i64 x2.1, .int .i64 x2.2.1, .int .i64 x2.2.2.1, .int .i64 x2.2.2.2.1, (v5.2.2.2.2.1.1), .int .i64 x2.2.2.2.2.2.1, .int .i64 x2.2.2.2.2.2.2.1, .int .i64 x2.2.2.2.2.2.2.2]) (M' := [(b2, [.int .i64 0, .int .i64 0, .int .i64 0, .int .i64 0, .slice none 0 0, .int .i64 0, .int .i64 0, .int .i64 0]), (b1, [.int .i64 x2.1, .int .i64 x2.2.1, .int .i64 x2.2.2.1, .int .i64 x2.2.2.2.1, (v5.2.2.2.2.1.1), .int .i64 x2.2.2.2.2.2.1, .int .i64 x2.2.2.2.2.2.2.1, .int .i64 x2.2.2.2.2.2.2.2])]) 1 F W Aa Aa Aa Iq Aa Aa Aa (Am Aa (Am Aa (Am Aa (Am Aa (Am ((BG (Ax h_v1) h4 (Al.snd (Al.snd (Al.snd (Al.snd (Al.fst Al.here))))) (congrArg (fun q : Int × Int × Int × Int × List Int × Int × Int × Int => q.2.2.2.2.1) h5)) _ W).one (Am Aa (Am Aa (Am Aa C0)))))))) Aa fun w W => ?_
     refine CI (N2 := []) (NZ2 := []) (N3 := []) (NZ3 := []) W Aa Aa As As ?_
     refine Fe Aa ?_
     refine Cy (vs := [.int .i64 x3.1, .int .i64 x3.2.1, .int .i64 x3.2.2.1, .int .i64 x3.2.2.2.1, (v6.2.2.2.2.1.1), .int .i64 x3.2.2.2.2.2.1, .int .i64 x3.2.2.2.2.2.2.1, .int .i64 x3.2.2.2.2.2.2.2]) (M' := [(b2, [.int .i64 x3.1, .int .i64 x3.2.1, .int .i64 x3.2.2.1, .int .i64 x3.2.2.2.1, (v6.2.2.2.2.1.1), .int .i64 x3.2.2.2.2.2.1, .int .i64 x3.2.2.2.2.2.2.1, .int .i64 x3.2.2.2.2.2.2.2]), (b1, [.int .i64 x2.1, .int .i64 x2.2.1, .int .i64 x2.2.2.1, .int .i64 x2.2.2.2.1, (v5.2.2.2.2.1.1), .int .i64 x2.2.2.2.2.2.1, .int .i64 x2.2.2.2.2.2.2.1, .int .i64 x2.2.2.2.2.2.2.2])]) 0 F W Aa Aa Aa Iq Aa Aa Aa (Am Aa (Am Aa (Am Aa (Am Aa (Am ((BG (Ax h_v2) h8 (Al.snd (Al.snd (Al.snd (Al.snd (Al.fst Al.here))))) (congrArg (fun q : Int × Int × Int × Int × List Int × Int × Int × Int => q.2.2.2.2.1) h9)) _ W).one (Am Aa (Am Aa (Am Aa C0)))))))) Aa fun w W => ?_
     refine CI (N2 := []) (NZ2 := []) (N3 := []) (NZ3 := []) W Aa Aa As As ?_
     have W := W.frontM (i := 1) Aa Aa
     have W := W.frontM (i := 1) Aa Aa
     refine Hb ?_
     exact ⟨b1, b2, F.re ⟨rfl, Aa, Aa, Aa, Aa, Aa, Aa, Aa, Aa, Aa, Aa, Aa, Aa, Aa, Aa, Aa, Aa, Aa, trivial⟩, W⟩
    refine Is Aa ?_ ?_
    ·
     refine CJ (cs := [.int .i64 0, .int .i64 0, .int .i64 0, .int .i64 0, .slice none 0 0, .int .i64 0, .int .i64 0, .int .i64 0]) F W Aa Iw Aa fun b2 a w F W => ?_
     refine CI (N2 := []) (NZ2 := []) (N3 := []) (NZ3 := []) W Aa Aa As As ?_
     refine Fe Aa ?_
     refine CJ (cs := [.int .i64 0, .int .i64 0, .int .i64 0, .int .i64 0, .slice none 0 0, .int .i64 0, .int .i64 0, .int .i64 0]) F W Aa Iw Aa fun b1 a w F W => ?_
     refine CI (N2 := []) (NZ2 := []) (N3 := []) (NZ3 := []) W Aa Aa As As ?_
     refine Fe Aa ?_
     refine Cy (vs := [.int .i64 x2.1, .int .i64 x2.2.1, .int .i64 x2.2.2.1, .int .i64 x2.2.2.2.1, (v5.2.2.2.2.1.1), .int .i64 x2.2.2.2.2.2.1, .int .i64 x2.2.2.2.2.2.2.1, .int .i64 x2.2.2.2.2.2.2.2]) (M' := [(b1, [.int .i64 x2.1, .int .i64 x2.2.1, .int .i64 x2.2.2.1, .int .i64 x2.2.2.2.1, (v5.2.2.2.2.1.1), .int .i64 x2.2.2.2.2.2.1, .int .i64 x2.2.2.2.2.2.2.1, .int .i64 x2.2.2.2.2.2.2.2]), (b2, [.int .i64 0, .int .i64 0, .int .i64 0, .int .i64 0, .slice none 0 0, .int .i64 0, .int .i64 0, .int .i64 0])]) 0 F W Aa Aa Aa Iq Aa Aa Aa (Am Aa (Am Aa (Am Aa (Am Aa (Am ((BG (Ax h_v1) h4 (Al.snd (Al.snd (Al.snd (Al.snd (Al.fst Al.here))))) (congrArg (fun q : Int × Int × Int × Int × List Int × Int × Int × Int => q.2.2.2.2.1) h5)) _ W).one (Am Aa (Am Aa (Am Aa C0)))))))) Aa fun w W => ?_
     refine CI (N2 := []) (NZ2 := []) (N3 := []) (NZ3 := []) W Aa Aa As As ?_
     refine Fe Aa ?_
     refine Cy (vs := [.int .i64 x3.1, .int .i64 x3.2.1, .int .i64 x3.2.2.1, .int .i64 x3.2.2.2.1, (v6.2.2.2.2.1.1), .int .i64 x3.2.2.2.2.2.1, .int .i64 x3.2.2.2.2.2.2.1, .int .i64 x3.2.2.2.2.2.2.2]) (M' := [(b1, [.int .i64 x2.1, .int .i64 x2.2.1, .int .i64 x2.2.2.1, .int .i64 x2.2.2.2.1, (v5.2.2.2.2.1.1), .int .i64 x2.2.2.2.2.2.1, .int .i64 x2.2.2.2.2.2.2.1, .int .i64 x2.2.2.2.2.2.2.2]), (b2, [.int .i64 x3.1, .int .i64 x3.2.1, .int .i64 x3.2.2.1, .int .i64 x3.2.2.2.1, (v6.2.2.2.2.1.1), .int .i64 x3.2.2.2.2.2.1, .int .i64 x3.2.2.2.2.2.2.1, .int .i64 x3.2.2.2.2.2.2.2])]) 1 F W Aa Aa Aa Iq Aa Aa Aa (Am Aa (Am Aa (Am Aa (Am Aa (Am ((BG (Ax h_v2) h8 (Al.snd (Al.snd (Al.snd (Al.snd (Al.fst Al.here))))) (congrArg (fun q : Int × Int × Int × Int × List Int × Int × Int × Int => q.2.2.2.2.1) h9)) _ W).one (Am Aa (Am Aa (Am Aa C0)))))))) Aa fun w W => ?_
     refine CI (N2 := []) (NZ2 := []) (N3 := []) (NZ3 := []) W Aa Aa As As ?_
     have W := W.frontM (i := 1) Aa Aa
     refine Hb ?_
     exact ⟨b1, b2, F.re ⟨rfl, Aa, Aa, Aa, Aa, Aa, Aa, Aa, Aa, Aa, Aa, Aa, Aa, Aa, Aa, Aa, Aa, Aa, trivial⟩, W⟩
    exact trivial
   rintro a w ⟨b1, b2, F, W⟩
   refine Ac ?_
   obtain ⟨o3, G3, K3⟩ := Ak H
   refine A3 (fun a w => ∃ x4 : Bool, some (x4) = some o3 ∧ Fr 82 [] [(0, v1), (1, v2), (4, .bool false), (5, .int .i64 x1), (81, .bool x4)] a ∧ Stw ⟨Y, [], w0⟩ [(b2, [.int .i64 x3.1, .int .i64 x3.2.1, .int .i64 x3.2.2.1, .int .i64 x3.2.2.2.1, (v6.2.2.2.2.1.1), .int .i64 x3.2.2.2.2.2.1, .int .i64 x3.2.2.2.2.2.2.1, .int .i64 x3.2.2.2.2.2.2.2]), (b1, [.int .i64 x2.1, .int .i64 x2.2.1, .int .i64 x2.2.2.1, .int .i64 x2.2.2.2.1, (v5.2.2.2.2.1.1), .int .i64 x2.2.2.2.2.2.1, .int .i64 x2.2.2.2.2.2.2.1, .int .i64 x2.2.2.2.2.2.2.2])] [] w) ?_ ?_
   ·
    have H := G3
    clear G3 K3
    refine Ad ?_
    refine ls F W Aa (Ab Bv Aa Aa Aa T3 F Aa 0 Aa).q fun a w F W => ?_
    refine ls F W Aa (An (v := Value.int .i64 x2.1) 1 F Aa Aa T3 Aa).q fun a w F W => ?_
    refine ls F W Aa (Ab Bv Aa Aa Aa T3 F Aa 0 Aa).q fun a w F W => ?_
    refine ls F W Aa (An (v := Value.int .i64 x3.1) 0 F Aa Aa T3 Aa).q fun a w F W => ?_
    refine ls F W Aa (C2 F Aa Aa).q fun a w F W => ?_
    refine ls F W Aa (Af F Aa).q fun a w F W => ?_
    rcases Bool.eq_false_or_eq_true (decide (x2.1 ≠ x3.1)) with hb | hb
    ·
     have H := A0 (Ba hb) H
     rw [hb] at F
     clear hb
     iterate 5 refine C3 F Aa Aa Aa Aa Aa Aa Aa fun a F => ?_
     refine ls F W Aa (Av F Aa Aa Aa).q fun a w F W => ?_
     refine ls F W Aa (Af F Aa).q fun a w F W => ?_
     iterate 5 refine C3 F Aa Aa Aa Aa Aa Aa Aa fun a F => ?_
     refine ls F W Aa (Av F Aa Aa Aa).q fun a w F W => ?_
     refine ls F W Aa (Af F Aa).q fun a w F W => ?_
     iterate 5 refine C3 F Aa Aa Aa Aa Aa Aa Aa fun a F => ?_
     refine ls F W Aa (Av F Aa Aa Aa).q fun a w F W => ?_
     refine ls F W Aa (Af F Aa).q fun a w F W => ?_
     iterate 5 refine C3 F Aa Aa Aa Aa Aa Aa Aa fun a F => ?_
     refine ls F W Aa (Av F Aa Aa Aa).q fun a w F W => ?_
     refine ls F W Aa (Af F Aa).q fun a w F W => ?_
     iterate 5 refine C3 F Aa Aa Aa Aa Aa Aa Aa fun a F => ?_
     refine ls F W Aa (Av F Aa Aa Aa).q fun a w F W => ?_
     refine ls F W Aa (Af F Aa).q fun a w F W => ?_
     iterate 5 refine C3 F Aa Aa Aa Aa Aa Aa Aa fun a F => ?_
     refine ls F W Aa (Av F Aa Aa Aa).q fun a w F W => ?_
     refine ls F W Aa (Af F Aa).q fun a w F W => ?_
     iterate 6 refine C3 F Aa Aa Aa Aa Aa Aa Aa fun a F => ?_
     refine ls F W Aa (Av F Aa Aa Aa).q fun a w F W => ?_
     refine Ae (Ac ?_)
     have W := W.frontM (i := 1) Aa Aa
     have W := W.frontM (i := 1) Aa Aa
     exact ⟨_, H, F.re ⟨rfl, Aa, Aa, Aa, Aa, trivial⟩, W⟩
    have H := AY (A7 hb) H
    rw [hb] at F
    clear hb
    refine AZ F W (Ah F Aa Aa Aa Aa) Aa (Aw Aa) (Ab Bv Aa Aa Aa T3 F Aa 1 Aa).q fun a w F W => ?_
    refine AZ F W (Ah F Aa Aa Aa Aa) Aa (Aw Aa) (An (v := Value.int .i64 x2.2.1) 1 F Aa Aa T3 Aa).q fun a w F W => ?_
    refine AZ F W (Ah F Aa Aa Aa Aa) Aa (Aw Aa) (Ab Bv Aa Aa Aa T3 F Aa 1 Aa).q fun a w F W => ?_
    refine AZ F W (Ah F Aa Aa Aa Aa) Aa (Aw Aa) (An (v := Value.int .i64 x3.2.1) 0 F Aa Aa T3 Aa).q fun a w F W => ?_
    refine AZ F W (Ah F Aa Aa Aa Aa) Aa (Aw Aa) (C2 F Aa Aa).q fun a w F W => ?_
    refine ls F W Aa (AU F Aa Aa Aa).q fun a w F W => ?_
    refine ls F W Aa (Af F Aa).q fun a w F W => ?_
    rcases Bool.eq_false_or_eq_true (decide (x2.2.1 ≠ x3.2.1)) with hb | hb
    ·
     have H := A0 (Ba hb) H
     rw [hb] at F
     clear hb
     iterate 5 refine C3 F Aa Aa Aa Aa Aa Aa Aa fun a F => ?_
     refine ls F W Aa (Av F Aa Aa Aa).q fun a w F W => ?_
     refine ls F W Aa (Af F Aa).q fun a w F W => ?_
     iterate 5 refine C3 F Aa Aa Aa Aa Aa Aa Aa fun a F => ?_
     refine ls F W Aa (Av F Aa Aa Aa).q fun a w F W => ?_
     refine ls F W Aa (Af F Aa).q fun a w F W => ?_
     iterate 5 refine C3 F Aa Aa Aa Aa Aa Aa Aa fun a F => ?_
     refine ls F W Aa (Av F Aa Aa Aa).q fun a w F W => ?_
     refine ls F W Aa (Af F Aa).q fun a w F W => ?_
     iterate 5 refine C3 F Aa Aa Aa Aa Aa Aa Aa fun a F => ?_
     refine ls F W Aa (Av F Aa Aa Aa).q fun a w F W => ?_
     refine ls F W Aa (Af F Aa).q fun a w F W => ?_
     iterate 5 refine C3 F Aa Aa Aa Aa Aa Aa Aa fun a F => ?_
     refine ls F W Aa (Av F Aa Aa Aa).q fun a w F W => ?_
     refine ls F W Aa (Af F Aa).q fun a w F W => ?_
     iterate 6 refine C3 F Aa Aa Aa Aa Aa Aa Aa fun a F => ?_
     refine ls F W Aa (Av F Aa Aa Aa).q fun a w F W => ?_
     refine Ae (Ac ?_)
     have W := W.frontM (i := 1) Aa Aa
     have W := W.frontM (i := 1) Aa Aa
     exact ⟨_, H, F.re ⟨rfl, Aa, Aa, Aa, Aa, trivial⟩, W⟩
    have H := AY (A7 hb) H
    rw [hb] at F
    clear hb
    refine AZ F W (Ah F Aa Aa Aa Aa) Aa (Aw Aa) (Ab Bv Aa Aa Aa T3 F Aa 2 Aa).q fun a w F W => ?_
    refine AZ F W (Ah F Aa Aa Aa Aa) Aa (Aw Aa) (An (v := Value.int .i64 x2.2.2.1) 1 F Aa Aa T3 Aa).q fun a w F W => ?_
    refine AZ F W (Ah F Aa Aa Aa Aa) Aa (Aw Aa) (Ab Bv Aa Aa Aa T3 F Aa 2 Aa).q fun a w F W => ?_
    refine AZ F W (Ah F Aa Aa Aa Aa) Aa (Aw Aa) (An (v := Value.int .i64 x3.2.2.1) 0 F Aa Aa T3 Aa).q fun a w F W => ?_
    refine AZ F W (Ah F Aa Aa Aa Aa) Aa (Aw Aa) (C2 F Aa Aa).q fun a w F W => ?_
    refine ls F W Aa (AU F Aa Aa Aa).q fun a w F W => ?_
    refine ls F W Aa (Af F Aa).q fun a w F W => ?_
    rcases Bool.eq_false_or_eq_true (decide (x2.2.2.1 ≠ x3.2.2.1)) with hb | hb
    ·
     have H := A0 (Ba hb) H
     rw [hb] at F
     clear hb
     iterate 5 refine C3 F Aa Aa Aa Aa Aa Aa Aa fun a F => ?_
     refine ls F W Aa (Av F Aa Aa Aa).q fun a w F W => ?_
     refine ls F W Aa (Af F Aa).q fun a w F W => ?_
     iterate 5 refine C3 F Aa Aa Aa Aa Aa Aa Aa fun a F => ?_
     refine ls F W Aa (Av F Aa Aa Aa).q fun a w F W => ?_
     refine ls F W Aa (Af F Aa).q fun a w F W => ?_
     iterate 5 refine C3 F Aa Aa Aa Aa Aa Aa Aa fun a F => ?_
     refine ls F W Aa (Av F Aa Aa Aa).q fun a w F W => ?_
     refine ls F W Aa (Af F Aa).q fun a w F W => ?_
     iterate 5 refine C3 F Aa Aa Aa Aa Aa Aa Aa fun a F => ?_
     refine ls F W Aa (Av F Aa Aa Aa).q fun a w F W => ?_
     refine ls F W Aa (Af F Aa).q fun a w F W => ?_
     iterate 6 refine C3 F Aa Aa Aa Aa Aa Aa Aa fun a F => ?_
     refine ls F W Aa (Av F Aa Aa Aa).q fun a w F W => ?_
     refine Ae (Ac ?_)
     have W := W.frontM (i := 1) Aa Aa
     have W := W.frontM (i := 1) Aa Aa
     exact ⟨_, H, F.re ⟨rfl, Aa, Aa, Aa, Aa, trivial⟩, W⟩
    have H := AY (A7 hb) H
    rw [hb] at F
    clear hb
    refine AZ F W (Ah F Aa Aa Aa Aa) Aa (Aw Aa) (Ab Bv Aa Aa Aa T3 F Aa 3 Aa).q fun a w F W => ?_
    refine AZ F W (Ah F Aa Aa Aa Aa) Aa (Aw Aa) (An (v := Value.int .i64 x2.2.2.2.1) 1 F Aa Aa T3 Aa).q fun a w F W => ?_
    refine AZ F W (Ah F Aa Aa Aa Aa) Aa (Aw Aa) (Ab Bv Aa Aa Aa T3 F Aa 3 Aa).q fun a w F W => ?_
    refine AZ F W (Ah F Aa Aa Aa Aa) Aa (Aw Aa) (An (v := Value.int .i64 x3.2.2.2.1) 0 F Aa Aa T3 Aa).q fun a w F W => ?_
    refine AZ F W (Ah F Aa Aa Aa Aa) Aa (Aw Aa) (C2 F Aa Aa).q fun a w F W => ?_
    refine ls F W Aa (AU F Aa Aa Aa).q fun a w F W => ?_
    refine ls F W Aa (Af F Aa).q fun a w F W => ?_
    rcases Bool.eq_false_or_eq_true (decide (x2.2.2.2.1 ≠ x3.2.2.2.1)) with hb | hb
    ·
     have H := A0 (Ba hb) H
     rw [hb] at F
     clear hb
     iterate 5 refine C3 F Aa Aa Aa Aa Aa Aa Aa fun a F => ?_
     refine ls F W Aa (Av F Aa Aa Aa).q fun a w F W => ?_
     refine ls F W Aa (Af F Aa).q fun a w F W => ?_
     iterate 5 refine C3 F Aa Aa Aa Aa Aa Aa Aa fun a F => ?_
     refine ls F W Aa (Av F Aa Aa Aa).q fun a w F W => ?_
     refine ls F W Aa (Af F Aa).q fun a w F W => ?_
     iterate 5 refine C3 F Aa Aa Aa Aa Aa Aa Aa fun a F => ?_
     refine ls F W Aa (Av F Aa Aa Aa).q fun a w F W => ?_
     refine ls F W Aa (Af F Aa).q fun a w F W => ?_
     iterate 6 refine C3 F Aa Aa Aa Aa Aa Aa Aa fun a F => ?_
     refine ls F W Aa (Av F Aa Aa Aa).q fun a w F W => ?_
     refine Ae (Ac ?_)
     have W := W.frontM (i := 1) Aa Aa
     have W := W.frontM (i := 1) Aa Aa
     exact ⟨_, H, F.re ⟨rfl, Aa, Aa, Aa, Aa, trivial⟩, W⟩
    have H := AY (A7 hb) H
    rw [hb] at F
    clear hb
    refine AZ F W (Ah F Aa Aa Aa Aa) Aa (Aw Aa) (Ab Bv Aa Aa Aa T3 F Aa 5 Aa).q fun a w F W => ?_
    refine AZ F W (Ah F Aa Aa Aa Aa) Aa (Aw Aa) (An (v := Value.int .i64 x2.2.2.2.2.2.1) 1 F Aa Aa T3 Aa).q fun a w F W => ?_
    refine AZ F W (Ah F Aa Aa Aa Aa) Aa (Aw Aa) (Ab Bv Aa Aa Aa T3 F Aa 5 Aa).q fun a w F W => ?_
    refine AZ F W (Ah F Aa Aa Aa Aa) Aa (Aw Aa) (An (v := Value.int .i64 x3.2.2.2.2.2.1) 0 F Aa Aa T3 Aa).q fun a w F W => ?_
    refine AZ F W (Ah F Aa Aa Aa Aa) Aa (Aw Aa) (C2 F Aa Aa).q fun a w F W => ?_
    refine ls F W Aa (AU F Aa Aa Aa).q fun a w F W => ?_
    refine ls F W Aa (Af F Aa).q fun a w F W => ?_
    rcases Bool.eq_false_or_eq_true (decide (x2.2.2.2.2.2.1 ≠ x3.2.2.2.2.2.1)) with hb | hb
    ·
     have H := A0 (Ba hb) H
     rw [hb] at F
     clear hb
     iterate 5 refine C3 F Aa Aa Aa Aa Aa Aa Aa fun a F => ?_
     refine ls F W Aa (Av F Aa Aa Aa).q fun a w F W => ?_
     refine ls F W Aa (Af F Aa).q fun a w F W => ?_
     iterate 5 refine C3 F Aa Aa Aa Aa Aa Aa Aa fun a F => ?_
     refine ls F W Aa (Av F Aa Aa Aa).q fun a w F W => ?_
     refine ls F W Aa (Af F Aa).q fun a w F W => ?_
     iterate 6 refine C3 F Aa Aa Aa Aa Aa Aa Aa fun a F => ?_
     refine ls F W Aa (Av F Aa Aa Aa).q fun a w F W => ?_
     refine Ae (Ac ?_)
     have W := W.frontM (i := 1) Aa Aa
     have W := W.frontM (i := 1) Aa Aa
     exact ⟨_, H, F.re ⟨rfl, Aa, Aa, Aa, Aa, trivial⟩, W⟩
    have H := AY (A7 hb) H
    rw [hb] at F
    clear hb
    refine AZ F W (Ah F Aa Aa Aa Aa) Aa (Aw Aa) (Ab Bv Aa Aa Aa T3 F Aa 6 Aa).q fun a w F W => ?_
    refine AZ F W (Ah F Aa Aa Aa Aa) Aa (Aw Aa) (An (v := Value.int .i64 x2.2.2.2.2.2.2.1) 1 F Aa Aa T3 Aa).q fun a w F W => ?_
    refine AZ F W (Ah F Aa Aa Aa Aa) Aa (Aw Aa) (Ab Bv Aa Aa Aa T3 F Aa 6 Aa).q fun a w F W => ?_
    refine AZ F W (Ah F Aa Aa Aa Aa) Aa (Aw Aa) (An (v := Value.int .i64 x3.2.2.2.2.2.2.1) 0 F Aa Aa T3 Aa).q fun a w F W => ?_
    refine AZ F W (Ah F Aa Aa Aa Aa) Aa (Aw Aa) (C2 F Aa Aa).q fun a w F W => ?_
    refine ls F W Aa (AU F Aa Aa Aa).q fun a w F W => ?_
    refine ls F W Aa (Af F Aa).q fun a w F W => ?_
    rcases Bool.eq_false_or_eq_true (decide (x2.2.2.2.2.2.2.1 ≠ x3.2.2.2.2.2.2.1)) with hb | hb
    ·
     have H := A0 (Ba hb) H
     rw [hb] at F
     clear hb
     iterate 5 refine C3 F Aa Aa Aa Aa Aa Aa Aa fun a F => ?_
     refine ls F W Aa (Av F Aa Aa Aa).q fun a w F W => ?_
     refine ls F W Aa (Af F Aa).q fun a w F W => ?_
     iterate 6 refine C3 F Aa Aa Aa Aa Aa Aa Aa fun a F => ?_
     refine ls F W Aa (Av F Aa Aa Aa).q fun a w F W => ?_
     refine Ae (Ac ?_)
     have W := W.frontM (i := 1) Aa Aa
     have W := W.frontM (i := 1) Aa Aa
     exact ⟨_, H, F.re ⟨rfl, Aa, Aa, Aa, Aa, trivial⟩, W⟩
    have H := AY (A7 hb) H
    rw [hb] at F
    clear hb
    refine AZ F W (Ah F Aa Aa Aa Aa) Aa (Aw Aa) (Ab Bv Aa Aa Aa T3 F Aa 7 Aa).q fun a w F W => ?_
    refine AZ F W (Ah F Aa Aa Aa Aa) Aa (Aw Aa) (An (v := Value.int .i64 x2.2.2.2.2.2.2.2) 1 F Aa Aa T3 Aa).q fun a w F W => ?_
    refine AZ F W (Ah F Aa Aa Aa Aa) Aa (Aw Aa) (Ab Bv Aa Aa Aa T3 F Aa 7 Aa).q fun a w F W => ?_
    refine AZ F W (Ah F Aa Aa Aa Aa) Aa (Aw Aa) (An (v := Value.int .i64 x3.2.2.2.2.2.2.2) 0 F Aa Aa T3 Aa).q fun a w F W => ?_
    refine AZ F W (Ah F Aa Aa Aa Aa) Aa (Aw Aa) (C2 F Aa Aa).q fun a w F W => ?_
    refine ls F W Aa (AU F Aa Aa Aa).q fun a w F W => ?_
    refine ls F W Aa (Af F Aa).q fun a w F W => ?_
    rcases Bool.eq_false_or_eq_true (decide (x2.2.2.2.2.2.2.2 ≠ x3.2.2.2.2.2.2.2)) with hb | hb
    ·
     have H := A0 (Ba hb) H
     rw [hb] at F
     clear hb
     iterate 6 refine C3 F Aa Aa Aa Aa Aa Aa Aa fun a F => ?_
     refine ls F W Aa (Av F Aa Aa Aa).q fun a w F W => ?_
     refine Ae (Ac ?_)
     have W := W.frontM (i := 1) Aa Aa
     have W := W.frontM (i := 1) Aa Aa
     exact ⟨_, H, F.re ⟨rfl, Aa, Aa, Aa, Aa, trivial⟩, W⟩
    have H := AY (A7 hb) H
    rw [hb] at F
    clear hb
    refine AZ F W (Ah F Aa Aa Aa Aa) Aa (Aw Aa) (Ab Bv Aa Aa Aa C4 F Aa 4 Aa).q fun a w F W => ?_
    refine AZ F W (Ah F Aa Aa Aa Aa) Aa (Aw Aa) (An (v := (v5.2.2.2.2.1.1)) 1 F Aa Aa C4 Aa).q fun a w F W => ?_
    refine AZ F W (Ah F Aa Aa Aa Aa) Aa (Aw Aa) (Ab Bv Aa Aa Aa C4 F Aa 4 Aa).q fun a w F W => ?_
    refine AZ F W (Ah F Aa Aa Aa Aa) Aa (Aw Aa) (An (v := (v6.2.2.2.2.1.1)) 0 F Aa Aa C4 Aa).q fun a w F W => ?_
    refine HO (Ah F Aa Aa Aa Aa) ?_
    obtain ⟨x5, h11, H⟩ := Ak H
    refine ls F W Aa (AF (v := Value.bool x5) F Jm Aa (fun w W => FZ any w ((v5.2.2.2.2.1.1)) ((v6.2.2.2.2.1.1)) x2.2.2.2.2.1 x3.2.2.2.2.1 _ h11 (((BG (Ax h_v1) h4 (Al.snd (Al.snd (Al.snd (Al.snd (Al.fst Al.here))))) (congrArg (fun q : Int × Int × Int × Int × List Int × Int × Int × Int => q.2.2.2.2.1) h5)) : DU _ _ _ _ _ _) w W).nx (((BG (Ax h_v2) h8 (Al.snd (Al.snd (Al.snd (Al.snd (Al.fst Al.here))))) (congrArg (fun q : Int × Int × Int × Int × List Int × Int × Int × Int => q.2.2.2.2.1) h9)) : DU _ _ _ _ _ _) w W).nx)) fun a w F W => ?_
    refine AZ F W (Ah F Aa Aa Aa Aa) Aa (Aw Aa) (Gl F Aa).q fun a w F W => ?_
    refine ls F W Aa (AU F Aa Aa Aa).q fun a w F W => ?_
    refine Ae (Ac ?_)
    have W := W.frontM (i := 1) Aa Aa
    have W := W.frontM (i := 1) Aa Aa
    exact ⟨_, H, F.re ⟨rfl, Aa, Aa, Aa, Aa, trivial⟩, W⟩
   rintro a w ⟨x4, hj, F, W⟩
   have hj := A1 hj
   subst hj
   have H := K3
   clear G3 K3
   refine AB F Aa (fun hb => ?_) fun hb => ?_
   ·
    have H := A0 hb H
    rw [hb] at F
    clear hb
    refine Aj (Ad ?_)
    refine ls F W Aa (Ag F Aa).q fun a w F W => ?_
    refine Ae (Ac (AJ (B1 ?_)))
    iterate 2 refine Bc ?_
    refine B1 (Bc ?_)
    have H := L2 _ H
    have H := L1 _ H
    have H := A1 H
    subst H
    refine A9 (.inl Aa) F W Aa (AM F Aa) ?_
    exact ⟨rfl, W.done⟩
   have H := AY (by rw [hb]; decide) H
   rw [hb] at F
   clear hb
   refine Ay (AO (Ac (Ad ?_)))
   refine ls F W Aa (Af F Aa).q fun a w F W => ?_
   refine ls F W Aa (CK F Aa Aa Aa).q fun a w F W => ?_
   refine ls F W Aa (Ag F Aa).q fun a w F W => ?_
   refine Ae (Ac ?_)
   have W := W.sub (M' := []) (Z' := []) (List.nil_sublist _) (List.Sublist.refl _)
   exact ⟨_, H, F.re ⟨rfl, Aa, Aa, Aa, trivial⟩, W⟩
  have H := AY (A7 hb) H
  rw [hb] at F
  clear hb
  refine BC ?_
  iterate 2 refine Cd ?_
  refine BA (Ac ?_)
  have H := L2 _ H
  exact ⟨H, F.re ⟨rfl, trivial⟩, W⟩
 rintro a w ⟨hj, F, W⟩
 have H := K1 _ hj
 clear hj G1 K1 L1
 refine Aj (Ad ?_)
 refine ls F W Aa (Ag F Aa).q fun a w F W => ?_
 refine Ae (Ac (AJ ?_))
 have H := A1 H
 subst H
 refine A9 (.inl Aa) F W Aa (AM F Aa) ?_
 exact ⟨rfl, W.done⟩
theorem H8 : Has Tryd.prog 8 := ⟨fun args w => Ap Tryd.func8 rfl (by decide) args w⟩
noncomputable def BB (p0 : List Int) (x1 : Int) : Int → Option (Int ⊕ (Unit ⊕ (Int ⊕ (Unit ⊕ Bool))))
  | x2 => (if x2 < x1 then (ix p0 x1).bind fun x3 => (ix p0 x2).bind fun x4 => (if x3 = x4 then some (.inr (.inr (.inr (.inr true)))) else some (.inl (CV (x2 + 1)))) else some (.inr (.inl ())))
noncomputable def B0 (p0 : List Int) : Int → Option (Int ⊕ (Unit ⊕ Bool))
  | x1 => (if x1 < (p0.length : Int) then Ix (AP (BB p0 x1) 0) fun _ => some (.inl (CV (x1 + 1))) else some (.inr (.inl ())))
noncomputable def CX (p0 : List Int) : Option Bool := Ix (AP (B0 p0) 0) fun _ => some false
theorem FS (Y : Nat → Prop) (w0 : World) (v1 : Value) (p0 : List Int) (r : Bool) (H : CX p0 = some r) (h_v1 : Sl w0 (NX []) (Rp.int .i64) v1 p0) :
    Calls Tryd.prog 12 #[v1] w0 fun e w' => e = .returned (.bool r) ∧ Below w0.heap.size w0 w' := by
 refine enter Tryd.func12 Aa Tryd.ntmps12 Aa fun a F => ?_
 have W := Stw.start Y w0
 unfold CX at H
 refine Aj (Ad ?_)
 refine ls F W Aa (Ag F Aa).q fun a w F W => ?_
 refine Ae (Ac ?_)
 obtain ⟨o1, G1, K1, L1⟩ := IB H
 refine A3 (fun a w => some (Sum.inl ()) = some o1 ∧ Fr 25 [] [(2, .bool false)] a ∧ Stw ⟨Y, [], w0⟩ [] [] w) ?_ ?_
 ·
  have H := G1
  clear G1 K1
  refine Aj (Ad ?_)
  refine ls F W Aa (Ag F Aa).q fun a w F W => ?_
  refine Ae (Ac (AD ?_))
  refine BN H (fun s a w => Fr 25 [] [(0, v1), (2, .bool false), (3, .int .i64 s)] a ∧ Stw ⟨Y, [], w0⟩ [] [] w) ⟨F.re ⟨rfl, Aa, Aa, trivial⟩, W⟩ fun s o a w H L2 hR => ?_
  obtain ⟨x1, rfl⟩ : ∃ x, x = s := ⟨s, rfl⟩
  obtain ⟨F, W⟩ := hR
  have F : Fr 25 [] [(0, v1), (2, .bool false), (3, .int .i64 x1)] a := F
  have W : Stw ⟨Y, [], w0⟩ [] [] w := W
  rw [B0] at H
  refine Aj (Aj (Ad ?_))
  iterate 2 refine ls F W Aa (Af F Aa).q fun a w F W => ?_
  refine ls F W Aa (BT (r := (Rp.int .i64)) (l := p0) Eu Aa F Aa (Ax h_v1)).q fun a w F W => ?_
  refine ls F W Aa (Cn F Aa Aa).q fun a w F W => ?_
  refine Ae (Ac ?_)
  refine AB F Aa (fun hb => ?_) fun hb => ?_
  ·
   have H := A0 (Ba hb) H
   rw [hb] at F
   clear hb
   refine Ay (Ac ?_)
   obtain ⟨o3, G3, K3, L3⟩ := IB H
   refine A3 (fun a w => some (Sum.inl ()) = some o3 ∧ Fr 25 [] [(0, v1), (2, .bool false), (3, .int .i64 x1)] a ∧ Stw ⟨Y, [], w0⟩ [] [] w) ?_ ?_
   ·
    have H := G3
    clear G3 K3
    refine AD (Aj (Ad ?_))
    refine ls F W Aa (Ag F Aa).q fun a w F W => ?_
    refine Ae (Ac (AD ?_))
    refine BN H (fun s a w => Fr 25 [] [(0, v1), (2, .bool false), (3, .int .i64 x1), (4, .int .i64 s)] a ∧ Stw ⟨Y, [], w0⟩ [] [] w) ⟨F.re ⟨rfl, Aa, Aa, Aa, trivial⟩, W⟩ fun s o a w H L4 hR => ?_
    obtain ⟨x2, rfl⟩ : ∃ x, x = s := ⟨s, rfl⟩
    obtain ⟨F, W⟩ := hR
    have F : Fr 25 [] [(0, v1), (2, .bool false), (3, .int .i64 x1), (4, .int .i64 x2)] a := F
    have W : Stw ⟨Y, [], w0⟩ [] [] w := W
    rw [BB] at H
    refine Aj (Aj (Ad ?_))
    iterate 2 refine ls F W Aa (Af F Aa).q fun a w F W => ?_
    refine ls F W Aa (Cn F Aa Aa).q fun a w F W => ?_
    refine Ae (Ac ?_)
    refine AB F Aa (fun hb => ?_) fun hb => ?_
    ·
     have H := A0 (Ba hb) H
     rw [hb] at F
     clear hb
     refine Ay (Ac (Aj (AD (Aj ?_))))
     refine BQ W MO (by kernel_rfl) ?_
     iterate 2 refine qs F Aa (Af F Aa).q fun a F => ?_
     obtain ⟨x3, h1, H⟩ := Ak H
     refine qs F Aa (AE (r := (Rp.int .i64)) Gg F Aa Aa (Ax h_v1) h1).q fun a F => ?_
     refine qs F Aa (Az (y := Value.int .i64 x3) (j := 0) (i := x1) F Aa Aa (Ax h_v1) h1 Fl.int.to T3 Aa).q fun a F => ?_
     iterate 2 refine qs F Aa (Af F Aa).q fun a F => ?_
     obtain ⟨x4, h2, H⟩ := Ak H
     refine qs F Aa (AE (r := (Rp.int .i64)) Gg F Aa Aa (Ax h_v1) h2).q fun a F => ?_
     refine qs F Aa (Az (y := Value.int .i64 x4) (j := 0) (i := x2) F Aa Aa (Ax h_v1) h2 Fl.int.to T3 Aa).q fun a F => ?_
     refine qs F Aa (B3 F Aa Aa).q fun a F => ?_
     refine A2 fun w W => ?_
     refine Ac ?_
     refine AB F Aa (fun hb => ?_) fun hb => ?_
     ·
      have H := A0 (Ba hb) H
      rw [hb] at F
      clear hb
      refine Aj (Ad ?_)
      refine ls F W Aa (Ag F Aa).q fun a w F W => ?_
      refine Ae (Ac (AJ (B1 ?_)))
      iterate 2 refine Bc ?_
      iterate 2 refine B1 ?_
      iterate 2 refine Bc ?_
      refine B1 (Bc ?_)
      have H := L4 _ H
      have H := L3 _ H
      have H := L2 _ H
      have H := L1 _ H
      have H := A1 H
      subst H
      refine A9 (.inl Aa) F W Aa (AM F Aa) ?_
      exact ⟨rfl, W.done⟩
     have H := AY (A7 hb) H
     rw [hb] at F
     clear hb
     refine Ay (AO (Ac (Ad ?_)))
     refine ls F W Aa (Af F Aa).q fun a w F W => ?_
     refine ls F W Aa (CK F Aa Aa Aa).q fun a w F W => ?_
     refine ls F W Aa (Ag F Aa).q fun a w F W => ?_
     refine Ae (Ac ?_)
     exact ⟨_, H, F.re ⟨rfl, Aa, Aa, Aa, trivial⟩, W⟩
    have H := AY (A7 hb) H
    rw [hb] at F
    clear hb
    refine BC ?_
    iterate 2 refine Cd ?_
    refine BA (AO (Ac ?_))
    have H := L4 _ H
    exact ⟨H, F.re ⟨rfl, Aa, Aa, trivial⟩, W⟩
   rintro a w ⟨hj, F, W⟩
   have H := K3 _ hj
   clear hj G3 K3 L3
   refine Ad ?_
   refine ls F W Aa (Af F Aa).q fun a w F W => ?_
   refine ls F W Aa (CK F Aa Aa Aa).q fun a w F W => ?_
   refine ls F W Aa (Ag F Aa).q fun a w F W => ?_
   refine Ae (Ac ?_)
   exact ⟨_, H, F.re ⟨rfl, Aa, Aa, trivial⟩, W⟩
  have H := AY (A7 hb) H
  rw [hb] at F
  clear hb
  refine BC ?_
  iterate 2 refine Cd ?_
  refine BA (Ac ?_)
  have H := L2 _ H
  exact ⟨H, F.re ⟨rfl, trivial⟩, W⟩
 rintro a w ⟨hj, F, W⟩
 have H := K1 _ hj
 clear hj G1 K1 L1
 refine Aj (Ad ?_)
 refine ls F W Aa (Ag F Aa).q fun a w F W => ?_
 refine Ae (Ac (AJ ?_))
 have H := A1 H
 subst H
 refine A9 (.inl Aa) F W Aa (AM F Aa) ?_
 exact ⟨rfl, W.done⟩
theorem Je : type_of% Tryd.underlying9 := Tryd.underlying9
theorem Jp : Has Tryd.prog 12 := ⟨fun args w => Ap Tryd.func12 rfl (by decide) args w⟩
theorem GR : Has Tryd.prog 21 := ⟨fun args w => Ap Tryd.func21 rfl (by decide) args w⟩
noncomputable def Cf (fRec : Int → Option (List UInt8)) (p0 : Int) : Option (List UInt8) := (if p0 < 0 then (if (-10) < p0 then (fRec (CV (0 - p0))).bind fun x1 => (BV ([45] : List UInt8) x1).bind fun x2 => some x2 else (fRec (CV (0 - (CV (Int.tdiv p0 10))))).bind fun x3 => (BV ([45] : List UInt8) x3).bind fun x4 => (fRec (CV (0 - (Int.tmod p0 10)))).bind fun x5 => (BV x4 x5).bind fun x6 => some x6) else (if p0 < 10 then (EC ([48, 49, 50, 51, 52, 53, 54, 55, 56, 57] : List UInt8) p0 (CV (p0 + 1))).bind fun x7 => some x7 else (fRec (CV (Int.tdiv p0 10))).bind fun x8 => (EC ([48, 49, 50, 51, 52, 53, 54, 55, 56, 57] : List UInt8) (Int.tmod p0 10) (CV ((Int.tmod p0 10) + 1))).bind fun x9 => (BV x8 x9).bind fun x10 => some x10))
noncomputable def BZ : Nat → Int → Option (List UInt8)
  | 0 => fun _ => none
  | n + 1 => Cf (BZ n)
noncomputable def Bl (p0 : Int) : Option (List UInt8) := GA fun n => BZ n p0
theorem EN (fRec : Int → Option (List UInt8)) (ih : ∀ (Y : Nat → Prop) (w0 : World)  (p0 : Int) (r : List UInt8) (H : fRec p0 = some r) , Calls Tryd.prog 21 #[.int .i64 p0] w0 fun e w' => e = .returned (.string (bs r)) ∧ Below w0.heap.size w0 w') (Y : Nat → Prop) (w0 : World)  (p0 : Int) (r : List UInt8) (H : Cf fRec p0 = some r)  :
    Calls Tryd.prog 21 #[.int .i64 p0] w0 fun e w' => e = .returned (.string (bs r)) ∧ Below w0.heap.size w0 w' := by
 refine enter Tryd.func21 Aa Tryd.ntmps21 Aa fun a F => ?_
 have W := Stw.start Y w0
 unfold Cf at H
 refine Aj (Ad ?_)
 refine ls F W Aa (Ag (v := Value.string (bs ([] : List UInt8))) F Aa).q fun a w F W => ?_
 refine Ae (Ac (Aj (Aj (Ad ?_))))
 refine ls F W Aa (Af F Aa).q fun a w F W => ?_
 refine ls F W Aa (Cn F Aa Aa).q fun a w F W => ?_
 refine Ae (Ac ?_)
 refine AB F Aa (fun hb => ?_) fun hb => ?_
 ·
  have H := A0 (Ba hb) H
  rw [hb] at F
  clear hb
  refine Aj (Aj (Ad ?_))
  refine ls F W Aa (Af F Aa).q fun a w F W => ?_
  refine ls F W Aa (GY F Aa Aa).q fun a w F W => ?_
  refine Ae (Ac ?_)
  refine AB F Aa (fun hb => ?_) fun hb => ?_
  ·
   have H := A0 (Ba hb) H
   rw [hb] at F
   clear hb
   refine Aj (Ad ?_)
   refine ls F W Aa (Af F Aa).q fun a w F W => ?_
   refine ls F W Aa (Ft F Aa Aa Aa).q fun a w F W => ?_
   obtain ⟨x1, h1, H⟩ := Ak H
   refine ls F W Aa (AF (v := Value.string (bs x1)) F GR Aa (fun w W => ih any w (CV (0 - p0)) _ h1)) fun a w F W => ?_
   obtain ⟨x2, h2, H⟩ := Ak H
   refine ls F W Aa (AK (l := ([45] : List UInt8)) (m := x1) F Aa Aa h2).q fun a w F W => ?_
   refine ls F W Aa (Ag F Aa).q fun a w F W => ?_
   refine Ae (Ac (AJ ?_))
   iterate 2 refine Bc ?_
   have H := A1 H
   subst H
   refine A9 (.inl Aa) F W Aa (AM F Aa) ?_
   exact ⟨rfl, W.done⟩
  have H := AY (A7 hb) H
  rw [hb] at F
  clear hb
  refine Ay (Ac (Aj (Ad ?_)))
  refine ls F W Aa (Af F Aa).q fun a w F W => ?_
  refine ls F W Aa (H3 F Aa Aa (by decide) Aa).q fun a w F W => ?_
  refine ls F W Aa (Ft F Aa Aa Aa).q fun a w F W => ?_
  obtain ⟨x3, h3, H⟩ := Ak H
  refine ls F W Aa (AF (v := Value.string (bs x3)) F GR Aa (fun w W => ih any w (CV (0 - (CV (Int.tdiv p0 10)))) _ h3)) fun a w F W => ?_
  obtain ⟨x4, h4, H⟩ := Ak H
  refine ls F W Aa (AK (l := ([45] : List UInt8)) (m := x3) F Aa Aa h4).q fun a w F W => ?_
  refine ls F W Aa (Af F Aa).q fun a w F W => ?_
  refine ls F W Aa (Hk F Aa Aa (by decide) Aa).q fun a w F W => ?_
  refine ls F W Aa (Ft F Aa Aa Aa).q fun a w F W => ?_
  obtain ⟨x5, h5, H⟩ := Ak H
  refine ls F W Aa (AF (v := Value.string (bs x5)) F GR Aa (fun w W => ih any w (CV (0 - (Int.tmod p0 10))) _ h5)) fun a w F W => ?_
  obtain ⟨x6, h6, H⟩ := Ak H
  refine ls F W Aa (AK (l := x4) (m := x5) F Aa Aa h6).q fun a w F W => ?_
  refine ls F W Aa (Ag F Aa).q fun a w F W => ?_
  refine Ae (Ac (AJ (Bc ?_)))
  have H := A1 H
  subst H
  refine A9 (.inl Aa) F W Aa (AM F Aa) ?_
  exact ⟨rfl, W.done⟩
 have H := AY (A7 hb) H
 rw [hb] at F
 clear hb
 refine Ay (Ac (Aj (Aj (Ad ?_))))
 refine ls F W Aa (Af F Aa).q fun a w F W => ?_
 refine ls F W Aa (Cn F Aa Aa).q fun a w F W => ?_
 refine Ae (Ac ?_)
 refine AB F Aa (fun hb => ?_) fun hb => ?_
 ·
  have H := A0 (Ba hb) H
  rw [hb] at F
  clear hb
  refine Aj (Ad ?_)
  iterate 2 refine ls F W Aa (Af F Aa).q fun a w F W => ?_
  refine ls F W Aa (CK F Aa Aa Aa).q fun a w F W => ?_
  obtain ⟨x7, h7, H⟩ := Ak H
  refine ls F W Aa (FN (l := ([48, 49, 50, 51, 52, 53, 54, 55, 56, 57] : List UInt8)) Je F Aa Aa Aa h7).q fun a w F W => ?_
  refine ls F W Aa (Ag F Aa).q fun a w F W => ?_
  refine Ae (Ac (AJ (Bc ?_)))
  have H := A1 H
  subst H
  refine A9 (.inl Aa) F W Aa (AM F Aa) ?_
  exact ⟨rfl, W.done⟩
 have H := AY (A7 hb) H
 rw [hb] at F
 clear hb
 refine Ay (Ac (Aj ?_))
 refine BQ W MO (by kernel_rfl) ?_
 refine qs F Aa (Af F Aa).q fun a F => ?_
 refine qs F Aa (H3 F Aa Aa (by decide) Aa).q fun a F => ?_
 obtain ⟨x8, h8, H⟩ := Ak H
 refine qs F Aa (AF (v := Value.string (bs x8)) F GR Aa (fun w W => ih any w (CV (Int.tdiv p0 10)) _ h8)) fun a F => ?_
 refine qs F Aa (Af F Aa).q fun a F => ?_
 refine qs F Aa (Hk F Aa Aa (by decide) Aa).q fun a F => ?_
 refine qs F Aa (Af F Aa).q fun a F => ?_
 refine qs F Aa (Hk F Aa Aa (by decide) Aa).q fun a F => ?_
 refine qs F Aa (CK F Aa Aa Aa).q fun a F => ?_
 obtain ⟨x9, h9, H⟩ := Ak H
 refine qs F Aa (FN (l := ([48, 49, 50, 51, 52, 53, 54, 55, 56, 57] : List UInt8)) Je F Aa Aa Aa h9).q fun a F => ?_
 obtain ⟨x10, h10, H⟩ := Ak H
 refine qs F Aa (AK (l := x8) (m := x9) F Aa Aa h10).q fun a F => ?_
 refine qs F Aa (Ag F Aa).q fun a F => ?_
 refine A2 fun w W => ?_
 refine Ac (AJ ?_)
 have H := A1 H
 subst H
 refine A9 (.inl Aa) F W Aa (AM F Aa) ?_
 exact ⟨rfl, W.done⟩
theorem EX : ∀ (n : Nat) (Y : Nat → Prop) (w0 : World)  (p0 : Int) (r : List UInt8) (H : BZ n p0 = some r) , Calls Tryd.prog 21 #[.int .i64 p0] w0 fun e w' => e = .returned (.string (bs r)) ∧ Below w0.heap.size w0 w' := by
  intro n
  induction n with
  | zero => intro Y w0  p0 r H; exact nomatch H
  | succ n ih => intro Y w0  p0 r H ; exact EN (BZ n) ih Y w0  p0 r H 
theorem Bd (Y : Nat → Prop) (w0 : World)  (p0 : Int) (r : List UInt8) (H : Bl p0 = some r)  :
    Calls Tryd.prog 21 #[.int .i64 p0] w0 fun e w' => e = .returned (.string (bs r)) ∧ Below w0.heap.size w0 w' := by
  obtain ⟨n, H⟩ := GK H
  exact EX n Y w0  p0 r H 
noncomputable def Bz (p0 : Int × Int × Int × Int × List Int × Int × Int × Int) : (List UInt8 × Int) → Option ((List UInt8 × Int) ⊕ (List UInt8))
  | (x13, x14) => (if x14 < (p0.2.2.2.2.1.length : Int) then (BV x13 ([32] : List UInt8)).bind fun x15 => (ix p0.2.2.2.2.1 x14).bind fun x16 => (Bl x16).bind fun x17 => (BV x15 x17).bind fun x18 => some (.inl (x18, CV (x14 + 1))) else some (.inr x13))
noncomputable def Dh (p0 : Int × Int × Int × Int × List Int × Int × Int × Int) : Option (List UInt8) := (Bl p0.1).bind fun x1 => (BV x1 ([58, 32] : List UInt8)).bind fun x2 => (Bl p0.2.1).bind fun x3 => (BV x2 x3).bind fun x4 => (BV x4 ([62] : List UInt8)).bind fun x5 => (Bl p0.2.2.1).bind fun x6 => (BV x5 x6).bind fun x7 => (BV x7 ([32, 97, 116, 32] : List UInt8)).bind fun x8 => (Bl p0.2.2.2.1).bind fun x9 => (BV x8 x9).bind fun x10 => (BV x10 ([58] : List UInt8)).bind fun x11 => (AP (Bz p0) (x11, 0)).bind fun x12 => (if p0.2.2.2.2.2.1 = 3 then (BV x12 ([32, 103, 111, 110, 101, 32] : List UInt8)).bind fun x19 => (Bl p0.2.2.2.2.2.2.1).bind fun x20 => (BV x19 x20).bind fun x21 => (BV x21 ([32, 97, 116, 32] : List UInt8)).bind fun x22 => (Bl p0.2.2.2.2.2.2.2).bind fun x23 => (BV x22 x23).bind fun x24 => some x24 else (if p0.2.2.2.2.2.1 = 4 then (BV x12 ([32, 100, 114, 111, 112, 112, 101, 100, 32, 97, 116, 32] : List UInt8)).bind fun x25 => (Bl p0.2.2.2.2.2.2.2).bind fun x26 => (BV x25 x26).bind fun x27 => some x27 else (BV x12 ([32, 111, 110, 32, 105, 116, 115, 32, 119, 97, 121] : List UInt8)).bind fun x28 => some x28))
theorem Gb (Y : Nat → Prop) (w0 : World) (v1 : Value) (p0 : Int × Int × Int × Int × List Int × Int × Int × Int) (r : List UInt8) (H : Dh p0 = some r) (h_v1 : Sl w0 (NX []) (Rp.int .i64) v1 p0.2.2.2.2.1) :
    Calls Tryd.prog 14 #[.agg #[.int .i64 p0.1, .int .i64 p0.2.1, .int .i64 p0.2.2.1, .int .i64 p0.2.2.2.1, v1, .int .i64 p0.2.2.2.2.2.1, .int .i64 p0.2.2.2.2.2.2.1, .int .i64 p0.2.2.2.2.2.2.2]] w0 fun e w' => e = .returned (.string (bs r)) ∧ Below w0.heap.size w0 w' := by
 refine enter Tryd.func14 Aa Tryd.ntmps14 Aa fun a F => ?_
 have W := Stw.start Y w0
 unfold Dh at H
 refine Aj (Ad ?_)
 refine D9 (cs := [.int .i64 p0.1, .int .i64 p0.2.1, .int .i64 p0.2.2.1, .int .i64 p0.2.2.2.1, v1, .int .i64 p0.2.2.2.2.2.1, .int .i64 p0.2.2.2.2.2.2.1, .int .i64 p0.2.2.2.2.2.2.2]) F W Aa Aa Aa fun b1 a w F W => ?_
 refine ls F W Aa (Ag (v := Value.string (bs ([] : List UInt8))) F Aa).q fun a w F W => ?_
 refine Ae (Ac (Aj ?_))
 refine BQ W MO (by kernel_rfl) ?_
 refine qs F Aa (Ab Bv Aa Aa Aa T3 F Aa 0 Aa).q fun a F => ?_
 refine qs F Aa (An (v := Value.int .i64 p0.1) 0 F Aa Aa T3 Aa).q fun a F => ?_
 obtain ⟨x1, h1, H⟩ := Ak H
 refine qs F Aa (AF (v := Value.string (bs x1)) F GR Aa (fun w W => Bd any w p0.1 _ h1)) fun a F => ?_
 obtain ⟨x2, h2, H⟩ := Ak H
 refine qs F Aa (AK (l := x1) (m := ([58, 32] : List UInt8)) F Aa Aa h2).q fun a F => ?_
 refine qs F Aa (Ab Bv Aa Aa Aa T3 F Aa 1 Aa).q fun a F => ?_
 refine qs F Aa (An (v := Value.int .i64 p0.2.1) 0 F Aa Aa T3 Aa).q fun a F => ?_
 obtain ⟨x3, h3, H⟩ := Ak H
 refine qs F Aa (AF (v := Value.string (bs x3)) F GR Aa (fun w W => Bd any w p0.2.1 _ h3)) fun a F => ?_
 obtain ⟨x4, h4, H⟩ := Ak H
 refine qs F Aa (AK (l := x2) (m := x3) F Aa Aa h4).q fun a F => ?_
 obtain ⟨x5, h5, H⟩ := Ak H
 refine qs F Aa (AK (l := x4) (m := ([62] : List UInt8)) F Aa Aa h5).q fun a F => ?_
 refine qs F Aa (Ab Bv Aa Aa Aa T3 F Aa 2 Aa).q fun a F => ?_
 refine qs F Aa (An (v := Value.int .i64 p0.2.2.1) 0 F Aa Aa T3 Aa).q fun a F => ?_
 obtain ⟨x6, h6, H⟩ := Ak H
 refine qs F Aa (AF (v := Value.string (bs x6)) F GR Aa (fun w W => Bd any w p0.2.2.1 _ h6)) fun a F => ?_
 obtain ⟨x7, h7, H⟩ := Ak H
 refine qs F Aa (AK (l := x5) (m := x6) F Aa Aa h7).q fun a F => ?_
 obtain ⟨x8, h8, H⟩ := Ak H
 refine qs F Aa (AK (l := x7) (m := ([32, 97, 116, 32] : List UInt8)) F Aa Aa h8).q fun a F => ?_
 refine qs F Aa (Ab Bv Aa Aa Aa T3 F Aa 3 Aa).q fun a F => ?_
 refine qs F Aa (An (v := Value.int .i64 p0.2.2.2.1) 0 F Aa Aa T3 Aa).q fun a F => ?_
 obtain ⟨x9, h9, H⟩ := Ak H
 refine qs F Aa (AF (v := Value.string (bs x9)) F GR Aa (fun w W => Bd any w p0.2.2.2.1 _ h9)) fun a F => ?_
 obtain ⟨x10, h10, H⟩ := Ak H
 refine qs F Aa (AK (l := x8) (m := x9) F Aa Aa h10).q fun a F => ?_
 obtain ⟨x11, h11, H⟩ := Ak H
 refine qs F Aa (AK (l := x10) (m := ([58] : List UInt8)) F Aa Aa h11).q fun a F => ?_
 refine qs F Aa (Ag F Aa).q fun a F => ?_
 refine A2 fun w W => ?_
 refine Ac ?_
 obtain ⟨o1, G1, K1⟩ := Ak H
 refine A3 (fun a w => ∃ x12 : List UInt8, some (x12) = some o1 ∧ Fr 65 [] [(1, .pointer (some ⟨b1, 0, none⟩)), (2, .string (bs ([] : List UInt8))), (3, .string (bs x12))] a ∧ Stw ⟨Y, [], w0⟩ [(b1, [.int .i64 p0.1, .int .i64 p0.2.1, .int .i64 p0.2.2.1, .int .i64 p0.2.2.2.1, v1, .int .i64 p0.2.2.2.2.2.1, .int .i64 p0.2.2.2.2.2.2.1, .int .i64 p0.2.2.2.2.2.2.2])] [] w) ?_ ?_
 ·
  have H := G1
  clear G1 K1
  refine Aj (Ad ?_)
  refine ls F W Aa (Ag F Aa).q fun a w F W => ?_
  refine Ae (Ac (AD ?_))
  refine BN H (fun s a w => Fr 65 [] [(1, .pointer (some ⟨b1, 0, none⟩)), (2, .string (bs ([] : List UInt8))), (3, .string (bs s.1)), (4, .int .i64 s.2)] a ∧ Stw ⟨Y, [], w0⟩ [(b1, [.int .i64 p0.1, .int .i64 p0.2.1, .int .i64 p0.2.2.1, .int .i64 p0.2.2.2.1, v1, .int .i64 p0.2.2.2.2.2.1, .int .i64 p0.2.2.2.2.2.2.1, .int .i64 p0.2.2.2.2.2.2.2])] [] w) ⟨F.re ⟨rfl, Aa, Aa, Aa, trivial⟩, W⟩ fun s o a w H L2 hR => ?_
  obtain ⟨x13, x14⟩ := s
  obtain ⟨F, W⟩ := hR
  have F : Fr 65 [] [(1, .pointer (some ⟨b1, 0, none⟩)), (2, .string (bs ([] : List UInt8))), (3, .string (bs x13)), (4, .int .i64 x14)] a := F
  have W : Stw ⟨Y, [], w0⟩ [(b1, [.int .i64 p0.1, .int .i64 p0.2.1, .int .i64 p0.2.2.1, .int .i64 p0.2.2.2.1, v1, .int .i64 p0.2.2.2.2.2.1, .int .i64 p0.2.2.2.2.2.2.1, .int .i64 p0.2.2.2.2.2.2.2])] [] w := W
  rw [Bz] at H
  refine Aj (Aj (Ad ?_))
  refine ls F W Aa (Af F Aa).q fun a w F W => ?_
  refine ls F W Aa (Ab Bv Aa Aa Aa C4 F Aa 4 Aa).q fun a w F W => ?_
  refine ls F W Aa (An (v := v1) 0 F Aa Aa C4 Aa).q fun a w F W => ?_
  refine ls F W Aa (BT (r := (Rp.int .i64)) (l := p0.2.2.2.2.1) Eu Aa F Aa (Ax h_v1)).q fun a w F W => ?_
  refine ls F W Aa (Cn F Aa Aa).q fun a w F W => ?_
  refine Ae (Ac ?_)
  refine AB F Aa (fun hb => ?_) fun hb => ?_
  ·
   have H := A0 (Ba hb) H
   rw [hb] at F
   clear hb
   refine Ay (Ac (Aj (AD (Ad ?_))))
   refine ls F W Aa (Af F Aa).q fun a w F W => ?_
   obtain ⟨x15, h12, H⟩ := Ak H
   refine ls F W Aa (AK (l := x13) (m := ([32] : List UInt8)) F Aa Aa h12).q fun a w F W => ?_
   refine ls F W Aa (Ab Bv Aa Aa Aa C4 F Aa 4 Aa).q fun a w F W => ?_
   refine ls F W Aa (An (v := v1) 0 F Aa Aa C4 Aa).q fun a w F W => ?_
   refine ls F W Aa (Af F Aa).q fun a w F W => ?_
   obtain ⟨x16, h13, H⟩ := Ak H
   refine ls F W Aa (AE (r := (Rp.int .i64)) Gg F Aa Aa (Ax h_v1) h13).q fun a w F W => ?_
   refine ls F W Aa (Az (y := Value.int .i64 x16) (j := 0) (i := x14) F Aa Aa (Ax h_v1) h13 Fl.int.to T3 Aa).q fun a w F W => ?_
   obtain ⟨x17, h14, H⟩ := Ak H
   refine ls F W Aa (AF (v := Value.string (bs x17)) F GR Aa (fun w W => Bd any w x16 _ h14)) fun a w F W => ?_
   obtain ⟨x18, h15, H⟩ := Ak H
   refine ls F W Aa (AK (l := x15) (m := x17) F Aa Aa h15).q fun a w F W => ?_
   refine ls F W Aa (Ag F Aa).q fun a w F W => ?_
   refine Ae (AO (Ac (Ad ?_)))
   refine ls F W Aa (Af F Aa).q fun a w F W => ?_
   refine ls F W Aa (CK F Aa Aa Aa).q fun a w F W => ?_
   refine ls F W Aa (Ag F Aa).q fun a w F W => ?_
   refine Ae (Ac ?_)
   exact ⟨_, H, F.re ⟨rfl, Aa, Aa, Aa, trivial⟩, W⟩
  have H := AY (A7 hb) H
  rw [hb] at F
  clear hb
  refine BC ?_
  iterate 2 refine Cd ?_
  refine BA (Ac ?_)
  have H := L2 _ H
  exact ⟨_, H, F.re ⟨rfl, Aa, Aa, trivial⟩, W⟩
 rintro a w ⟨x12, hj, F, W⟩
 have hj := A1 hj
 subst hj
 have H := K1
 clear G1 K1
 refine Aj (Aj (Ad ?_))
 refine ls F W Aa (Ab Bv Aa Aa Aa T3 F Aa 5 Aa).q fun a w F W => ?_
 refine ls F W Aa (An (v := Value.int .i64 p0.2.2.2.2.2.1) 0 F Aa Aa T3 Aa).q fun a w F W => ?_
 refine ls F W Aa (B3 F Aa Aa).q fun a w F W => ?_
 refine Ae (Ac ?_)
 refine AB F Aa (fun hb => ?_) fun hb => ?_
 ·
  have H := A0 (Ba hb) H
  rw [hb] at F
  clear hb
  refine Aj ?_
  refine BQ W MO (by kernel_rfl) ?_
  refine qs F Aa (Af F Aa).q fun a F => ?_
  obtain ⟨x19, h16, H⟩ := Ak H
  refine qs F Aa (AK (l := x12) (m := ([32, 103, 111, 110, 101, 32] : List UInt8)) F Aa Aa h16).q fun a F => ?_
  refine qs F Aa (Ab Bv Aa Aa Aa T3 F Aa 6 Aa).q fun a F => ?_
  refine qs F Aa (An (v := Value.int .i64 p0.2.2.2.2.2.2.1) 0 F Aa Aa T3 Aa).q fun a F => ?_
  obtain ⟨x20, h17, H⟩ := Ak H
  refine qs F Aa (AF (v := Value.string (bs x20)) F GR Aa (fun w W => Bd any w p0.2.2.2.2.2.2.1 _ h17)) fun a F => ?_
  obtain ⟨x21, h18, H⟩ := Ak H
  refine qs F Aa (AK (l := x19) (m := x20) F Aa Aa h18).q fun a F => ?_
  obtain ⟨x22, h19, H⟩ := Ak H
  refine qs F Aa (AK (l := x21) (m := ([32, 97, 116, 32] : List UInt8)) F Aa Aa h19).q fun a F => ?_
  refine qs F Aa (Ab Bv Aa Aa Aa T3 F Aa 7 Aa).q fun a F => ?_
  refine qs F Aa (An (v := Value.int .i64 p0.2.2.2.2.2.2.2) 0 F Aa Aa T3 Aa).q fun a F => ?_
  obtain ⟨x23, h20, H⟩ := Ak H
  refine qs F Aa (AF (v := Value.string (bs x23)) F GR Aa (fun w W => Bd any w p0.2.2.2.2.2.2.2 _ h20)) fun a F => ?_
  obtain ⟨x24, h21, H⟩ := Ak H
  refine qs F Aa (AK (l := x22) (m := x23) F Aa Aa h21).q fun a F => ?_
  refine qs F Aa (Ag F Aa).q fun a F => ?_
  refine A2 fun w W => ?_
  refine Ac (AJ (Bc ?_))
  have H := A1 H
  subst H
  refine A9 (.inl Aa) F W Aa (AM F Aa) ?_
  exact ⟨rfl, W.done⟩
 have H := AY (A7 hb) H
 rw [hb] at F
 clear hb
 refine Ay (Ac (Aj (Aj (Ad ?_))))
 refine ls F W Aa (Ab Bv Aa Aa Aa T3 F Aa 5 Aa).q fun a w F W => ?_
 refine ls F W Aa (An (v := Value.int .i64 p0.2.2.2.2.2.1) 0 F Aa Aa T3 Aa).q fun a w F W => ?_
 refine ls F W Aa (B3 F Aa Aa).q fun a w F W => ?_
 refine Ae (Ac ?_)
 refine AB F Aa (fun hb => ?_) fun hb => ?_
 ·
  have H := A0 (Ba hb) H
  rw [hb] at F
  clear hb
  refine Aj (Ad ?_)
  refine ls F W Aa (Af F Aa).q fun a w F W => ?_
  obtain ⟨x25, h22, H⟩ := Ak H
  refine ls F W Aa (AK (l := x12) (m := ([32, 100, 114, 111, 112, 112, 101, 100, 32, 97, 116, 32] : List UInt8)) F Aa Aa h22).q fun a w F W => ?_
  refine ls F W Aa (Ab Bv Aa Aa Aa T3 F Aa 7 Aa).q fun a w F W => ?_
  refine ls F W Aa (An (v := Value.int .i64 p0.2.2.2.2.2.2.2) 0 F Aa Aa T3 Aa).q fun a w F W => ?_
  obtain ⟨x26, h23, H⟩ := Ak H
  refine ls F W Aa (AF (v := Value.string (bs x26)) F GR Aa (fun w W => Bd any w p0.2.2.2.2.2.2.2 _ h23)) fun a w F W => ?_
  obtain ⟨x27, h24, H⟩ := Ak H
  refine ls F W Aa (AK (l := x25) (m := x26) F Aa Aa h24).q fun a w F W => ?_
  refine ls F W Aa (Ag F Aa).q fun a w F W => ?_
  refine Ae (Ac (AJ (Bc ?_)))
  have H := A1 H
  subst H
  refine A9 (.inl Aa) F W Aa (AM F Aa) ?_
  exact ⟨rfl, W.done⟩
 have H := AY (A7 hb) H
 rw [hb] at F
 clear hb
 refine Ay (Ac (Aj (Ad ?_)))
 refine ls F W Aa (Af F Aa).q fun a w F W => ?_
 obtain ⟨x28, h25, H⟩ := Ak H
 refine ls F W Aa (AK (l := x12) (m := ([32, 111, 110, 32, 105, 116, 115, 32, 119, 97, 121] : List UInt8)) F Aa Aa h25).q fun a w F W => ?_
 refine ls F W Aa (Ag F Aa).q fun a w F W => ?_
 refine Ae (Ac (AJ ?_))
 have H := A1 H
 subst H
 refine A9 (.inl Aa) F W Aa (AM F Aa) ?_
 exact ⟨rfl, W.done⟩
theorem Jg : type_of% Tryd.underlying4 := Tryd.underlying4
theorem Jj : Has Tryd.prog 14 := ⟨fun args w => Ap Tryd.func14 rfl (by decide) args w⟩
noncomputable def Bf (x2 : (List (Int × Int × Int × Int × List Int × Int × Int × Int))) (x3 : (List (Int × Int × Int × Int × List Int × Int × Int × Int))) : Int → Option (Int ⊕ (Unit ⊕ Bool))
  | x6 => (if x6 < (x3.length : Int) then (ix x3 x6).bind fun x7 => (if (CV ((x7.2.2.2.2.1.length : Int) - 1)) < 0 then some 0 else some (CV ((x7.2.2.2.2.1.length : Int) - 1))).bind fun x8 => ((ix x2 x6).bind fun x10 => (if (Bj x10) ≠ x8 then some true else (ix x2 x6).bind fun x11 => (BR x11).bind fun x12 => (ix x3 x6).bind fun x13 => (CX x13.2.2.2.2.1).bind fun x14 => (if x12 ≠ x14 then some true else (ix x2 x6).bind fun x15 => (Ca x15).bind fun x16 => (ix x3 x6).bind fun x17 => (Dh x17).bind fun x18 => some (decide (x16 ≠ x18))))).bind fun x9 => (if x9 = true then some (.inr (.inr false)) else some (.inl (CV (x6 + 1)))) else some (.inr (.inl ())))
noncomputable def B5 (p0 : List (Int × Int × Int × Int × Int × Int)) : Option Bool := (if 100 < (p0.length : Int) then (Cz).bind fun x1 => some x1 else (CW p0).bind fun x2 => (EA p0).bind fun x3 => (CB x2).bind fun x4 => (C9 x4 x3).bind fun x5 => (if (!x5) = true then some false else Ix (AP (Bf x2 x3) 0) fun _ => (Cz).bind fun x19 => some x19))
theorem D0 (Y : Nat → Prop) (w0 : World) (v1 : Value) (p0 : List (Int × Int × Int × Int × Int × Int)) (r : Bool) (H : B5 p0 = some r) (h_v1 : Sl w0 (NX []) Gn v1 p0) (hG : Gk [] w0) :
    Calls Tryd.prog 3 #[v1] w0 fun e w' => e = .returned (.bool r) ∧ Below w0.heap.size w0 w' := by
 refine enter Tryd.func3 Aa Tryd.ntmps3 Aa fun a F => ?_
 have W := Stw.start Y w0
 unfold B5 at H
 refine Aj (Ad ?_)
 refine ls F W Aa (Ag F Aa).q fun a w F W => ?_
 refine Ae (Ac (Aj (Aj (Ad ?_))))
 refine ls F W Aa (Af F Aa).q fun a w F W => ?_
 refine ls F W Aa (BT (r := Gn) (l := p0) HL Aa F Aa (Ax h_v1)).q fun a w F W => ?_
 refine ls F W Aa (GY F Aa Aa).q fun a w F W => ?_
 refine Ae (Ac ?_)
 refine AB F Aa (fun hb => ?_) fun hb => ?_
 ·
  have H := A0 (Ba hb) H
  rw [hb] at F
  clear hb
  refine Aj (Ad ?_)
  obtain ⟨x1, h1, H⟩ := Ak H
  refine ls F W Aa (AF (v := Value.bool x1) F H5 Aa (fun w W => D3 any w _ h1 (hG.go0 W))) fun a w F W => ?_
  refine ls F W Aa (Ag F Aa).q fun a w F W => ?_
  refine Ae (Ac (AJ (Bc ?_)))
  have H := A1 H
  subst H
  refine A9 (.inl Aa) F W Aa (AM F Aa) ?_
  exact ⟨rfl, W.done⟩
 have H := AY (A7 hb) H
 rw [hb] at F
 clear hb
 refine Ay (Ac (Aj (Ad ?_)))
 refine ls F W Aa (Af F Aa).q fun a w F W => ?_
 obtain ⟨x2, h2, H⟩ := Ak H
 refine BE (Ml := []) (Zl := []) (M := []) (Z := []) (β := Value) (rv := fun x => x) (MM := fun x => []) (ZZ := fun x => [row x 34 Ed x2]) F W H6 Aa Aa (fun hL => EM _ w (v1) p0 _ h2 ((Ax h_v1) w W).nx) fun x a w F W => ?_
 obtain ⟨v2, rfl⟩ : ∃ y, y = x := ⟨x, rfl⟩
 have W : Stw ⟨Y, [], w0⟩ [] [row v2 34 Ed x2] w := W
 refine ls F W Aa (Af F Aa).q fun a w F W => ?_
 obtain ⟨x3, h3, H⟩ := Ak H
 refine BE (Ml := []) (Zl := []) (M := []) (Z := [row v2 34 Ed x2]) (β := Value) (rv := fun x => x) (MM := fun x => []) (ZZ := fun x => [row x 32 Db x3]) F W H7 Aa Aa (fun hL => GT _ w (v1) p0 _ h3 ((Ax h_v1) w W).nx) fun x a w F W => ?_
 obtain ⟨v3, rfl⟩ : ∃ y, y = x := ⟨x, rfl⟩
 have W : Stw ⟨Y, [], w0⟩ [] [row v3 32 Db x3, row v2 34 Ed x2] w := W
 iterate 2 refine ls F W Aa (Ag F Aa).q fun a w F W => ?_
 refine Ae (Ac (Aj (Aj (Ad ?_))))
 refine ls F W Aa (Af F Aa).q fun a w F W => ?_
 obtain ⟨x4, h4, H⟩ := Ak H
 have W := W.frontZ (i := 1) Aa Aa
 have W := W.freeze
 refine BE (Ml := []) (Zl := []) (M := []) (Z := [D7 v2 Ed x2, row v3 32 Db x3]) (β := Value) (rv := fun x => x) (MM := fun x => []) (ZZ := fun x => [row x 32 Db x4]) F W H9 Aa Aa (fun hL => Fk _ w (v2) x2 _ h4 (W.item (i := 0) Aa)) fun x a w F W => ?_
 obtain ⟨v4, rfl⟩ : ∃ y, y = x := ⟨x, rfl⟩
 have W : Stw ⟨Y, [], w0⟩ [] [row v4 32 Db x4, D7 v2 Ed x2, row v3 32 Db x3] w := W
 refine ls F W Aa (Af F Aa).q fun a w F W => ?_
 obtain ⟨x5, h5, H⟩ := Ak H
 refine ls F W Aa (AF (v := Value.bool x5) F H8 Aa (fun w W => F1 any w (v4) (v3) x4 x3 _ h5 (((AN 0 Aa) : DU _ _ _ _ _ _) w W).nx (((AN 2 Aa) : DU _ _ _ _ _ _) w W).nx)) fun a w F W => ?_
 refine ls F W Aa (Gl F Aa).q fun a w F W => ?_
 refine Ae (Ac ?_)
 refine AB F Aa (fun hb => ?_) fun hb => ?_
 ·
  have H := A0 hb H
  rw [hb] at F
  clear hb
  refine Aj (Ad ?_)
  refine ls F W Aa (Ag F Aa).q fun a w F W => ?_
  refine Ae (Ac (AJ (Bc ?_)))
  have H := A1 H
  subst H
  refine A9 (.inl Aa) F W Aa (AM F Aa) ?_
  exact ⟨rfl, W.done⟩
 have H := AY (by rw [hb]; decide) H
 rw [hb] at F
 clear hb
 refine Ay (Ac ?_)
 obtain ⟨o1, G1, K1, L1⟩ := IB H
 refine A3 (fun a w => some (Sum.inl ()) = some o1 ∧ Fr 70 [] [(2, .bool false)] a ∧ Stw ⟨Y, [], w0⟩ [] [] w) ?_ ?_
 ·
  have H := G1
  clear G1 K1
  refine Aj (Ad ?_)
  refine ls F W Aa (Ag F Aa).q fun a w F W => ?_
  refine Ae (Ac (AD ?_))
  have W := W.frontZ (i := 2) Aa Aa
  have W := W.frontZ (i := 2) Aa Aa
  have W := W.sub (M' := []) (Z' := [D7 v2 Ed x2, row v3 32 Db x3]) (List.Sublist.refl _) (List.Sublist.cons_cons _ (List.Sublist.cons_cons _ (List.nil_sublist _)))
  refine BN H (fun s a w => Fr 70 [] [(2, .bool false), (3, v2), (4, v3), (5, .int .i64 s)] a ∧ Stw ⟨Y, [], w0⟩ [] [D7 v2 Ed x2, row v3 32 Db x3] w) ⟨F.re ⟨rfl, Aa, Aa, Aa, trivial⟩, W⟩ fun s o a w H L2 hR => ?_
  obtain ⟨x6, rfl⟩ : ∃ x, x = s := ⟨s, rfl⟩
  obtain ⟨F, W⟩ := hR
  have F : Fr 70 [] [(2, .bool false), (3, v2), (4, v3), (5, .int .i64 x6)] a := F
  have W : Stw ⟨Y, [], w0⟩ [] [D7 v2 Ed x2, row v3 32 Db x3] w := W
  rw [Bf] at H
  refine Aj (Aj (Ad ?_))
  iterate 2 refine ls F W Aa (Af F Aa).q fun a w F W => ?_
  refine ls F W Aa (BT (r := Db) (l := x3) Gx Aa F Aa (AN 1 Aa)).q fun a w F W => ?_
  refine ls F W Aa (Cn F Aa Aa).q fun a w F W => ?_
  refine Ae (Ac ?_)
  refine AB F Aa (fun hb => ?_) fun hb => ?_
  ·
   have H := A0 (Ba hb) H
   rw [hb] at F
   clear hb
   refine Ay (Ac (Aj (AD (Aj ?_))))
   obtain ⟨v5, h6, W⟩ := W.exF Er
   have W := W.frontZ (i := 1) Aa Aa
   obtain ⟨v6, h7, W⟩ := W.exR DJ
   refine Ad ?_
   iterate 2 refine ls F W Aa (Af F Aa).q fun a w F W => ?_
   obtain ⟨x7, h8, H⟩ := Ak H
   obtain ⟨v7, h9, h10⟩ := Bh h7 h8
   have h11 : EG v7 = [.int .i64 x7.1, .int .i64 x7.2.1, .int .i64 x7.2.2.1, .int .i64 x7.2.2.2.1, (v7.2.2.2.2.1.1), .int .i64 x7.2.2.2.2.2.1, .int .i64 x7.2.2.2.2.2.2.1, .int .i64 x7.2.2.2.2.2.2.2] := congrArg (fun q : Int × Int × Int × Int × List Int × Int × Int × Int => ([.int .i64 q.1, .int .i64 q.2.1, .int .i64 q.2.2.1, .int .i64 q.2.2.2.1, (v7.2.2.2.2.1.1), .int .i64 q.2.2.2.2.2.1, .int .i64 q.2.2.2.2.2.2.1, .int .i64 q.2.2.2.2.2.2.2] : List Value)) h10
   refine ls F W Aa (AE (r := Ge) FX F Aa Aa (AN 0 Aa) h9).q fun a w F W => ?_
   refine ls F W Aa (Ab Bv Aa Aa Aa C4 F Aa (BW v3 + (x6).toNat * 8 + 4) Aa).q fun a w F W => ?_
   refine ls F W Aa (Az (y := (v7.2.2.2.2.1.1)) (j := 4) (i := x6) (enc := EG) F Aa Aa (AN 0 Aa) h9 Hj C4 (by rw [h11]; rfl)).q fun a w F W => ?_
   have W := W.note (W.rowAt (k := 0) Aa h9 (Al.snd (Al.snd (Al.snd (Al.snd (Al.fst Al.here))))) (congrArg (fun q : Int × Int × Int × Int × List Int × Int × Int × Int => q.2.2.2.2.1) h10))
   refine ls F W Aa (BT (r := (Rp.int .i64)) (l := x7.2.2.2.2.1) Eu Aa F Aa (Ch 0 Aa)).q fun a w F W => ?_
   refine ls F W Aa (Ft F Aa Aa Aa).q fun a w F W => ?_
   refine ls F W Aa (Ag F Aa).q fun a w F W => ?_
   refine Ae (Ac ?_)
   obtain ⟨o3, G3, K3⟩ := Ak H
   refine A3 (fun a w => ∃ x8 : Int, some (x8) = some o3 ∧ Fr 70 [] [(2, .bool false), (3, v2), (4, v3), (5, .int .i64 x6), (6, .int .i64 x8)] a ∧ Stw ⟨Y, [], w0⟩ [] [D7 v2 Ed x2, row v3 32 Db x3] w) ?_ ?_
   ·
    have H := G3
    clear G3 K3
    refine Aj (Ad ?_)
    refine ls F W Aa (Af F Aa).q fun a w F W => ?_
    refine ls F W Aa (Cn F Aa Aa).q fun a w F W => ?_
    refine Ae (Ac ?_)
    refine AB F Aa (fun hb => ?_) fun hb => ?_
    ·
     have H := A0 (Ba hb) H
     rw [hb] at F
     clear hb
     refine Ad ?_
     refine ls F W Aa (Ag F Aa).q fun a w F W => ?_
     refine Ae (Ac ?_)
     have W := W.frontZ (i := 2) Aa Aa
     have W := W.hideF Er h6
     have W := W.frontZ (i := 2) Aa Aa
     have W := W.hideR DJ h7
     have W := W.frontZ (i := 1) Aa Aa
     have W := W.sub (M' := []) (Z' := [D7 v2 Ed x2, row v3 32 Db x3]) (List.Sublist.refl _) (List.Sublist.cons_cons _ (List.Sublist.cons_cons _ (List.nil_sublist _)))
     exact ⟨_, H, F.re ⟨rfl, Aa, Aa, Aa, Aa, trivial⟩, W⟩
    have H := AY (A7 hb) H
    rw [hb] at F
    clear hb
    refine Ay (Ac ?_)
    have W := W.frontZ (i := 2) Aa Aa
    have W := W.hideF Er h6
    have W := W.frontZ (i := 2) Aa Aa
    have W := W.hideR DJ h7
    have W := W.frontZ (i := 1) Aa Aa
    have W := W.sub (M' := []) (Z' := [D7 v2 Ed x2, row v3 32 Db x3]) (List.Sublist.refl _) (List.Sublist.cons_cons _ (List.Sublist.cons_cons _ (List.nil_sublist _)))
    exact ⟨_, H, F.re ⟨rfl, Aa, Aa, Aa, Aa, trivial⟩, W⟩
   rintro a w ⟨x8, hj, F, W⟩
   have hj := A1 hj
   subst hj
   have H := K3
   clear G3 K3
   obtain ⟨o4, G4, K4⟩ := Ak H
   refine A3 (fun a w => ∃ x9 : Bool, some (x9) = some o4 ∧ Fr 70 [] [(2, .bool false), (3, v2), (4, v3), (5, .int .i64 x6), (68, .bool x9)] a ∧ Stw ⟨Y, [], w0⟩ [] [D7 v2 Ed x2, row v3 32 Db x3] w) ?_ ?_
   ·
    have H := G4
    clear G4 K4
    obtain ⟨v8, h12, W⟩ := W.exF Er
    have W := W.frontZ (i := 1) Aa Aa
    obtain ⟨v9, h13, W⟩ := W.exR DJ
    refine BQ W MO (by kernel_rfl) ?_
    iterate 2 refine qs F Aa (Af F Aa).q fun a F => ?_
    obtain ⟨x10, h14, H⟩ := Ak H
    obtain ⟨v10, h15, h16⟩ := Bh h12 h14
    have h17 : DD v10 = [.int .i64 x10.1, .int .i64 x10.2.1, .int .i64 x10.2.2.1, .int .i64 x10.2.2.2.1, (v10.2.2.2.2.1.1), .int .i64 x10.2.2.2.2.2.1, .int .i64 x10.2.2.2.2.2.2.1, .int .i64 x10.2.2.2.2.2.2.2] := congrArg (fun q : Int × Int × Int × Int × List Int × Int × Int × Int => ([.int .i64 q.1, .int .i64 q.2.1, .int .i64 q.2.2.1, .int .i64 q.2.2.2.1, (v10.2.2.2.2.1.1), .int .i64 q.2.2.2.2.2.1, .int .i64 q.2.2.2.2.2.2.1, .int .i64 q.2.2.2.2.2.2.2] : List Value)) h16
    refine qs F Aa (AE (r := Fg) HE F Aa Aa (Ch 1 Aa) h15).q fun a F => ?_
    refine qs F Aa (Az (y := Value.agg #[.int .i64 x10.1, .int .i64 x10.2.1, .int .i64 x10.2.2.1, .int .i64 x10.2.2.2.1, (v10.2.2.2.2.1.1), .int .i64 x10.2.2.2.2.2.1, .int .i64 x10.2.2.2.2.2.2.1, .int .i64 x10.2.2.2.2.2.2.2]) (j := 0) (i := x6) (enc := DD) F Aa Aa (Ch 1 Aa) h15 Gc HF (by rw [h17]; rfl)).q fun a F => ?_
    refine qs F Aa (AF (v := Value.int .i64 (Bj x10)) F Jd Aa (fun w W => DF any w ((v10.2.2.2.2.1.1)) x10 _ Aa (((BG (Ch 1 Aa) h15 (Al.snd (Al.snd (Al.snd (Al.snd (Al.fst Al.here))))) (congrArg (fun q : Int × Int × Int × Int × List Int × Int × Int × Int => q.2.2.2.2.1) h16)) : DU _ _ _ _ _ _) w W).nx)) fun a F => ?_
    refine qs F Aa (Af F Aa).q fun a F => ?_
    refine qs F Aa (C2 F Aa Aa).q fun a F => ?_
    refine qs F Aa (Af F Aa).q fun a F => ?_
    rcases Bool.eq_false_or_eq_true (decide ((Bj x10) ≠ x8)) with hb | hb
    ·
     have H := A0 (Ba hb) H
     rw [hb] at F
     clear hb
     iterate 12 refine En F (Dj F Aa Aa Aa Aa Aa) Aa Aa fun a F => ?_
     refine qs F Aa (Av F Aa Aa Aa).q fun a F => ?_
     refine qs F Aa (Af F Aa).q fun a F => ?_
     iterate 11 refine En F (Dj F Aa Aa Aa Aa Aa) Aa Aa fun a F => ?_
     refine qs F Aa (Av F Aa Aa Aa).q fun a F => ?_
     refine A2 fun w W => ?_
     have W := W.note (Sl.at_ (W.item (i := 1) Aa) h15 (Al.snd (Al.snd (Al.snd (Al.snd (Al.fst Al.here))))) (congrArg (fun q : Int × Int × Int × Int × List Int × Int × Int × Int => q.2.2.2.2.1) h16))
     refine Ac ?_
     have W := W.frontZ (i := 2) Aa Aa
     have W := W.hideF Er h12
     have W := W.frontZ (i := 2) Aa Aa
     have W := W.hideR DJ h13
     have W := W.frontZ (i := 1) Aa Aa
     have W := W.sub (M' := []) (Z' := [D7 v2 Ed x2, row v3 32 Db x3]) (List.Sublist.refl _) (List.Sublist.cons_cons _ (List.Sublist.cons_cons _ (List.nil_sublist _)))
     exact ⟨_, H, F.re ⟨rfl, Aa, Aa, Aa, Aa, trivial⟩, W⟩
    have H := AY (A7 hb) H
    rw [hb] at F
    clear hb
    iterate 2 refine Ct F (Ah F Aa Aa Aa Aa) Aa (Aw Aa) (Af F Aa).q fun a F => ?_
    obtain ⟨x11, h18, H⟩ := Ak H
    obtain ⟨v11, h19, h20⟩ := Bh h12 h18
    have h21 : DD v11 = [.int .i64 x11.1, .int .i64 x11.2.1, .int .i64 x11.2.2.1, .int .i64 x11.2.2.2.1, (v11.2.2.2.2.1.1), .int .i64 x11.2.2.2.2.2.1, .int .i64 x11.2.2.2.2.2.2.1, .int .i64 x11.2.2.2.2.2.2.2] := congrArg (fun q : Int × Int × Int × Int × List Int × Int × Int × Int => ([.int .i64 q.1, .int .i64 q.2.1, .int .i64 q.2.2.1, .int .i64 q.2.2.2.1, (v11.2.2.2.2.1.1), .int .i64 q.2.2.2.2.2.1, .int .i64 q.2.2.2.2.2.2.1, .int .i64 q.2.2.2.2.2.2.2] : List Value)) h20
    refine Ct F (Ah F Aa Aa Aa Aa) Aa (Aw Aa) (AE (r := Fg) HE F Aa Aa (Ch 1 Aa) h19).q fun a F => ?_
    refine Ct F (Ah F Aa Aa Aa Aa) Aa (Aw Aa) (Az (y := Value.agg #[.int .i64 x11.1, .int .i64 x11.2.1, .int .i64 x11.2.2.1, .int .i64 x11.2.2.2.1, (v11.2.2.2.2.1.1), .int .i64 x11.2.2.2.2.2.1, .int .i64 x11.2.2.2.2.2.2.1, .int .i64 x11.2.2.2.2.2.2.2]) (j := 0) (i := x6) (enc := DD) F Aa Aa (Ch 1 Aa) h19 Gc HF (by rw [h21]; rfl)).q fun a F => ?_
    obtain ⟨x12, h22, H⟩ := Ak H
    refine Ct F (Ah F Aa Aa Aa Aa) Aa (Aw Aa) (AF (v := Value.bool x12) F I8 Aa (fun w W => Dy any w ((v11.2.2.2.2.1.1)) x11 _ h22 (((BG (Ch 1 Aa) h19 (Al.snd (Al.snd (Al.snd (Al.snd (Al.fst Al.here))))) (congrArg (fun q : Int × Int × Int × Int × List Int × Int × Int × Int => q.2.2.2.2.1) h20)) : DU _ _ _ _ _ _) w W).nx)) fun a F => ?_
    iterate 2 refine Ct F (Ah F Aa Aa Aa Aa) Aa (Aw Aa) (Af F Aa).q fun a F => ?_
    obtain ⟨x13, h23, H⟩ := Ak H
    obtain ⟨v12, h24, h25⟩ := Bh h13 h23
    have h26 : EG v12 = [.int .i64 x13.1, .int .i64 x13.2.1, .int .i64 x13.2.2.1, .int .i64 x13.2.2.2.1, (v12.2.2.2.2.1.1), .int .i64 x13.2.2.2.2.2.1, .int .i64 x13.2.2.2.2.2.2.1, .int .i64 x13.2.2.2.2.2.2.2] := congrArg (fun q : Int × Int × Int × Int × List Int × Int × Int × Int => ([.int .i64 q.1, .int .i64 q.2.1, .int .i64 q.2.2.1, .int .i64 q.2.2.2.1, (v12.2.2.2.2.1.1), .int .i64 q.2.2.2.2.2.1, .int .i64 q.2.2.2.2.2.2.1, .int .i64 q.2.2.2.2.2.2.2] : List Value)) h25
    refine Ct F (Ah F Aa Aa Aa Aa) Aa (Aw Aa) (AE (r := Ge) FX F Aa Aa (AN 0 Aa) h24).q fun a F => ?_
    refine Ct F (Ah F Aa Aa Aa Aa) Aa (Aw Aa) (Ab Bv Aa Aa Aa C4 F Aa (BW v3 + (x6).toNat * 8 + 4) Aa).q fun a F => ?_
    refine Ct F (Ah F Aa Aa Aa Aa) Aa (Aw Aa) (Az (y := (v12.2.2.2.2.1.1)) (j := 4) (i := x6) (enc := EG) F Aa Aa (AN 0 Aa) h24 Hj C4 (by rw [h26]; rfl)).q fun a F => ?_
    obtain ⟨x14, h27, H⟩ := Ak H
    refine Ct F (Ah F Aa Aa Aa Aa) Aa (Aw Aa) (AF (v := Value.bool x14) F Jp Aa (fun w W => FS any w ((v12.2.2.2.2.1.1)) x13.2.2.2.2.1 _ h27 (((BG (AN 0 Aa) h24 (Al.snd (Al.snd (Al.snd (Al.snd (Al.fst Al.here))))) (congrArg (fun q : Int × Int × Int × Int × List Int × Int × Int × Int => q.2.2.2.2.1) h25)) : DU _ _ _ _ _ _) w W).nx)) fun a F => ?_
    refine Ct F (Ah F Aa Aa Aa Aa) Aa (Aw Aa) (IC Jg F Aa Aa).q fun a F => ?_
    refine qs F Aa (AU F Aa Aa Aa).q fun a F => ?_
    refine qs F Aa (Af F Aa).q fun a F => ?_
    rcases Bool.eq_false_or_eq_true (decide (x12 ≠ x14)) with hb | hb
    ·
     have H := A0 (Ba hb) H
     rw [hb] at F
     clear hb
     iterate 11 refine En F (Dj F Aa Aa Aa Aa Aa) Aa Aa fun a F => ?_
     refine qs F Aa (Av F Aa Aa Aa).q fun a F => ?_
     refine A2 fun w W => ?_
     have W := W.note (Sl.at_ (W.item (i := 1) Aa) h15 (Al.snd (Al.snd (Al.snd (Al.snd (Al.fst Al.here))))) (congrArg (fun q : Int × Int × Int × Int × List Int × Int × Int × Int => q.2.2.2.2.1) h16))
     have W := W.note (Sl.at_ (W.item (i := 2) Aa) h19 (Al.snd (Al.snd (Al.snd (Al.snd (Al.fst Al.here))))) (congrArg (fun q : Int × Int × Int × Int × List Int × Int × Int × Int => q.2.2.2.2.1) h20))
     have W := W.note (W.rowAt (k := 2) Aa h24 (Al.snd (Al.snd (Al.snd (Al.snd (Al.fst Al.here))))) (congrArg (fun q : Int × Int × Int × Int × List Int × Int × Int × Int => q.2.2.2.2.1) h25))
     refine Ac ?_
     have W := W.frontZ (i := 4) Aa Aa
     have W := W.hideF Er h12
     have W := W.frontZ (i := 4) Aa Aa
     have W := W.hideR DJ h13
     have W := W.frontZ (i := 1) Aa Aa
     have W := W.sub (M' := []) (Z' := [D7 v2 Ed x2, row v3 32 Db x3]) (List.Sublist.refl _) (List.Sublist.cons_cons _ (List.Sublist.cons_cons _ (List.nil_sublist _)))
     exact ⟨_, H, F.re ⟨rfl, Aa, Aa, Aa, Aa, trivial⟩, W⟩
    have H := AY (A7 hb) H
    rw [hb] at F
    clear hb
    iterate 2 refine Ct F (Ah F Aa Aa Aa Aa) Aa (Aw Aa) (Af F Aa).q fun a F => ?_
    obtain ⟨x15, h28, H⟩ := Ak H
    obtain ⟨v13, h29, h30⟩ := Bh h12 h28
    have h31 : DD v13 = [.int .i64 x15.1, .int .i64 x15.2.1, .int .i64 x15.2.2.1, .int .i64 x15.2.2.2.1, (v13.2.2.2.2.1.1), .int .i64 x15.2.2.2.2.2.1, .int .i64 x15.2.2.2.2.2.2.1, .int .i64 x15.2.2.2.2.2.2.2] := congrArg (fun q : Int × Int × Int × Int × List Int × Int × Int × Int => ([.int .i64 q.1, .int .i64 q.2.1, .int .i64 q.2.2.1, .int .i64 q.2.2.2.1, (v13.2.2.2.2.1.1), .int .i64 q.2.2.2.2.2.1, .int .i64 q.2.2.2.2.2.2.1, .int .i64 q.2.2.2.2.2.2.2] : List Value)) h30
    refine Ct F (Ah F Aa Aa Aa Aa) Aa (Aw Aa) (AE (r := Fg) HE F Aa Aa (Ch 1 Aa) h29).q fun a F => ?_
    refine Ct F (Ah F Aa Aa Aa Aa) Aa (Aw Aa) (Az (y := Value.agg #[.int .i64 x15.1, .int .i64 x15.2.1, .int .i64 x15.2.2.1, .int .i64 x15.2.2.2.1, (v13.2.2.2.2.1.1), .int .i64 x15.2.2.2.2.2.1, .int .i64 x15.2.2.2.2.2.2.1, .int .i64 x15.2.2.2.2.2.2.2]) (j := 0) (i := x6) (enc := DD) F Aa Aa (Ch 1 Aa) h29 Gc HF (by rw [h31]; rfl)).q fun a F => ?_
    obtain ⟨x16, h32, H⟩ := Ak H
    refine Ct F (Ah F Aa Aa Aa Aa) Aa (Aw Aa) (AF (v := Value.string (bs x16)) F I6 Aa (fun w W => DQ any w ((v13.2.2.2.2.1.1)) x15 _ h32 (((BG (Ch 1 Aa) h29 (Al.snd (Al.snd (Al.snd (Al.snd (Al.fst Al.here))))) (congrArg (fun q : Int × Int × Int × Int × List Int × Int × Int × Int => q.2.2.2.2.1) h30)) : DU _ _ _ _ _ _) w W).nx (hG.go0 W))) fun a F => ?_
    iterate 2 refine Ct F (Ah F Aa Aa Aa Aa) Aa (Aw Aa) (Af F Aa).q fun a F => ?_
    obtain ⟨x17, h33, H⟩ := Ak H
    obtain ⟨v14, h34, h35⟩ := Bh h13 h33
    have h36 : EG v14 = [.int .i64 x17.1, .int .i64 x17.2.1, .int .i64 x17.2.2.1, .int .i64 x17.2.2.2.1, (v14.2.2.2.2.1.1), .int .i64 x17.2.2.2.2.2.1, .int .i64 x17.2.2.2.2.2.2.1, .int .i64 x17.2.2.2.2.2.2.2] := congrArg (fun q : Int × Int × Int × Int × List Int × Int × Int × Int => ([.int .i64 q.1, .int .i64 q.2.1, .int .i64 q.2.2.1, .int .i64 q.2.2.2.1, (v14.2.2.2.2.1.1), .int .i64 q.2.2.2.2.2.1, .int .i64 q.2.2.2.2.2.2.1, .int .i64 q.2.2.2.2.2.2.2] : List Value)) h35
    refine Ct F (Ah F Aa Aa Aa Aa) Aa (Aw Aa) (AE (r := Ge) FX F Aa Aa (AN 0 Aa) h34).q fun a F => ?_
    refine Ct F (Ah F Aa Aa Aa Aa) Aa (Aw Aa) (Az (y := Value.agg #[.int .i64 x17.1, .int .i64 x17.2.1, .int .i64 x17.2.2.1, .int .i64 x17.2.2.2.1, (v14.2.2.2.2.1.1), .int .i64 x17.2.2.2.2.2.1, .int .i64 x17.2.2.2.2.2.2.1, .int .i64 x17.2.2.2.2.2.2.2]) (j := 0) (i := x6) (enc := EG) F Aa Aa (AN 0 Aa) h34 Hj Iq (by rw [h36]; rfl)).q fun a F => ?_
    obtain ⟨x18, h37, H⟩ := Ak H
    refine Ct F (Ah F Aa Aa Aa Aa) Aa (Aw Aa) (AF (v := Value.string (bs x18)) F Jj Aa (fun w W => Gb any w ((v14.2.2.2.2.1.1)) x17 _ h37 (((BG (AN 0 Aa) h34 (Al.snd (Al.snd (Al.snd (Al.snd (Al.fst Al.here))))) (congrArg (fun q : Int × Int × Int × Int × List Int × Int × Int × Int => q.2.2.2.2.1) h35)) : DU _ _ _ _ _ _) w W).nx)) fun a F => ?_
    refine Ct F (Ah F Aa Aa Aa Aa) Aa (Aw Aa) (IE (l := x16) (m := x18) F Aa Aa).q fun a F => ?_
    refine qs F Aa (AU F Aa Aa Aa).q fun a F => ?_
    refine A2 fun w W => ?_
    have W := W.note (Sl.at_ (W.item (i := 1) Aa) h15 (Al.snd (Al.snd (Al.snd (Al.snd (Al.fst Al.here))))) (congrArg (fun q : Int × Int × Int × Int × List Int × Int × Int × Int => q.2.2.2.2.1) h16))
    have W := W.note (Sl.at_ (W.item (i := 2) Aa) h19 (Al.snd (Al.snd (Al.snd (Al.snd (Al.fst Al.here))))) (congrArg (fun q : Int × Int × Int × Int × List Int × Int × Int × Int => q.2.2.2.2.1) h20))
    have W := W.note (W.rowAt (k := 2) Aa h24 (Al.snd (Al.snd (Al.snd (Al.snd (Al.fst Al.here))))) (congrArg (fun q : Int × Int × Int × Int × List Int × Int × Int × Int => q.2.2.2.2.1) h25))
    have W := W.note (Sl.at_ (W.item (i := 4) Aa) h29 (Al.snd (Al.snd (Al.snd (Al.snd (Al.fst Al.here))))) (congrArg (fun q : Int × Int × Int × Int × List Int × Int × Int × Int => q.2.2.2.2.1) h30))
    have W := W.note (W.rowAt (k := 4) Aa h34 (Al.snd (Al.snd (Al.snd (Al.snd (Al.fst Al.here))))) (congrArg (fun q : Int × Int × Int × Int × List Int × Int × Int × Int => q.2.2.2.2.1) h35))
    refine Ac ?_
    have W := W.frontZ (i := 6) Aa Aa
    have W := W.hideF Er h12
    have W := W.frontZ (i := 6) Aa Aa
    have W := W.hideR DJ h13
    have W := W.frontZ (i := 1) Aa Aa
    have W := W.sub (M' := []) (Z' := [D7 v2 Ed x2, row v3 32 Db x3]) (List.Sublist.refl _) (List.Sublist.cons_cons _ (List.Sublist.cons_cons _ (List.nil_sublist _)))
    exact ⟨_, H, F.re ⟨rfl, Aa, Aa, Aa, Aa, trivial⟩, W⟩
   rintro a w ⟨x9, hj, F, W⟩
   have hj := A1 hj
   subst hj
   have H := K4
   clear G4 K4
   refine AB F Aa (fun hb => ?_) fun hb => ?_
   ·
    have H := A0 hb H
    rw [hb] at F
    clear hb
    refine Aj (Ad ?_)
    refine ls F W Aa (Ag F Aa).q fun a w F W => ?_
    refine Ae (Ac (AJ (B1 ?_)))
    iterate 2 refine Bc ?_
    refine B1 (Bc ?_)
    have H := L2 _ H
    have H := L1 _ H
    have H := A1 H
    subst H
    refine A9 (.inl Aa) F W Aa (AM F Aa) ?_
    exact ⟨rfl, W.done⟩
   have H := AY (by rw [hb]; decide) H
   rw [hb] at F
   clear hb
   refine Ay (AO (Ac (Ad ?_)))
   refine ls F W Aa (Af F Aa).q fun a w F W => ?_
   refine ls F W Aa (CK F Aa Aa Aa).q fun a w F W => ?_
   refine ls F W Aa (Ag F Aa).q fun a w F W => ?_
   refine Ae (Ac ?_)
   have W := W.frontZ (i := 1) Aa Aa
   have W := W.frontZ (i := 1) Aa Aa
   exact ⟨_, H, F.re ⟨rfl, Aa, Aa, Aa, trivial⟩, W⟩
  have H := AY (A7 hb) H
  rw [hb] at F
  clear hb
  refine BC ?_
  iterate 2 refine Cd ?_
  refine BA (Ac ?_)
  have W := W.sub (M' := []) (Z' := []) (List.Sublist.refl _) (List.nil_sublist _)
  have H := L2 _ H
  exact ⟨H, F.re ⟨rfl, trivial⟩, W⟩
 rintro a w ⟨hj, F, W⟩
 have H := K1 _ hj
 clear hj G1 K1 L1
 refine Aj (Ad ?_)
 obtain ⟨x19, h38, H⟩ := Ak H
 refine ls F W Aa (AF (v := Value.bool x19) F H5 Aa (fun w W => D3 any w _ h38 (hG.go0 W))) fun a w F W => ?_
 refine ls F W Aa (Ag F Aa).q fun a w F W => ?_
 refine Ae (Ac (AJ ?_))
 have H := A1 H
 subst H
 refine A9 (.inl Aa) F W Aa (AM F Aa) ?_
 exact ⟨rfl, W.done⟩
end Go.Proofs.YtpmhmemmniiomaaDoor
