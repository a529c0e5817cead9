/- The functions of layer 12, EV. Conditions: none. -/
import Derived.Test.YtfnmlmglmegamaacA6
namespace Go.Proofs.Ytfnmlmglmegamaa
open Go Go.RowKit
set_option linter.unusedVariables false
set_option linter.unusedSimpArgs false
set_option maxRecDepth 20000
theorem Rb : Has Try.prog 14 := B3 Try.func14
noncomputable def DO (p0 : List (Int × (Int × (Int × Int × Int × Int) × (Int × Int × Int × Int)) × (List (Int × Int × Int)))) (p1 : List (Int × (Int × (Int × Int × Int × Int) × (Int × Int × Int × Int)) × (List (Int × Int × Int)))) : Int → Option (Int ⊕ (Unit ⊕ Bool))
  | x1 => (if x1 < (p0.length : Int) then (ix p0 x1).bind fun x2 => (ix p1 x1).bind fun x3 => (Ek x2 x3).bind fun x4 => (if (!x4) = true then some (.inr (.inr false)) else some (.inl (Cs (x1 + 1)))) else some (.inr (.inl ())))
noncomputable def Dw (p0 : List (Int × (Int × (Int × Int × Int × Int) × (Int × Int × Int × Int)) × (List (Int × Int × Int)))) (p1 : List (Int × (Int × (Int × Int × Int × Int) × (Int × Int × Int × Int)) × (List (Int × Int × Int)))) : Option Bool := (if (p0.length : Int) ≠ (p1.length : Int) then some false else Fu (AJ (DO p0 p1) 0) fun _ => some true)
theorem F8 (Y : Nat → Prop) (w0 : World) (v1 : Value) (v2 : Value) (p0 : List (Int × (Int × (Int × Int × Int × Int) × (Int × Int × Int × Int)) × (List (Int × Int × Int)))) (p1 : List (Int × (Int × (Int × Int × Int × Int) × (Int × Int × Int × Int)) × (List (Int × Int × Int)))) (r : Bool) (H : Dw p0 p1 = some r) (h_v1 : Sl w0 (NX []) A5 v1 p0) (h_v2 : Sl w0 (NX []) A5 v2 p1) :
    Calls Try.prog 16 #[v1, v2] w0 fun e w' => e = .returned (.bool r) ∧ Below w0.heap.size w0 w' := by
 refine enter Try.func16 Aa Try.ntmps16 Aa fun a F => ?_
 have W := Stw.start Y w0
 obtain ⟨v3, h1, h_v1⟩ := h_v1.ex BH
 obtain ⟨v4, h2, h_v2⟩ := h_v2.ex BH
 unfold Dw at H
 refine vc tk 9 F W fun a w F W => ?_
 refine ls F W Aa (BQ (r := A5) (l := p0) E2 Aa F Aa (A6 BH h1 (Aj h_v1))).q fun a w F W => ?_
 refine ls F W Aa (Am F Aa).q fun a w F W => ?_
 refine ls F W Aa (BQ (r := A5) (l := p1) E2 Aa F Aa (A6 BH h2 (Aj h_v2))).q fun a w F W => ?_
 refine BV tk 3 F W fun a w F W => ?_
 refine Br F Aa H (fun F H => ?_) fun F H => ?_
 ·
  refine vc tk 5 F W fun a w F W => ?_
  refine Al (Ap ?_)
  have H := Aw H
  subst H
  refine Aq (.inl Aa) F W Aa (Ak F Aa) ?_
  exact ⟨rfl, W.done⟩
 refine AH (Ad ?_)
 obtain ⟨o1, G1, K1, L1⟩ := IZ H
 refine AC (fun a w => some (Sum.inl ()) = some o1 ∧ Fr 27 [] [(4, .bool false)] a ∧ Stw ⟨Y, [], w0⟩ [] [] w) ?_ ?_
 ·
  have H := G1
  clear G1 K1
  refine vc tk 6 F W fun a w F W => ?_
  refine BI H (fun s a w => Fr 27 [] [(0, v1), (1, v2), (4, .bool false), (5, .int .i64 s)] a ∧ Stw ⟨Y, [], w0⟩ [] [] w) ⟨F.ra Aa, W⟩ fun s o a w H L2 hR => ?_
  obtain ⟨x1, rfl⟩ : ∃ x, x = s := ⟨s, rfl⟩
  obtain ⟨F, W⟩ := hR
  have F : Fr 27 [] [(0, v1), (1, v2), (4, .bool false), (5, .int .i64 x1)] a := F
  have W : Stw ⟨Y, [], w0⟩ [] [] w := W
  rw [DO] at H
  refine vc tk 5 F W fun a w F W => ?_
  refine ls F W Aa (BQ (r := A5) (l := p0) E2 Aa F Aa (A6 BH h1 (Aj h_v1))).q fun a w F W => ?_
  refine BV tk 3 F W fun a w F W => ?_
  refine Br F Aa H (fun F H => ?_) fun F H => ?_
  ·
   refine E8 tk 5 F W fun a w F W => ?_
   refine CV W MO (by kernel_rfl) ?_
   iterate 2 refine qs F Aa (Am F Aa).q fun a F => ?_
   obtain ⟨x2, h3, H⟩ := Ah H
   obtain ⟨v5, h4, h5⟩ := Ck h1 h3
   have h6 : CK v5 = [.int .i64 x2.1, .int .i64 x2.2.1.1, .int .i64 x2.2.1.2.1.1, .int .i64 x2.2.1.2.1.2.1, .int .i64 x2.2.1.2.1.2.2.1, .int .i64 x2.2.1.2.1.2.2.2, .int .i64 x2.2.1.2.2.1, .int .i64 x2.2.1.2.2.2.1, .int .i64 x2.2.1.2.2.2.2.1, .int .i64 x2.2.1.2.2.2.2.2, (v5.2.2.1)] := congrArg (fun q : Int × (Int × (Int × Int × Int × Int) × (Int × Int × Int × Int)) × (List (Int × Int × Int)) => ([.int .i64 q.1, .int .i64 q.2.1.1, .int .i64 q.2.1.2.1.1, .int .i64 q.2.1.2.1.2.1, .int .i64 q.2.1.2.1.2.2.1, .int .i64 q.2.1.2.1.2.2.2, .int .i64 q.2.1.2.2.1, .int .i64 q.2.1.2.2.2.1, .int .i64 q.2.1.2.2.2.2.1, .int .i64 q.2.1.2.2.2.2.2, (v5.2.2.1)] : List Value)) h5
   refine qs F Aa (A8 (r := DU) FQ F Aa Aa (Aj h_v1) h4).q fun a F => ?_
   refine qs F Aa (AE (y := Value.agg #[.int .i64 x2.1, .int .i64 x2.2.1.1, .int .i64 x2.2.1.2.1.1, .int .i64 x2.2.1.2.1.2.1, .int .i64 x2.2.1.2.1.2.2.1, .int .i64 x2.2.1.2.1.2.2.2, .int .i64 x2.2.1.2.2.1, .int .i64 x2.2.1.2.2.2.1, .int .i64 x2.2.1.2.2.2.2.1, .int .i64 x2.2.1.2.2.2.2.2, (v5.2.2.1)]) (j := 0) (i := x1) (enc := CK) F Aa Aa (Aj h_v1) h4 Fo Fk (by rw [h6]; rfl)).q fun a F => ?_
   iterate 2 refine qs F Aa (Am F Aa).q fun a F => ?_
   obtain ⟨x3, h7, H⟩ := Ah H
   obtain ⟨v6, h8, h9⟩ := Ck h2 h7
   have h10 : CK v6 = [.int .i64 x3.1, .int .i64 x3.2.1.1, .int .i64 x3.2.1.2.1.1, .int .i64 x3.2.1.2.1.2.1, .int .i64 x3.2.1.2.1.2.2.1, .int .i64 x3.2.1.2.1.2.2.2, .int .i64 x3.2.1.2.2.1, .int .i64 x3.2.1.2.2.2.1, .int .i64 x3.2.1.2.2.2.2.1, .int .i64 x3.2.1.2.2.2.2.2, (v6.2.2.1)] := congrArg (fun q : Int × (Int × (Int × Int × Int × Int) × (Int × Int × Int × Int)) × (List (Int × Int × Int)) => ([.int .i64 q.1, .int .i64 q.2.1.1, .int .i64 q.2.1.2.1.1, .int .i64 q.2.1.2.1.2.1, .int .i64 q.2.1.2.1.2.2.1, .int .i64 q.2.1.2.1.2.2.2, .int .i64 q.2.1.2.2.1, .int .i64 q.2.1.2.2.2.1, .int .i64 q.2.1.2.2.2.2.1, .int .i64 q.2.1.2.2.2.2.2, (v6.2.2.1)] : List Value)) h9
   refine qs F Aa (A8 (r := DU) FQ F Aa Aa (Aj h_v2) h8).q fun a F => ?_
   refine qs F Aa (AE (y := Value.agg #[.int .i64 x3.1, .int .i64 x3.2.1.1, .int .i64 x3.2.1.2.1.1, .int .i64 x3.2.1.2.1.2.1, .int .i64 x3.2.1.2.1.2.2.1, .int .i64 x3.2.1.2.1.2.2.2, .int .i64 x3.2.1.2.2.1, .int .i64 x3.2.1.2.2.2.1, .int .i64 x3.2.1.2.2.2.2.1, .int .i64 x3.2.1.2.2.2.2.2, (v6.2.2.1)]) (j := 0) (i := x1) (enc := CK) F Aa Aa (Aj h_v2) h8 Fo Fk (by rw [h10]; rfl)).q fun a F => ?_
   obtain ⟨x4, h11, H⟩ := Ah H
   refine qs F Aa (AU (v := Value.bool x4) F Rd Aa (fun w W => Ib any w ((v5.2.2.1)) ((v6.2.2.1)) x2 x3 _ h11 (CY (Dr (Aj h_v1) h4 (Ay.snd (Ay.snd Ay.here)) (congrArg (fun q : Int × (Int × (Int × Int × Int × Int) × (Int × Int × Int × Int)) × (List (Int × Int × Int)) => q.2.2) h5)) W) (CY (Dr (Aj h_v2) h8 (Ay.snd (Ay.snd Ay.here)) (congrArg (fun q : Int × (Int × (Int × Int × Int × Int) × (Int × Int × Int × Int)) × (List (Int × Int × Int)) => q.2.2) h9)) W))) fun a F => ?_
   refine qs F Aa (Lk F Aa).q fun a F => ?_
   refine AM fun w W => ?_
   refine Ad ?_
   refine B8 F Aa H (fun F H => ?_) fun F H => ?_
   ·
    refine vc tk 5 F W fun a w F W => ?_
    refine Al (Az ?_)
    iterate 2 refine Ap ?_
    refine Az (Ap ?_)
    have H := L2 _ H
    have H := L1 _ H
    have H := Aw H
    subst H
    refine Aq (.inl Aa) F W Aa (Ak F Aa) ?_
    exact ⟨rfl, W.done⟩
   refine AH (AV ?_)
   refine vn tk 5 F W fun a w F W => ?_
   refine Ad ?_
   exact ⟨_, H, F.ra Aa, W⟩
  refine Bz ?_
  iterate 2 refine B7 ?_
  refine BC (Ad ?_)
  have H := L2 _ H
  exact ⟨H, F.ra Aa, W⟩
 rintro a w ⟨hj, F, W⟩
 have H := K1 _ hj
 clear hj G1 K1 L1
 refine vc tk 5 F W fun a w F W => ?_
 refine Al ?_
 have H := Aw H
 subst H
 refine Aq (.inl Aa) F W Aa (Ak F Aa) ?_
 exact ⟨rfl, W.done⟩
theorem QW : Has Try.prog 16 := B3 Try.func16
noncomputable def Ep (p0 : List (Int × (Int × (Int × (Int × Int × Int × Int) × (Int × Int × Int × Int)) × (List (Int × Int × Int))) × Bool)) (p1 : List (Int × (Int × (Int × (Int × Int × Int × Int) × (Int × Int × Int × Int)) × (List (Int × Int × Int))) × Bool)) : Int → Option (Int ⊕ (Unit ⊕ Bool))
  | x1 => (if x1 < (p0.length : Int) then (ix p0 x1).bind fun x2 => (ix p1 x1).bind fun x3 => (DS x2 x3).bind fun x4 => (if (!x4) = true then some (.inr (.inr false)) else some (.inl (Cs (x1 + 1)))) else some (.inr (.inl ())))
noncomputable def FD (p0 : List (Int × (Int × (Int × (Int × Int × Int × Int) × (Int × Int × Int × Int)) × (List (Int × Int × Int))) × Bool)) (p1 : List (Int × (Int × (Int × (Int × Int × Int × Int) × (Int × Int × Int × Int)) × (List (Int × Int × Int))) × Bool)) : Option Bool := (if (p0.length : Int) ≠ (p1.length : Int) then some false else Fu (AJ (Ep p0 p1) 0) fun _ => some true)
theorem KF (Y : Nat → Prop) (w0 : World) (v1 : Value) (v2 : Value) (p0 : List (Int × (Int × (Int × (Int × Int × Int × Int) × (Int × Int × Int × Int)) × (List (Int × Int × Int))) × Bool)) (p1 : List (Int × (Int × (Int × (Int × Int × Int × Int) × (Int × Int × Int × Int)) × (List (Int × Int × Int))) × Bool)) (r : Bool) (H : FD p0 p1 = some r) (h_v1 : Sl w0 (NX []) F2 v1 p0) (h_v2 : Sl w0 (NX []) F2 v2 p1) :
    Calls Try.prog 19 #[v1, v2] w0 fun e w' => e = .returned (.bool r) ∧ Below w0.heap.size w0 w' := by
 refine enter Try.func19 Aa Try.ntmps19 Aa fun a F => ?_
 have W := Stw.start Y w0
 obtain ⟨v3, h1, h_v1⟩ := h_v1.ex FW
 obtain ⟨v4, h2, h_v2⟩ := h_v2.ex FW
 unfold FD at H
 refine vc tk 9 F W fun a w F W => ?_
 refine ls F W Aa (BQ (r := F2) (l := p0) IB Aa F Aa (A6 FW h1 (Aj h_v1))).q fun a w F W => ?_
 refine ls F W Aa (Am F Aa).q fun a w F W => ?_
 refine ls F W Aa (BQ (r := F2) (l := p1) IB Aa F Aa (A6 FW h2 (Aj h_v2))).q fun a w F W => ?_
 refine BV tk 3 F W fun a w F W => ?_
 refine Br F Aa H (fun F H => ?_) fun F H => ?_
 ·
  refine vc tk 5 F W fun a w F W => ?_
  refine Al (Ap ?_)
  have H := Aw H
  subst H
  refine Aq (.inl Aa) F W Aa (Ak F Aa) ?_
  exact ⟨rfl, W.done⟩
 refine AH (Ad ?_)
 obtain ⟨o1, G1, K1, L1⟩ := IZ H
 refine AC (fun a w => some (Sum.inl ()) = some o1 ∧ Fr 27 [] [(4, .bool false)] a ∧ Stw ⟨Y, [], w0⟩ [] [] w) ?_ ?_
 ·
  have H := G1
  clear G1 K1
  refine vc tk 6 F W fun a w F W => ?_
  refine BI H (fun s a w => Fr 27 [] [(0, v1), (1, v2), (4, .bool false), (5, .int .i64 s)] a ∧ Stw ⟨Y, [], w0⟩ [] [] w) ⟨F.ra Aa, W⟩ fun s o a w H L2 hR => ?_
  obtain ⟨x1, rfl⟩ : ∃ x, x = s := ⟨s, rfl⟩
  obtain ⟨F, W⟩ := hR
  have F : Fr 27 [] [(0, v1), (1, v2), (4, .bool false), (5, .int .i64 x1)] a := F
  have W : Stw ⟨Y, [], w0⟩ [] [] w := W
  rw [Ep] at H
  refine vc tk 5 F W fun a w F W => ?_
  refine ls F W Aa (BQ (r := F2) (l := p0) IB Aa F Aa (A6 FW h1 (Aj h_v1))).q fun a w F W => ?_
  refine BV tk 3 F W fun a w F W => ?_
  refine Br F Aa H (fun F H => ?_) fun F H => ?_
  ·
   refine E8 tk 5 F W fun a w F W => ?_
   refine CV W MO (by kernel_rfl) ?_
   iterate 2 refine qs F Aa (Am F Aa).q fun a F => ?_
   obtain ⟨x2, h3, H⟩ := Ah H
   obtain ⟨v5, h4, h5⟩ := Ck h1 h3
   have h6 : Gj v5 = [.int .i64 x2.1, .int .i64 x2.2.1.1, .int .i64 x2.2.1.2.1.1, .int .i64 x2.2.1.2.1.2.1.1, .int .i64 x2.2.1.2.1.2.1.2.1, .int .i64 x2.2.1.2.1.2.1.2.2.1, .int .i64 x2.2.1.2.1.2.1.2.2.2, .int .i64 x2.2.1.2.1.2.2.1, .int .i64 x2.2.1.2.1.2.2.2.1, .int .i64 x2.2.1.2.1.2.2.2.2.1, .int .i64 x2.2.1.2.1.2.2.2.2.2, (v5.2.1.2.2.1), .bool x2.2.2] := congrArg (fun q : Int × (Int × (Int × (Int × Int × Int × Int) × (Int × Int × Int × Int)) × (List (Int × Int × Int))) × Bool => ([.int .i64 q.1, .int .i64 q.2.1.1, .int .i64 q.2.1.2.1.1, .int .i64 q.2.1.2.1.2.1.1, .int .i64 q.2.1.2.1.2.1.2.1, .int .i64 q.2.1.2.1.2.1.2.2.1, .int .i64 q.2.1.2.1.2.1.2.2.2, .int .i64 q.2.1.2.1.2.2.1, .int .i64 q.2.1.2.1.2.2.2.1, .int .i64 q.2.1.2.1.2.2.2.2.1, .int .i64 q.2.1.2.1.2.2.2.2.2, (v5.2.1.2.2.1), .bool q.2.2] : List Value)) h5
   refine qs F Aa (A8 (r := Hp) NN F Aa Aa (Aj h_v1) h4).q fun a F => ?_
   refine qs F Aa (AE (y := Value.agg #[.int .i64 x2.1, .int .i64 x2.2.1.1, .int .i64 x2.2.1.2.1.1, .int .i64 x2.2.1.2.1.2.1.1, .int .i64 x2.2.1.2.1.2.1.2.1, .int .i64 x2.2.1.2.1.2.1.2.2.1, .int .i64 x2.2.1.2.1.2.1.2.2.2, .int .i64 x2.2.1.2.1.2.2.1, .int .i64 x2.2.1.2.1.2.2.2.1, .int .i64 x2.2.1.2.1.2.2.2.2.1, .int .i64 x2.2.1.2.1.2.2.2.2.2, (v5.2.1.2.2.1), .bool x2.2.2]) (j := 0) (i := x1) (enc := Gj) F Aa Aa (Aj h_v1) h4 Kg I3 (by rw [h6]; rfl)).q fun a F => ?_
   iterate 2 refine qs F Aa (Am F Aa).q fun a F => ?_
   obtain ⟨x3, h7, H⟩ := Ah H
   obtain ⟨v6, h8, h9⟩ := Ck h2 h7
   have h10 : Gj v6 = [.int .i64 x3.1, .int .i64 x3.2.1.1, .int .i64 x3.2.1.2.1.1, .int .i64 x3.2.1.2.1.2.1.1, .int .i64 x3.2.1.2.1.2.1.2.1, .int .i64 x3.2.1.2.1.2.1.2.2.1, .int .i64 x3.2.1.2.1.2.1.2.2.2, .int .i64 x3.2.1.2.1.2.2.1, .int .i64 x3.2.1.2.1.2.2.2.1, .int .i64 x3.2.1.2.1.2.2.2.2.1, .int .i64 x3.2.1.2.1.2.2.2.2.2, (v6.2.1.2.2.1), .bool x3.2.2] := congrArg (fun q : Int × (Int × (Int × (Int × Int × Int × Int) × (Int × Int × Int × Int)) × (List (Int × Int × Int))) × Bool => ([.int .i64 q.1, .int .i64 q.2.1.1, .int .i64 q.2.1.2.1.1, .int .i64 q.2.1.2.1.2.1.1, .int .i64 q.2.1.2.1.2.1.2.1, .int .i64 q.2.1.2.1.2.1.2.2.1, .int .i64 q.2.1.2.1.2.1.2.2.2, .int .i64 q.2.1.2.1.2.2.1, .int .i64 q.2.1.2.1.2.2.2.1, .int .i64 q.2.1.2.1.2.2.2.2.1, .int .i64 q.2.1.2.1.2.2.2.2.2, (v6.2.1.2.2.1), .bool q.2.2] : List Value)) h9
   refine qs F Aa (A8 (r := Hp) NN F Aa Aa (Aj h_v2) h8).q fun a F => ?_
   refine qs F Aa (AE (y := Value.agg #[.int .i64 x3.1, .int .i64 x3.2.1.1, .int .i64 x3.2.1.2.1.1, .int .i64 x3.2.1.2.1.2.1.1, .int .i64 x3.2.1.2.1.2.1.2.1, .int .i64 x3.2.1.2.1.2.1.2.2.1, .int .i64 x3.2.1.2.1.2.1.2.2.2, .int .i64 x3.2.1.2.1.2.2.1, .int .i64 x3.2.1.2.1.2.2.2.1, .int .i64 x3.2.1.2.1.2.2.2.2.1, .int .i64 x3.2.1.2.1.2.2.2.2.2, (v6.2.1.2.2.1), .bool x3.2.2]) (j := 0) (i := x1) (enc := Gj) F Aa Aa (Aj h_v2) h8 Kg I3 (by rw [h10]; rfl)).q fun a F => ?_
   obtain ⟨x4, h11, H⟩ := Ah H
   refine qs F Aa (AU (v := Value.bool x4) F Qz Aa (fun w W => GK any w ((v5.2.1.2.2.1)) ((v6.2.1.2.2.1)) x2 x3 _ h11 (CY (Dr (Aj h_v1) h4 (Ay.snd (Ay.fst (Ay.snd (Ay.snd Ay.here)))) (congrArg (fun q : Int × (Int × (Int × (Int × Int × Int × Int) × (Int × Int × Int × Int)) × (List (Int × Int × Int))) × Bool => q.2.1.2.2) h5)) W) (CY (Dr (Aj h_v2) h8 (Ay.snd (Ay.fst (Ay.snd (Ay.snd Ay.here)))) (congrArg (fun q : Int × (Int × (Int × (Int × Int × Int × Int) × (Int × Int × Int × Int)) × (List (Int × Int × Int))) × Bool => q.2.1.2.2) h9)) W))) fun a F => ?_
   refine qs F Aa (Lk F Aa).q fun a F => ?_
   refine AM fun w W => ?_
   refine Ad ?_
   refine B8 F Aa H (fun F H => ?_) fun F H => ?_
   ·
    refine vc tk 5 F W fun a w F W => ?_
    refine Al (Az ?_)
    iterate 2 refine Ap ?_
    refine Az (Ap ?_)
    have H := L2 _ H
    have H := L1 _ H
    have H := Aw H
    subst H
    refine Aq (.inl Aa) F W Aa (Ak F Aa) ?_
    exact ⟨rfl, W.done⟩
   refine AH (AV ?_)
   refine vn tk 5 F W fun a w F W => ?_
   refine Ad ?_
   exact ⟨_, H, F.ra Aa, W⟩
  refine Bz ?_
  iterate 2 refine B7 ?_
  refine BC (Ad ?_)
  have H := L2 _ H
  exact ⟨H, F.ra Aa, W⟩
 rintro a w ⟨hj, F, W⟩
 have H := K1 _ hj
 clear hj G1 K1 L1
 refine vc tk 5 F W fun a w F W => ?_
 refine Al ?_
 have H := Aw H
 subst H
 refine Aq (.inl Aa) F W Aa (Ak F Aa) ?_
 exact ⟨rfl, W.done⟩
theorem RS : Has Try.prog 19 := B3 Try.func19
end Go.Proofs.Ytfnmlmglmegamaa
