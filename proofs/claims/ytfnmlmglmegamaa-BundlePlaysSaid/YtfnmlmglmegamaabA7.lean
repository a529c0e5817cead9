/- The functions of layer 12, FK. Conditions: none. -/
import Derived.Test.YtfnmlmglmegamaabA6
namespace Go.Proofs.Ytfnmlmglmegamaa
open Go Go.RowKit
set_option linter.unusedVariables false
set_option linter.unusedSimpArgs false
set_option maxRecDepth 20000
theorem Tm : Has Try.prog 14 := BV Try.func14
noncomputable def Ct (p0 : Int × Int × (List (Int × (Int × (Int × (Int × (Int × Int × Int × Int) × (Int × Int × Int × Int)) × (List (Int × Int × Int))) × Bool)))) (p1 : List (Int × (Int × (Int × Int × Int × Int) × (Int × Int × Int × Int)) × (List (Int × Int × Int)))) (p2 : Int) (p3 : Int) : Option ((List (Int × (Int × (Int × Int × Int × Int) × (Int × Int × Int × Int)) × (List (Int × Int × Int)))) × Int × (Int × Int × (List (Int × (Int × (Int × (Int × (Int × Int × Int × Int) × (Int × Int × Int × Int)) × (List (Int × Int × Int))) × Bool))))) := (CC p0 p1 p2 p3).bind fun x1 => (if x1 ≠ 0 then some (p1, x1, p0) else (Bz p0).bind fun x2 => (E3 p1 x2 p2 p3).bind fun x3 => some (x3.1, 0, (2, p0.2.1, ([] : List (Int × (Int × (Int × (Int × (Int × Int × Int × Int) × (Int × Int × Int × Int)) × (List (Int × Int × Int))) × Bool))))))
theorem Hf (Y : Nat → Prop) (X : List Nat) (w0 : World) (q_p0 : Nat) (v1 : Value) (v2 : Value) (p0 : Int × Int × (List (Int × (Int × (Int × (Int × (Int × Int × Int × Int) × (Int × Int × Int × Int)) × (List (Int × Int × Int))) × Bool)))) (p1 : List (Int × (Int × (Int × Int × Int × Int) × (Int × Int × Int × Int)) × (List (Int × Int × Int)))) (p2 : Int) (p3 : Int) (r : (List (Int × (Int × (Int × Int × Int × Int) × (Int × Int × Int × Int)) × (List (Int × Int × Int)))) × Int × (Int × Int × (List (Int × (Int × (Int × (Int × (Int × Int × Int × Int) × (Int × Int × Int × Int)) × (List (Int × Int × Int))) × Bool))))) (H : Ct p0 p1 p2 p3 = some r) (s_v2 : Sl w0 Y AK v2 p1) (hL : Stw ⟨Y, X, w0⟩ [(q_p0, [.int .i64 p0.1, .int .i64 p0.2.1, v1])] [row v1 76 CQ p0.2.2] w0) :
    Calls Try.prog 15 #[.pointer (some ⟨q_p0, 0, none⟩), v2, .int .i64 p2, .int .i64 p3] w0 fun e w' => ∃ x : Value × Value, e = .returned (.tuple #[x.1, .int .i64 r.2.1]) ∧ Stw ⟨Y, X, w0⟩ [(q_p0, [.int .i64 r.2.2.1, .int .i64 r.2.2.2.1, x.2])] [row (x.2) 76 CQ r.2.2.2.2, Bo (x.1) AK r.1] w' := by
 refine enter Try.func15 Aa Try.ntmps15 Aa fun a F => ?_
 have W := hL
 obtain ⟨v3, h1, s_v2⟩ := s_v2.ex A4
 have h_v2 := W.nx s_v2
 unfold Ct at H
 refine vc tk 12 F W fun a w F W => ?_
 obtain ⟨x1, h2, H⟩ := Af H
 refine AA (Ml := [(q_p0, (Ce p0 v1))]) (Zl := [row v1 76 CQ p0.2.2]) (β := Unit) (rv := fun x => .int .i64 x1) (MM := fun x => [(q_p0, (Ce p0 v1))]) (ZZ := fun x => [row v1 76 CQ p0.2.2]) F W Su Aa Aa (fun hL => FH _ _ w q_p0 (v1) (v2) p0 p1 p2 p3 _ h2 (Sl.hide A4 h1 (W.old s_v2)) hL) fun x a w F W => ?_
 have W : Stw ⟨Y, X, w0⟩ [(q_p0, (Ce p0 v1))] [row v1 76 CQ p0.2.2] w := W
 refine BJ tk 10 F W fun a w F W => ?_
 refine Bi F Aa H (fun F H => ?_) fun F H => ?_
 ·
  refine vc tk 8 F W fun a w F W => ?_
  refine Al (Aq ?_)
  have H := Av H
  subst H
  refine CI (.inl Aa) F W Aa (Ai F Aa) (Ai F Aa) ?_
  have W := W.note (Sl.hide A4 h1 (W.old s_v2))
  have W := W.frontZ (i := 1) Aa Aa
  exact ⟨((v2), (v1)), Aa, W⟩
 refine D6 tk 6 F W fun a w F W => ?_
 obtain ⟨x2, h3, H⟩ := Af H
 refine AA (Ml := [(q_p0, (Ce p0 v1))]) (Zl := [row v1 76 CQ p0.2.2]) (β := Value) (rv := fun x => x) (MM := fun x => [(q_p0, (Ce p0 v1))]) (ZZ := fun x => [row v1 76 CQ p0.2.2, row x 39 EQ x2]) F W Sn Aa Aa (fun hL => Ep _ _ w q_p0 (v1) p0 _ h3 hL) fun x a w F W => ?_
 obtain ⟨v4, rfl⟩ : ∃ y, y = x := ⟨x, rfl⟩
 have W : Stw ⟨Y, X, w0⟩ [(q_p0, (Ce p0 v1))] [row v1 76 CQ p0.2.2, row v4 39 EQ x2] w := W
 refine vl tk 2 F W fun a w F W => ?_
 obtain ⟨x3, h4, H⟩ := Af H
 have W := W.frontZ (i := 1) Aa Aa
 have W := W.freeze
 refine AA (Ml := []) (Zl := []) (β := Value) (rv := fun x => .tuple #[x, .int .i64 x3.2.1, .int .i64 x3.2.2]) (MM := fun x => []) (ZZ := fun x => [Bo x AK x3.1]) F W SA Aa Aa (fun hL => Js _ w (v2) (v4) p1 x2 p2 p3 _ h4 (Sl.hide A4 h1 (W.old s_v2)) (W.item (i := 0) Aa)) fun x a w F W => ?_
 obtain ⟨v5, rfl⟩ : ∃ y, y = x := ⟨x, rfl⟩
 have W : Stw ⟨Y, X, w0⟩ [(q_p0, (Ce p0 v1))] [Bo v5 AK x3.1, Bo v4 EQ x2, row v1 76 CQ p0.2.2] w := W
 refine ls F W Aa (Am F Aa).q fun a w F W => ?_
 refine ls F W Aa (AN (v := v5) F Aa Aa).q fun a w F W => ?_
 refine ls F W Aa (AN (v := Value.int .i64 x3.2.1) F Aa Aa).q fun a w F W => ?_
 refine ls F W Aa (AN (v := Value.int .i64 x3.2.2) F Aa Aa).q fun a w F W => ?_
 refine BJ tk 8 F W fun a w F W => ?_
 refine ls F W Aa (AW F Aa).q fun a w F W => ?_
 refine ls F W Aa (Aj JB Aa Aa Aa T3 F Aa 0 Aa).q fun a w F W => ?_
 refine Dh 0 F W Aa Aa Aa T3 Aa Aa Aa fun w W => ?_
 refine BJ tk 5 F W fun a w F W => ?_
 refine ls F W Aa (AW F Aa).q fun a w F W => ?_
 refine ls F W Aa (Aj JB Aa Aa Aa PX F Aa 2 Aa).q fun a w F W => ?_
 refine Dh 0 F W Aa Aa Aa PX Aa Aa Aa fun w W => ?_
 refine BJ tk 9 F W fun a w F W => ?_
 refine Al ?_
 have H := Av H
 subst H
 refine CI (.inl Aa) F W Aa (Ai F Aa) (Ai F Aa) ?_
 have W := W.nilRow 76 CQ
 have W := W.frontZ (i := 1) Aa Aa
 have W := W.frontZ (i := 1) Aa Aa
 have W := W.sub (M' := [(q_p0, [.int .i64 2, .int .i64 p0.2.1, .slice none 0 0])]) (Z' := [row (Value.slice none 0 0) 76 CQ ([]), Bo v5 AK x3.1]) (List.Sublist.refl _) (List.Sublist.cons_cons _ (List.Sublist.cons_cons _ (List.nil_sublist _)))
 exact ⟨((v5), (Value.slice none 0 0)), Aa, W⟩
theorem Tr : Has Try.prog 15 := BV Try.func15
noncomputable def EC (p0 : List (Int × (Int × (Int × Int × Int × Int) × (Int × Int × Int × Int)) × (List (Int × Int × Int)))) (p1 : List (Int × (Int × (Int × Int × Int × Int) × (Int × Int × Int × Int)) × (List (Int × Int × Int)))) : Int → Option (Int ⊕ (Unit ⊕ Bool))
  | x1 => (if x1 < (p0.length : Int) then (ix p0 x1).bind fun x2 => (ix p1 x1).bind fun x3 => (E8 x2 x3).bind fun x4 => (if (!x4) = true then some (.inr (.inr false)) else some (.inl (Cc (x1 + 1)))) else some (.inr (.inl ())))
noncomputable def F8 (p0 : List (Int × (Int × (Int × Int × Int × Int) × (Int × Int × Int × Int)) × (List (Int × Int × Int)))) (p1 : List (Int × (Int × (Int × Int × Int × Int) × (Int × Int × Int × Int)) × (List (Int × Int × Int)))) : Option Bool := (if (p0.length : Int) ≠ (p1.length : Int) then some false else FR (AX (EC p0 p1) 0) fun _ => some true)
theorem KQ (Y : Nat → Prop) (w0 : World) (v1 : Value) (v2 : Value) (p0 : List (Int × (Int × (Int × Int × Int × Int) × (Int × Int × Int × Int)) × (List (Int × Int × Int)))) (p1 : List (Int × (Int × (Int × Int × Int × Int) × (Int × Int × Int × Int)) × (List (Int × Int × Int)))) (r : Bool) (H : F8 p0 p1 = some r) (h_v1 : Sl w0 (NX []) AK v1 p0) (h_v2 : Sl w0 (NX []) AK v2 p1) :
    Calls Try.prog 16 #[v1, v2] w0 fun e w' => e = .returned (.bool r) ∧ Below w0.heap.size w0 w' := by
 refine enter Try.func16 Aa Try.ntmps16 Aa fun a F => ?_
 have W := Stw.start Y w0
 obtain ⟨v3, h1, h_v1⟩ := h_v1.ex A4
 obtain ⟨v4, h2, h_v2⟩ := h_v2.ex A4
 unfold F8 at H
 refine vc tk 9 F W fun a w F W => ?_
 refine ls F W Aa (B7 (r := AK) (l := p0) E7 Aa F Aa (Bq A4 h1 (An h_v1))).q fun a w F W => ?_
 refine ls F W Aa (Am F Aa).q fun a w F W => ?_
 refine ls F W Aa (B7 (r := AK) (l := p1) E7 Aa F Aa (Bq A4 h2 (An h_v2))).q fun a w F W => ?_
 refine BJ tk 3 F W fun a w F W => ?_
 refine Bi F Aa H (fun F H => ?_) fun F H => ?_
 ·
  refine vc tk 5 F W fun a w F W => ?_
  refine Al (Aq ?_)
  have H := Av H
  subst H
  refine Aw (.inl Aa) F W Aa (Ai F Aa) ?_
  exact ⟨rfl, W.done⟩
 refine AC (Ad ?_)
 obtain ⟨o1, G1, K1, L1⟩ := H1 H
 refine Au (fun a w => some (Sum.inl ()) = some o1 ∧ Fr 27 [] [(4, .bool false)] a ∧ Stw ⟨Y, [], w0⟩ [] [] w) ?_ ?_
 ·
  have H := G1
  clear G1 K1
  refine vc tk 6 F W fun a w F W => ?_
  refine BA H (fun s a w => Fr 27 [] [(0, v1), (1, v2), (4, .bool false), (5, .int .i64 s)] a ∧ Stw ⟨Y, [], w0⟩ [] [] w) ⟨F.ra Aa, W⟩ fun s o a w H L2 hR => ?_
  obtain ⟨x1, rfl⟩ : ∃ x, x = s := ⟨s, rfl⟩
  obtain ⟨F, W⟩ := hR
  have F : Fr 27 [] [(0, v1), (1, v2), (4, .bool false), (5, .int .i64 x1)] a := F
  have W : Stw ⟨Y, [], w0⟩ [] [] w := W
  rw [EC] at H
  refine vc tk 5 F W fun a w F W => ?_
  refine ls F W Aa (B7 (r := AK) (l := p0) E7 Aa F Aa (Bq A4 h1 (An h_v1))).q fun a w F W => ?_
  refine BJ tk 3 F W fun a w F W => ?_
  refine Bi F Aa H (fun F H => ?_) fun F H => ?_
  ·
   refine D6 tk 5 F W fun a w F W => ?_
   refine Ck W MO (by kernel_rfl) ?_
   iterate 2 refine qs F Aa (Am F Aa).q fun a F => ?_
   obtain ⟨x2, h3, H⟩ := Af H
   obtain ⟨v5, h4, h5⟩ := BX h1 h3
   have h6 : Cy v5 = [.int .i64 x2.1, .int .i64 x2.2.1.1, .int .i64 x2.2.1.2.1.1, .int .i64 x2.2.1.2.1.2.1, .int .i64 x2.2.1.2.1.2.2.1, .int .i64 x2.2.1.2.1.2.2.2, .int .i64 x2.2.1.2.2.1, .int .i64 x2.2.1.2.2.2.1, .int .i64 x2.2.1.2.2.2.2.1, .int .i64 x2.2.1.2.2.2.2.2, (v5.2.2.1)] := congrArg (fun q : Int × (Int × (Int × Int × Int × Int) × (Int × Int × Int × Int)) × (List (Int × Int × Int)) => ([.int .i64 q.1, .int .i64 q.2.1.1, .int .i64 q.2.1.2.1.1, .int .i64 q.2.1.2.1.2.1, .int .i64 q.2.1.2.1.2.2.1, .int .i64 q.2.1.2.1.2.2.2, .int .i64 q.2.1.2.2.1, .int .i64 q.2.1.2.2.2.1, .int .i64 q.2.1.2.2.2.2.1, .int .i64 q.2.1.2.2.2.2.2, (v5.2.2.1)] : List Value)) h5
   refine qs F Aa (AR (r := C4) EL F Aa Aa (An h_v1) h4).q fun a F => ?_
   refine qs F Aa (AD (y := Value.agg #[.int .i64 x2.1, .int .i64 x2.2.1.1, .int .i64 x2.2.1.2.1.1, .int .i64 x2.2.1.2.1.2.1, .int .i64 x2.2.1.2.1.2.2.1, .int .i64 x2.2.1.2.1.2.2.2, .int .i64 x2.2.1.2.2.1, .int .i64 x2.2.1.2.2.2.1, .int .i64 x2.2.1.2.2.2.2.1, .int .i64 x2.2.1.2.2.2.2.2, (v5.2.2.1)]) (j := 0) (i := x1) (enc := Cy) F Aa Aa (An h_v1) h4 EG EM (by rw [h6]; rfl)).q fun a F => ?_
   iterate 2 refine qs F Aa (Am F Aa).q fun a F => ?_
   obtain ⟨x3, h7, H⟩ := Af H
   obtain ⟨v6, h8, h9⟩ := BX h2 h7
   have h10 : Cy v6 = [.int .i64 x3.1, .int .i64 x3.2.1.1, .int .i64 x3.2.1.2.1.1, .int .i64 x3.2.1.2.1.2.1, .int .i64 x3.2.1.2.1.2.2.1, .int .i64 x3.2.1.2.1.2.2.2, .int .i64 x3.2.1.2.2.1, .int .i64 x3.2.1.2.2.2.1, .int .i64 x3.2.1.2.2.2.2.1, .int .i64 x3.2.1.2.2.2.2.2, (v6.2.2.1)] := congrArg (fun q : Int × (Int × (Int × Int × Int × Int) × (Int × Int × Int × Int)) × (List (Int × Int × Int)) => ([.int .i64 q.1, .int .i64 q.2.1.1, .int .i64 q.2.1.2.1.1, .int .i64 q.2.1.2.1.2.1, .int .i64 q.2.1.2.1.2.2.1, .int .i64 q.2.1.2.1.2.2.2, .int .i64 q.2.1.2.2.1, .int .i64 q.2.1.2.2.2.1, .int .i64 q.2.1.2.2.2.2.1, .int .i64 q.2.1.2.2.2.2.2, (v6.2.2.1)] : List Value)) h9
   refine qs F Aa (AR (r := C4) EL F Aa Aa (An h_v2) h8).q fun a F => ?_
   refine qs F Aa (AD (y := Value.agg #[.int .i64 x3.1, .int .i64 x3.2.1.1, .int .i64 x3.2.1.2.1.1, .int .i64 x3.2.1.2.1.2.1, .int .i64 x3.2.1.2.1.2.2.1, .int .i64 x3.2.1.2.1.2.2.2, .int .i64 x3.2.1.2.2.1, .int .i64 x3.2.1.2.2.2.1, .int .i64 x3.2.1.2.2.2.2.1, .int .i64 x3.2.1.2.2.2.2.2, (v6.2.2.1)]) (j := 0) (i := x1) (enc := Cy) F Aa Aa (An h_v2) h8 EG EM (by rw [h10]; rfl)).q fun a F => ?_
   obtain ⟨x4, h11, H⟩ := Af H
   refine qs F Aa (AM (v := Value.bool x4) F Ss Aa (fun w W => I9 any w ((v5.2.2.1)) ((v6.2.2.1)) x2 x3 _ h11 (Dc (Db (An h_v1) h4 (Ay.snd (Ay.snd Ay.here)) (congrArg (fun q : Int × (Int × (Int × Int × Int × Int) × (Int × Int × Int × Int)) × (List (Int × Int × Int)) => q.2.2) h5)) W) (Dc (Db (An h_v2) h8 (Ay.snd (Ay.snd Ay.here)) (congrArg (fun q : Int × (Int × (Int × Int × Int × Int) × (Int × Int × Int × Int)) × (List (Int × Int × Int)) => q.2.2) h9)) W))) fun a F => ?_
   refine qs F Aa (J6 F Aa).q fun a F => ?_
   refine AJ fun w W => ?_
   refine Ad ?_
   refine BE F Aa H (fun F H => ?_) fun F H => ?_
   ·
    refine vc tk 5 F W fun a w F W => ?_
    refine Al (Az ?_)
    iterate 2 refine Aq ?_
    refine Az (Aq ?_)
    have H := L2 _ H
    have H := L1 _ H
    have H := Av H
    subst H
    refine Aw (.inl Aa) F W Aa (Ai F Aa) ?_
    exact ⟨rfl, W.done⟩
   refine AC (AF ?_)
   refine vn tk 5 F W fun a w F W => ?_
   refine Ad ?_
   exact ⟨_, H, F.ra Aa, W⟩
  refine Bm ?_
  iterate 2 refine BU ?_
  refine Bp (Ad ?_)
  have H := L2 _ H
  exact ⟨H, F.ra Aa, W⟩
 rintro a w ⟨hj, F, W⟩
 have H := K1 _ hj
 clear hj G1 K1 L1
 refine vc tk 5 F W fun a w F W => ?_
 refine Al ?_
 have H := Av H
 subst H
 refine Aw (.inl Aa) F W Aa (Ai F Aa) ?_
 exact ⟨rfl, W.done⟩
theorem TN : Has Try.prog 16 := BV Try.func16
noncomputable def E6 (p0 : List (Int × (Int × (Int × (Int × Int × Int × Int) × (Int × Int × Int × Int)) × (List (Int × Int × Int))) × Bool)) (p1 : List (Int × (Int × (Int × (Int × Int × Int × Int) × (Int × Int × Int × Int)) × (List (Int × Int × Int))) × Bool)) : Int → Option (Int ⊕ (Unit ⊕ Bool))
  | x1 => (if x1 < (p0.length : Int) then (ix p0 x1).bind fun x2 => (ix p1 x1).bind fun x3 => (DH x2 x3).bind fun x4 => (if (!x4) = true then some (.inr (.inr false)) else some (.inl (Cc (x1 + 1)))) else some (.inr (.inl ())))
noncomputable def FF (p0 : List (Int × (Int × (Int × (Int × Int × Int × Int) × (Int × Int × Int × Int)) × (List (Int × Int × Int))) × Bool)) (p1 : List (Int × (Int × (Int × (Int × Int × Int × Int) × (Int × Int × Int × Int)) × (List (Int × Int × Int))) × Bool)) : Option Bool := (if (p0.length : Int) ≠ (p1.length : Int) then some false else FR (AX (E6 p0 p1) 0) fun _ => some true)
theorem Mi (Y : Nat → Prop) (w0 : World) (v1 : Value) (v2 : Value) (p0 : List (Int × (Int × (Int × (Int × Int × Int × Int) × (Int × Int × Int × Int)) × (List (Int × Int × Int))) × Bool)) (p1 : List (Int × (Int × (Int × (Int × Int × Int × Int) × (Int × Int × Int × Int)) × (List (Int × Int × Int))) × Bool)) (r : Bool) (H : FF p0 p1 = some r) (h_v1 : Sl w0 (NX []) EQ v1 p0) (h_v2 : Sl w0 (NX []) EQ v2 p1) :
    Calls Try.prog 19 #[v1, v2] w0 fun e w' => e = .returned (.bool r) ∧ Below w0.heap.size w0 w' := by
 refine enter Try.func19 Aa Try.ntmps19 Aa fun a F => ?_
 have W := Stw.start Y w0
 obtain ⟨v3, h1, h_v1⟩ := h_v1.ex Ib
 obtain ⟨v4, h2, h_v2⟩ := h_v2.ex Ib
 unfold FF at H
 refine vc tk 9 F W fun a w F W => ?_
 refine ls F W Aa (B7 (r := EQ) (l := p0) LI Aa F Aa (Bq Ib h1 (An h_v1))).q fun a w F W => ?_
 refine ls F W Aa (Am F Aa).q fun a w F W => ?_
 refine ls F W Aa (B7 (r := EQ) (l := p1) LI Aa F Aa (Bq Ib h2 (An h_v2))).q fun a w F W => ?_
 refine BJ tk 3 F W fun a w F W => ?_
 refine Bi F Aa H (fun F H => ?_) fun F H => ?_
 ·
  refine vc tk 5 F W fun a w F W => ?_
  refine Al (Aq ?_)
  have H := Av H
  subst H
  refine Aw (.inl Aa) F W Aa (Ai F Aa) ?_
  exact ⟨rfl, W.done⟩
 refine AC (Ad ?_)
 obtain ⟨o1, G1, K1, L1⟩ := H1 H
 refine Au (fun a w => some (Sum.inl ()) = some o1 ∧ Fr 27 [] [(4, .bool false)] a ∧ Stw ⟨Y, [], w0⟩ [] [] w) ?_ ?_
 ·
  have H := G1
  clear G1 K1
  refine vc tk 6 F W fun a w F W => ?_
  refine BA H (fun s a w => Fr 27 [] [(0, v1), (1, v2), (4, .bool false), (5, .int .i64 s)] a ∧ Stw ⟨Y, [], w0⟩ [] [] w) ⟨F.ra Aa, W⟩ fun s o a w H L2 hR => ?_
  obtain ⟨x1, rfl⟩ : ∃ x, x = s := ⟨s, rfl⟩
  obtain ⟨F, W⟩ := hR
  have F : Fr 27 [] [(0, v1), (1, v2), (4, .bool false), (5, .int .i64 x1)] a := F
  have W : Stw ⟨Y, [], w0⟩ [] [] w := W
  rw [E6] at H
  refine vc tk 5 F W fun a w F W => ?_
  refine ls F W Aa (B7 (r := EQ) (l := p0) LI Aa F Aa (Bq Ib h1 (An h_v1))).q fun a w F W => ?_
  refine BJ tk 3 F W fun a w F W => ?_
  refine Bi F Aa H (fun F H => ?_) fun F H => ?_
  ·
   refine D6 tk 5 F W fun a w F W => ?_
   refine Ck W MO (by kernel_rfl) ?_
   iterate 2 refine qs F Aa (Am F Aa).q fun a F => ?_
   obtain ⟨x2, h3, H⟩ := Af H
   obtain ⟨v5, h4, h5⟩ := BX h1 h3
   have h6 : Ia v5 = [.int .i64 x2.1, .int .i64 x2.2.1.1, .int .i64 x2.2.1.2.1.1, .int .i64 x2.2.1.2.1.2.1.1, .int .i64 x2.2.1.2.1.2.1.2.1, .int .i64 x2.2.1.2.1.2.1.2.2.1, .int .i64 x2.2.1.2.1.2.1.2.2.2, .int .i64 x2.2.1.2.1.2.2.1, .int .i64 x2.2.1.2.1.2.2.2.1, .int .i64 x2.2.1.2.1.2.2.2.2.1, .int .i64 x2.2.1.2.1.2.2.2.2.2, (v5.2.1.2.2.1), .bool x2.2.2] := congrArg (fun q : Int × (Int × (Int × (Int × Int × Int × Int) × (Int × Int × Int × Int)) × (List (Int × Int × Int))) × Bool => ([.int .i64 q.1, .int .i64 q.2.1.1, .int .i64 q.2.1.2.1.1, .int .i64 q.2.1.2.1.2.1.1, .int .i64 q.2.1.2.1.2.1.2.1, .int .i64 q.2.1.2.1.2.1.2.2.1, .int .i64 q.2.1.2.1.2.1.2.2.2, .int .i64 q.2.1.2.1.2.2.1, .int .i64 q.2.1.2.1.2.2.2.1, .int .i64 q.2.1.2.1.2.2.2.2.1, .int .i64 q.2.1.2.1.2.2.2.2.2, (v5.2.1.2.2.1), .bool q.2.2] : List Value)) h5
   refine qs F Aa (AR (r := Ic) O3 F Aa Aa (An h_v1) h4).q fun a F => ?_
   refine qs F Aa (AD (y := Value.agg #[.int .i64 x2.1, .int .i64 x2.2.1.1, .int .i64 x2.2.1.2.1.1, .int .i64 x2.2.1.2.1.2.1.1, .int .i64 x2.2.1.2.1.2.1.2.1, .int .i64 x2.2.1.2.1.2.1.2.2.1, .int .i64 x2.2.1.2.1.2.1.2.2.2, .int .i64 x2.2.1.2.1.2.2.1, .int .i64 x2.2.1.2.1.2.2.2.1, .int .i64 x2.2.1.2.1.2.2.2.2.1, .int .i64 x2.2.1.2.1.2.2.2.2.2, (v5.2.1.2.2.1), .bool x2.2.2]) (j := 0) (i := x1) (enc := Ia) F Aa Aa (An h_v1) h4 NE Hd (by rw [h6]; rfl)).q fun a F => ?_
   iterate 2 refine qs F Aa (Am F Aa).q fun a F => ?_
   obtain ⟨x3, h7, H⟩ := Af H
   obtain ⟨v6, h8, h9⟩ := BX h2 h7
   have h10 : Ia v6 = [.int .i64 x3.1, .int .i64 x3.2.1.1, .int .i64 x3.2.1.2.1.1, .int .i64 x3.2.1.2.1.2.1.1, .int .i64 x3.2.1.2.1.2.1.2.1, .int .i64 x3.2.1.2.1.2.1.2.2.1, .int .i64 x3.2.1.2.1.2.1.2.2.2, .int .i64 x3.2.1.2.1.2.2.1, .int .i64 x3.2.1.2.1.2.2.2.1, .int .i64 x3.2.1.2.1.2.2.2.2.1, .int .i64 x3.2.1.2.1.2.2.2.2.2, (v6.2.1.2.2.1), .bool x3.2.2] := congrArg (fun q : Int × (Int × (Int × (Int × Int × Int × Int) × (Int × Int × Int × Int)) × (List (Int × Int × Int))) × Bool => ([.int .i64 q.1, .int .i64 q.2.1.1, .int .i64 q.2.1.2.1.1, .int .i64 q.2.1.2.1.2.1.1, .int .i64 q.2.1.2.1.2.1.2.1, .int .i64 q.2.1.2.1.2.1.2.2.1, .int .i64 q.2.1.2.1.2.1.2.2.2, .int .i64 q.2.1.2.1.2.2.1, .int .i64 q.2.1.2.1.2.2.2.1, .int .i64 q.2.1.2.1.2.2.2.2.1, .int .i64 q.2.1.2.1.2.2.2.2.2, (v6.2.1.2.2.1), .bool q.2.2] : List Value)) h9
   refine qs F Aa (AR (r := Ic) O3 F Aa Aa (An h_v2) h8).q fun a F => ?_
   refine qs F Aa (AD (y := Value.agg #[.int .i64 x3.1, .int .i64 x3.2.1.1, .int .i64 x3.2.1.2.1.1, .int .i64 x3.2.1.2.1.2.1.1, .int .i64 x3.2.1.2.1.2.1.2.1, .int .i64 x3.2.1.2.1.2.1.2.2.1, .int .i64 x3.2.1.2.1.2.1.2.2.2, .int .i64 x3.2.1.2.1.2.2.1, .int .i64 x3.2.1.2.1.2.2.2.1, .int .i64 x3.2.1.2.1.2.2.2.2.1, .int .i64 x3.2.1.2.1.2.2.2.2.2, (v6.2.1.2.2.1), .bool x3.2.2]) (j := 0) (i := x1) (enc := Ia) F Aa Aa (An h_v2) h8 NE Hd (by rw [h10]; rfl)).q fun a F => ?_
   obtain ⟨x4, h11, H⟩ := Af H
   refine qs F Aa (AM (v := Value.bool x4) F RU Aa (fun w W => Gt any w ((v5.2.1.2.2.1)) ((v6.2.1.2.2.1)) x2 x3 _ h11 (Dc (Db (An h_v1) h4 (Ay.snd (Ay.fst (Ay.snd (Ay.snd Ay.here)))) (congrArg (fun q : Int × (Int × (Int × (Int × Int × Int × Int) × (Int × Int × Int × Int)) × (List (Int × Int × Int))) × Bool => q.2.1.2.2) h5)) W) (Dc (Db (An h_v2) h8 (Ay.snd (Ay.fst (Ay.snd (Ay.snd Ay.here)))) (congrArg (fun q : Int × (Int × (Int × (Int × Int × Int × Int) × (Int × Int × Int × Int)) × (List (Int × Int × Int))) × Bool => q.2.1.2.2) h9)) W))) fun a F => ?_
   refine qs F Aa (J6 F Aa).q fun a F => ?_
   refine AJ fun w W => ?_
   refine Ad ?_
   refine BE F Aa H (fun F H => ?_) fun F H => ?_
   ·
    refine vc tk 5 F W fun a w F W => ?_
    refine Al (Az ?_)
    iterate 2 refine Aq ?_
    refine Az (Aq ?_)
    have H := L2 _ H
    have H := L1 _ H
    have H := Av H
    subst H
    refine Aw (.inl Aa) F W Aa (Ai F Aa) ?_
    exact ⟨rfl, W.done⟩
   refine AC (AF ?_)
   refine vn tk 5 F W fun a w F W => ?_
   refine Ad ?_
   exact ⟨_, H, F.ra Aa, W⟩
  refine Bm ?_
  iterate 2 refine BU ?_
  refine Bp (Ad ?_)
  have H := L2 _ H
  exact ⟨H, F.ra Aa, W⟩
 rintro a w ⟨hj, F, W⟩
 have H := K1 _ hj
 clear hj G1 K1 L1
 refine vc tk 5 F W fun a w F W => ?_
 refine Al ?_
 have H := Av H
 subst H
 refine Aw (.inl Aa) F W Aa (Ai F Aa) ?_
 exact ⟨rfl, W.done⟩
theorem LS : type_of% Try.underlying41 := Try.underlying41
theorem To : Has Try.prog 19 := BV Try.func19
abbrev Eu (a0 : Nat) (a1 : Int) (a2 : Int) (a3 : Value) : List (Nat × List Value) := [(a0, [.int .i64 a1, .int .i64 a2, a3])]
noncomputable def Cj (p0 : List (Int × Int × (Int × (Int × (Int × (Int × Int × Int × Int) × (Int × Int × Int × Int)) × (List (Int × Int × Int))) × Bool))) (p2 : Int) (p3 : Int) : ((List (Int × (Int × (Int × Int × Int × Int) × (Int × Int × Int × Int)) × (List (Int × Int × Int)))) × Int × Int × Int × (List (Int × (Int × (Int × (Int × (Int × Int × Int × Int) × (Int × Int × Int × Int)) × (List (Int × Int × Int))) × Bool))) × (Int × List (Bool × (Int × (Int × (Int × (Int × Int × Int × Int) × (Int × Int × Int × Int)) × (List (Int × Int × Int))) × Bool)))) → Option (((List (Int × (Int × (Int × Int × Int × Int) × (Int × Int × Int × Int)) × (List (Int × Int × Int)))) × Int × Int × Int × (List (Int × (Int × (Int × (Int × (Int × Int × Int × Int) × (Int × Int × Int × Int)) × (List (Int × Int × Int))) × Bool))) × (Int × List (Bool × (Int × (Int × (Int × (Int × Int × Int × Int) × (Int × Int × Int × Int)) × (List (Int × Int × Int))) × Bool)))) ⊕ ((Int × Int × (List (Int × (Int × (Int × (Int × (Int × Int × Int × Int) × (Int × Int × Int × Int)) × (List (Int × Int × Int))) × Bool))) × (Int × List (Bool × (Int × (Int × (Int × (Int × Int × Int × Int) × (Int × Int × Int × Int)) × (List (Int × Int × Int))) × Bool)))) ⊕ Bool))
  | (x8, x9, x10, x11, x12, x13) => (if (decide (x9 < (p0.length : Int)) && decide (x9 < 40)) = true then (ix p0 x9).bind fun x14 => (if 10 < (x14.2.2.2.1.2.2.length : Int) then (DV).bind fun x15 => some (.inr (.inr x15)) else FR ((ix p0 x9).bind fun x23 => (if x23.1 = 0 then some true else (if x23.1 = 1 then some true else (if x23.1 = 2 then some true else some (decide (x23.1 = 3))))).bind fun x24 => (if x24 = true then (ix p0 x9).bind fun x25 => (ix p0 x9).bind fun x26 => (ix p0 x9).bind fun x27 => (ix p0 x9).bind fun x28 => (AS x13 x25.2.1 x26.2.2).bind fun x29 => (BW (x10, x11, x12) x27.2.1 x28.2.2).bind fun x30 => some (.inl (x8, x29.1, x30.1, x30.2.1, x30.2.2.1, x30.2.2.2, x29.2)) else (if x23.1 = 4 then (ix p0 x9).bind fun x31 => (ix p0 x9).bind fun x32 => (AQ x13 x31.2.1).bind fun x33 => (BG (x10, x11, x12) x32.2.1).bind fun x34 => some (.inl (x8, x33.1, x34.1, x34.2.1, x34.2.2.1, x34.2.2.2, x33.2)) else (if x23.1 = 5 then (CP x13 x8 p2 p3).bind fun x35 => (CC (x10, x11, x12) x8 p2 p3).bind fun x36 => some (.inl (x8, x35, x36, (x10, x11, x12).1, (x10, x11, x12).2.1, (x10, x11, x12).2.2, x13)) else (if x23.1 = 6 then (B6 x13 x8 p2 p3).bind fun x37 => (Ct (x10, x11, x12) x8 p2 p3).bind fun x38 => (F8 x37.1 x38.1).bind fun x39 => (if (!x39) = true then some (.inr (.inr (.inr false))) else some (.inl (x38.1, x37.2.1, x38.2.1, x38.2.2.1, x38.2.2.2.1, x38.2.2.2.2, x37.2.2))) else (if x23.1 = 7 then some (.inl (x8, 0, 0, 2, x11, [], (Bb x13))) else some (.inl (x8, 0, 0, x10, x11, x12, x13)))))))) fun (x16, x17, x18, x19, x20, x21, x22) => (if x17 ≠ x18 then some (true, x19, x20, x21) else (if (Ao x22) ≠ x19 then some (true, x19, x20, x21) else (AY x22).bind fun x44 => (Bz (x19, x20, x21)).bind fun x45 => (FF x44 x45).bind fun x46 => some (!x46, (x19, x20, x21).1, (x19, x20, x21).2.1, (x19, x20, x21).2.2))).bind fun (x40, x41, x42, x43) => (if x40 = true then some (.inr (.inr false)) else some (.inl (x16, Cc (x9 + 1), x41, x42, x43, x22)))) else some (.inr (.inl (x10, x11, x12, x13))))
noncomputable def Du (p0 : List (Int × Int × (Int × (Int × (Int × (Int × Int × Int × Int) × (Int × Int × Int × Int)) × (List (Int × Int × Int))) × Bool))) (p1 : List (Int × (Int × (Int × Int × Int × Int) × (Int × Int × Int × Int)) × (List (Int × Int × Int)))) (p2 : Int) (p3 : Int) : Option Bool := (if 20 < (p1.length : Int) then some true else (Gj p1 p2 p3).bind fun x2 => some (!x2)).bind fun x1 => (if x1 = true then (DV).bind fun x3 => some x3 else FR (AX (Cj p0 p2 p3) (p1, 0, 0, 0, [], Ci)) fun (x4, x5, x6, x7) => (DV).bind fun x47 => some x47)
theorem HO (Y : Nat → Prop) (w0 : World) (v1 : Value) (v2 : Value) (p0 : List (Int × Int × (Int × (Int × (Int × (Int × Int × Int × Int) × (Int × Int × Int × Int)) × (List (Int × Int × Int))) × Bool))) (p1 : List (Int × (Int × (Int × Int × Int × Int) × (Int × Int × Int × Int)) × (List (Int × Int × Int)))) (p2 : Int) (p3 : Int) (r : Bool) (H : Du p0 p1 p2 p3 = some r) (s_v1 : Sl w0 Y RI v1 p0) (s_v2 : Sl w0 Y AK v2 p1) :
    Calls Try.prog 3 #[v1, v2, .int .i64 p2, .int .i64 p3] w0 fun e w' => e = .returned (.bool r) ∧ Below w0.heap.size w0 w' := by
 refine enter Try.func3 Aa Try.ntmps3 Aa fun a F => ?_
 have W := Stw.start Y w0
 obtain ⟨v3, h1, s_v1⟩ := s_v1.ex Rc
 obtain ⟨v4, h2, s_v2⟩ := s_v2.ex A4
 have h_v1 := W.nx s_v1
 have h_v2 := W.nx s_v2
 unfold Du at H
 refine vc tk 6 F W fun a w F W => ?_
 obtain ⟨o1, G1, K1⟩ := Af H
 refine Au (fun a w => ∃ x1 : Bool, some (x1) = some o1 ∧ Fr 170 [] [(0, v1), (1, v2), (2, .int .i64 p2), (3, .int .i64 p3), (8, .bool false), (27, .bool x1)] a ∧ Stw ⟨Y, [], w0⟩ [] [] w) ?_ ?_
 ·
  have H := G1
  clear G1 K1
  refine vc tk 2 F W fun a w F W => ?_
  refine ls F W Aa (B7 (r := AK) (l := p1) E7 Aa F Aa (Bq A4 h2 (An h_v2))).q fun a w F W => ?_
  refine vl tk 2 F W fun a w F W => ?_
  rcases Bool.eq_false_or_eq_true (decide (20 < (p1.length : Int))) with hb | hb
  ·
   have H := B4 (Cn hb) H
   rw [hb] at F
   clear hb
   refine vl tk 7 F W fun a w F W => ?_
   refine Ad ?_
   exact ⟨_, H, F.ra Aa, W⟩
  have H := B5 (Cp hb) H
  rw [hb] at F
  clear hb
  refine vl tk 3 F W fun a w F W => ?_
  refine F2 (Ae F Aa Aa Aa Aa) ?_
  obtain ⟨x2, h3, H⟩ := Af H
  refine ls F W Aa (AM (v := Value.bool x2) F H5 Aa (fun w W => LA any w (v2) p1 p2 p3 _ h3 (Dc (Bq A4 h2 (An h_v2)) W))) fun a w F W => ?_
  refine vl tk 3 F W fun a w F W => ?_
  refine Ad ?_
  exact ⟨_, H, F.ra Aa, W⟩
 rintro a w ⟨x1, hj, F, W⟩
 have hj := Av hj
 subst hj
 have H := K1
 clear G1 K1
 refine BE F Aa H (fun F H => ?_) fun F H => ?_
 ·
  refine vc tk 2 F W fun a w F W => ?_
  obtain ⟨x3, h4, H⟩ := Af H
  refine ls F W Aa (AM (v := Value.bool x3) F H6 Aa (fun w W => GT any w _ h4)) fun a w F W => ?_
  refine BJ tk 3 F W fun a w F W => ?_
  refine Al (Aq ?_)
  have H := Av H
  subst H
  refine Aw (.inl Aa) F W Aa (Ai F Aa) ?_
  exact ⟨rfl, W.done⟩
 refine D6 tk 4 F W fun a w F W => ?_
 refine AA (Ml := []) (Zl := []) (β := Nat) (rv := fun x => .pointer (some ⟨x, 0, none⟩)) (MM := fun x => []) (ZZ := fun x => [Bw x BO 16 Ci]) F W H7 Aa Aa (fun hL => HT _ w _ Aa) fun x a w F W => ?_
 obtain ⟨b1, rfl⟩ : ∃ y, y = x := ⟨x, rfl⟩
 have W : Stw ⟨Y, [], w0⟩ [] [Bw b1 BO 16 Ci] w := W
 refine ls F W Aa (Dr (v := Value.agg #[.int .i64 0, .int .i64 0, .slice none 0 0]) TS F Aa Aa Aa).q fun a w F W => ?_
 refine BR (cs := [.int .i64 0, .int .i64 0, .slice none 0 0]) F W Aa Aa Aa fun b2 a w F W => ?_
 refine vl tk 3 F W fun a w F W => ?_
 refine Ad ?_
 obtain ⟨o2, G2, K2, L2⟩ := H1 H
 refine Au (fun a w => ∃ x4 : Int, ∃ x5 : Int, ∃ x6 : List (Int × (Int × (Int × (Int × (Int × Int × Int × Int) × (Int × Int × Int × Int)) × (List (Int × Int × Int))) × Bool)), ∃ x7 : Int × List (Bool × (Int × (Int × (Int × (Int × Int × Int × Int) × (Int × Int × Int × Int)) × (List (Int × Int × Int))) × Bool)), ∃ v5 : Value, some (Sum.inl (x4, x5, x6, x7)) = some o2 ∧ Fr 170 [] [(8, .bool false)] a ∧ Stw ⟨Y, [], w0⟩ (Eu b2 x4 x5 v5) [row v5 76 CQ x6, Bw b1 BO 16 x7] w) ?_ ?_
 ·
  have H := G2
  clear G2 K2
  refine vc tk 6 F W fun a w F W => ?_
  have W := W.note (Sl.hide A4 h2 (W.old s_v2))
  have W := W.nilRow 76 CQ
  have W := W.frontZ (i := 2) Aa Aa
  have W := W.frontZ (i := 1) Aa Aa
  have W := W.frontZ (i := 2) Aa Aa
  refine BA H (fun s a w => ∃ v6 : Value, ∃ v7 : Value, Fr 170 [] [(0, v1), (1, v6), (2, .int .i64 p2), (3, .int .i64 p3), (8, .bool false), (9, .pointer (some ⟨b1, 0, none⟩)), (10, .pointer (some ⟨b2, 0, none⟩)), (11, .int .i64 s.2.1)] a ∧ Stw ⟨Y, [], w0⟩ [(b2, [.int .i64 s.2.2.1, .int .i64 s.2.2.2.1, v7])] [Bo v6 AK s.1, row v7 76 CQ s.2.2.2.2.1, Bw b1 BO 16 s.2.2.2.2.2] w) ⟨(v2), (Value.slice none 0 0), F.ra Aa, W⟩ fun s o a w H L3 hR => ?_
  obtain ⟨x8, x9, x10, x11, x12, x13⟩ := s
  obtain ⟨v6, v7, F, W⟩ := hR
  have F : Fr 170 [] [(0, v1), (1, v6), (2, .int .i64 p2), (3, .int .i64 p3), (8, .bool false), (9, .pointer (some ⟨b1, 0, none⟩)), (10, .pointer (some ⟨b2, 0, none⟩)), (11, .int .i64 x9)] a := F
  have W : Stw ⟨Y, [], w0⟩ (Eu b2 x10 x11 v7) [Bo v6 AK x8, row v7 76 CQ x12, Bw b1 BO 16 x13] w := W
  rw [Cj] at H
  refine GB ?_
  refine Au (fun a w => Fr 170 [] [(0, v1), (1, v6), (2, .int .i64 p2), (3, .int .i64 p3), (8, .bool false), (9, .pointer (some ⟨b1, 0, none⟩)), (10, .pointer (some ⟨b2, 0, none⟩)), (11, .int .i64 x9), (39, .bool (decide (x9 < (p0.length : Int)) && decide (x9 < 40)))] a ∧ Stw ⟨Y, [], w0⟩ (Eu b2 x10 x11 v7) [Bo v6 AK x8, row v7 76 CQ x12, Bw b1 BO 16 x13] w) ?_ ?_
  ·
   refine vc tk 3 F W fun a w F W => ?_
   refine ls F W Aa (B7 (r := RI) (l := p0) Rb Aa F Aa (Bq Rc h1 (An h_v1))).q fun a w F W => ?_
   refine vl tk 2 F W fun a w F W => ?_
   rcases Bool.eq_false_or_eq_true (decide (x9 < (p0.length : Int))) with hb0 | hb0
   ·
    rw [hb0] at F
    refine vl tk 4 F W fun a w F W => ?_
    refine Ad ?_
    exact ⟨F.re ⟨rfl, Aa, Aa, Aa, Aa, Aa, Aa, Aa, (Ev (by try rw [hb0]; all_goals simp only [Es])), trivial⟩, W⟩
   rw [hb0] at F
   refine vl tk 4 F W fun a w F W => ?_
   refine Ad ?_
   exact ⟨F.re ⟨rfl, Aa, Aa, Aa, Aa, Aa, Aa, Aa, (Ev (by try rw [hb0]; all_goals simp only [Es])), trivial⟩, W⟩
  rintro a w ⟨F, W⟩
  refine BE F Aa H (fun F H => ?_) fun F H => ?_
  ·
   refine D6 tk 6 F W fun a w F W => ?_
   obtain ⟨v8, h5, W⟩ := W.exF A4
   have W := W.frontZ (i := 1) Aa Aa
   obtain ⟨v9, h6, W⟩ := W.exR Hu
   have W := W.frontZ (i := 2) Aa Aa
   obtain ⟨v10, h7, W⟩ := W.exP Dz
   refine vc tk 3 F W fun a w F W => ?_
   obtain ⟨x14, h8, H⟩ := Af H
   obtain ⟨v11, h9, h10⟩ := BX h1 h8
   have h11 : GQ v11 = [.int .i64 x14.1, .int .i64 x14.2.1, .int .i64 x14.2.2.1, .int .i64 x14.2.2.2.1.1, .int .i64 x14.2.2.2.1.2.1.1, .int .i64 x14.2.2.2.1.2.1.2.1.1, .int .i64 x14.2.2.2.1.2.1.2.1.2.1, .int .i64 x14.2.2.2.1.2.1.2.1.2.2.1, .int .i64 x14.2.2.2.1.2.1.2.1.2.2.2, .int .i64 x14.2.2.2.1.2.1.2.2.1, .int .i64 x14.2.2.2.1.2.1.2.2.2.1, .int .i64 x14.2.2.2.1.2.1.2.2.2.2.1, .int .i64 x14.2.2.2.1.2.1.2.2.2.2.2, (v11.2.2.2.1.2.2.1), .bool x14.2.2.2.2] := congrArg (fun q : Int × Int × (Int × (Int × (Int × (Int × Int × Int × Int) × (Int × Int × Int × Int)) × (List (Int × Int × Int))) × Bool) => ([.int .i64 q.1, .int .i64 q.2.1, .int .i64 q.2.2.1, .int .i64 q.2.2.2.1.1, .int .i64 q.2.2.2.1.2.1.1, .int .i64 q.2.2.2.1.2.1.2.1.1, .int .i64 q.2.2.2.1.2.1.2.1.2.1, .int .i64 q.2.2.2.1.2.1.2.1.2.2.1, .int .i64 q.2.2.2.1.2.1.2.1.2.2.2, .int .i64 q.2.2.2.1.2.1.2.2.1, .int .i64 q.2.2.2.1.2.1.2.2.2.1, .int .i64 q.2.2.2.1.2.1.2.2.2.2.1, .int .i64 q.2.2.2.1.2.1.2.2.2.2.2, (v11.2.2.2.1.2.2.1), .bool q.2.2.2.2] : List Value)) h10
   refine ls F W Aa (AR (r := JL) Qc F Aa Aa (An h_v1) h9).q fun a w F W => ?_
   refine vl tk 3 F W fun a w F W => ?_
   refine ls F W Aa (AD (y := (v11.2.2.2.1.2.2.1)) (j := 13) (i := x9) (enc := GQ) F Aa Aa (An h_v1) h9 Ll Nt (by rw [h11]; rfl)).q fun a w F W => ?_
   refine ls F W Aa (B7 (r := Bk) (l := x14.2.2.2.1.2.2) Io Aa F Aa (Db (An h_v1) h9 (Ay.snd (Ay.snd (Ay.snd (Ay.fst (Ay.snd (Ay.snd Ay.here)))))) (congrArg (fun q : Int × Int × (Int × (Int × (Int × (Int × Int × Int × Int) × (Int × Int × Int × Int)) × (List (Int × Int × Int))) × Bool) => q.2.2.2.1.2.2) h10))).q fun a w F W => ?_
   refine BJ tk 3 F W fun a w F W => ?_
   refine Bi F Aa H (fun F H => ?_) fun F H => ?_
   ·
    refine vc tk 2 F W fun a w F W => ?_
    obtain ⟨x15, h12, H⟩ := Af H
    refine ls F W Aa (AM (v := Value.bool x15) F H6 Aa (fun w W => GT any w _ h12)) fun a w F W => ?_
    refine BJ tk 3 F W fun a w F W => ?_
    refine Al (Aq (Az ?_))
    iterate 2 refine Aq ?_
    refine Az (Aq ?_)
    have H := L3 _ H
    have H := L2 _ H
    have H := Av H
    subst H
    refine Aw (.inl Aa) F W Aa (Ai F Aa) ?_
    exact ⟨rfl, W.done⟩
   refine D6 tk 8 F W fun a w F W => ?_
   obtain ⟨o4, G4, K4, L4⟩ := H1 H
   refine Au (fun a w => ∃ x16 : List (Int × (Int × (Int × Int × Int × Int) × (Int × Int × Int × Int)) × (List (Int × Int × Int))), ∃ x17 : Int, ∃ x18 : Int, ∃ x19 : Int, ∃ x20 : Int, ∃ x21 : List (Int × (Int × (Int × (Int × (Int × Int × Int × Int) × (Int × Int × Int × Int)) × (List (Int × Int × Int))) × Bool)), ∃ x22 : Int × List (Bool × (Int × (Int × (Int × (Int × Int × Int × Int) × (Int × Int × Int × Int)) × (List (Int × Int × Int))) × Bool)), ∃ v12 : Value, ∃ v13 : Value, some (Sum.inl (x16, x17, x18, x19, x20, x21, x22)) = some o4 ∧ Fr 170 [] [(0, v1), (1, v12), (2, .int .i64 p2), (3, .int .i64 p3), (8, .bool false), (9, .pointer (some ⟨b1, 0, none⟩)), (10, .pointer (some ⟨b2, 0, none⟩)), (11, .int .i64 x9), (12, .int .i64 x17), (13, .int .i64 x18)] a ∧ Stw ⟨Y, [], w0⟩ (Eu b2 x19 x20 v13) [Bo v12 AK x16, row v13 76 CQ x21, Bw b1 BO 16 x22] w) ?_ ?_
   ·
    have H := G4
    clear G4 K4
    refine vc tk 4 F W fun a w F W => ?_
    obtain ⟨x23, h13, H⟩ := Af H
    obtain ⟨v14, h14, h15⟩ := BX h1 h13
    have h16 : GQ v14 = [.int .i64 x23.1, .int .i64 x23.2.1, .int .i64 x23.2.2.1, .int .i64 x23.2.2.2.1.1, .int .i64 x23.2.2.2.1.2.1.1, .int .i64 x23.2.2.2.1.2.1.2.1.1, .int .i64 x23.2.2.2.1.2.1.2.1.2.1, .int .i64 x23.2.2.2.1.2.1.2.1.2.2.1, .int .i64 x23.2.2.2.1.2.1.2.1.2.2.2, .int .i64 x23.2.2.2.1.2.1.2.2.1, .int .i64 x23.2.2.2.1.2.1.2.2.2.1, .int .i64 x23.2.2.2.1.2.1.2.2.2.2.1, .int .i64 x23.2.2.2.1.2.1.2.2.2.2.2, (v14.2.2.2.1.2.2.1), .bool x23.2.2.2.2] := congrArg (fun q : Int × Int × (Int × (Int × (Int × (Int × Int × Int × Int) × (Int × Int × Int × Int)) × (List (Int × Int × Int))) × Bool) => ([.int .i64 q.1, .int .i64 q.2.1, .int .i64 q.2.2.1, .int .i64 q.2.2.2.1.1, .int .i64 q.2.2.2.1.2.1.1, .int .i64 q.2.2.2.1.2.1.2.1.1, .int .i64 q.2.2.2.1.2.1.2.1.2.1, .int .i64 q.2.2.2.1.2.1.2.1.2.2.1, .int .i64 q.2.2.2.1.2.1.2.1.2.2.2, .int .i64 q.2.2.2.1.2.1.2.2.1, .int .i64 q.2.2.2.1.2.1.2.2.2.1, .int .i64 q.2.2.2.1.2.1.2.2.2.2.1, .int .i64 q.2.2.2.1.2.1.2.2.2.2.2, (v14.2.2.2.1.2.2.1), .bool q.2.2.2.2] : List Value)) h15
    refine ls F W Aa (AR (r := JL) Qc F Aa Aa (An h_v1) h14).q fun a w F W => ?_
    refine ls F W Aa (Aj LS Aa Aa Aa T3 F Aa (Ei v1 + (x9).toNat * 15) Aa).q fun a w F W => ?_
    refine ls F W Aa (AD (y := Value.int .i64 x23.1) (j := 0) (i := x9) (enc := GQ) F Aa Aa (An h_v1) h14 Ll T3 (by rw [h16]; rfl)).q fun a w F W => ?_
    refine BJ tk 3 F W fun a w F W => ?_
    obtain ⟨o5, G5, K5⟩ := Af H
    refine Au (fun a w => ∃ x24 : Bool, some (x24) = some o5 ∧ Fr 170 [] [(0, v1), (1, v6), (2, .int .i64 p2), (3, .int .i64 p3), (8, .bool false), (9, .pointer (some ⟨b1, 0, none⟩)), (10, .pointer (some ⟨b2, 0, none⟩)), (11, .int .i64 x9), (12, .int .i64 0), (13, .int .i64 0), (56, .int .i64 x23.1), (57, .bool x24)] a ∧ Stw ⟨Y, [], w0⟩ (Eu b2 x10 x11 v7) [Bo v6 AK x8, row v7 76 CQ x12, Bw b1 BO 16 x13] w) ?_ ?_
    ·
     have H := G5
     clear G5 K5
     refine vc tk 6 F W fun a w F W => ?_
     refine CL F Aa (fun hb => ?_) fun hb => ?_
     ·
      have H := B4 (Cn hb) H
      rw [hb] at F
      clear hb
      refine AC (Ad ?_)
      have W := W.frontZ (i := 2) Aa Aa
      have W := W.hideF A4 h5
      have W := W.frontZ (i := 2) Aa Aa
      have W := W.hideR Hu h6
      have W := W.frontZ (i := 2) Aa Aa
      have W := W.hideP Dz h7
      have W := W.frontZ (i := 1) Aa Aa
      have W := W.frontZ (i := 2) Aa Aa
      exact ⟨_, H, F.ra Aa, W⟩
     have H := B5 (Cp hb) H
     rw [hb] at F
     clear hb
     refine vc tk 6 F W fun a w F W => ?_
     refine CL F Aa (fun hb => ?_) fun hb => ?_
     ·
      have H := B4 (Cn hb) H
      rw [hb] at F
      clear hb
      refine AC (Ad ?_)
      have W := W.frontZ (i := 2) Aa Aa
      have W := W.hideF A4 h5
      have W := W.frontZ (i := 2) Aa Aa
      have W := W.hideR Hu h6
      have W := W.frontZ (i := 2) Aa Aa
      have W := W.hideP Dz h7
      have W := W.frontZ (i := 1) Aa Aa
      have W := W.frontZ (i := 2) Aa Aa
      exact ⟨_, H, F.ra Aa, W⟩
     have H := B5 (Cp hb) H
     rw [hb] at F
     clear hb
     refine vc tk 6 F W fun a w F W => ?_
     refine CL F Aa (fun hb => ?_) fun hb => ?_
     ·
      have H := B4 (Cn hb) H
      rw [hb] at F
      clear hb
      refine AC (Ad ?_)
      have W := W.frontZ (i := 2) Aa Aa
      have W := W.hideF A4 h5
      have W := W.frontZ (i := 2) Aa Aa
      have W := W.hideR Hu h6
      have W := W.frontZ (i := 2) Aa Aa
      have W := W.hideP Dz h7
      have W := W.frontZ (i := 1) Aa Aa
      have W := W.frontZ (i := 2) Aa Aa
      exact ⟨_, H, F.ra Aa, W⟩
     have H := B5 (Cp hb) H
     rw [hb] at F
     clear hb
     refine vc tk 4 F W fun a w F W => ?_
     refine Ad ?_
     have W := W.frontZ (i := 2) Aa Aa
     have W := W.hideF A4 h5
     have W := W.frontZ (i := 2) Aa Aa
     have W := W.hideR Hu h6
     have W := W.frontZ (i := 2) Aa Aa
     have W := W.hideP Dz h7
     have W := W.frontZ (i := 1) Aa Aa
     have W := W.frontZ (i := 2) Aa Aa
     exact ⟨_, H, F.ra Aa, W⟩
    rintro a w ⟨x24, hj, F, W⟩
    have hj := Av hj
    subst hj
    have H := K5
    clear G5 K5
    refine BE F Aa H (fun F H => ?_) fun F H => ?_
    ·
     obtain ⟨v15, h17, W⟩ := W.exF A4
     have W := W.frontZ (i := 1) Aa Aa
     obtain ⟨v16, h18, W⟩ := W.exR Hu
     have W := W.frontZ (i := 2) Aa Aa
     obtain ⟨v17, h19, W⟩ := W.exP Dz
     refine DN [(true, 0), (true, 1), (true, 2), (true, 3), (true, 4), (true, 5), (true, 6), (true, 7), (true, 8), (true, 9), (true, 10), (true, 12), (true, 13), (true, 14), (true, 15), (true, 16), (true, 17), (true, 18), (true, 19), (true, 20), (true, 21), (true, 22), (false, 11), (false, 23), (false, 24), (false, 25)] (CN ⟨Y, [], w0⟩ [] []) (fun ch a d v w h => by cases d <;> exact h) MO (by kernel_rfl) W (fun w W => ⟨_, _, W, Ap, Ap⟩) fun w W => ?_
     iterate 3 refine BQ (R := []) F Aa Aa (yC fun M Z hN hZ => Am F Aa) Aa Aa fun a F => ?_
     obtain ⟨x25, h20, H⟩ := Af H
     obtain ⟨v18, h21, h22⟩ := BX h1 h20
     have h23 : GQ v18 = [.int .i64 x25.1, .int .i64 x25.2.1, .int .i64 x25.2.2.1, .int .i64 x25.2.2.2.1.1, .int .i64 x25.2.2.2.1.2.1.1, .int .i64 x25.2.2.2.1.2.1.2.1.1, .int .i64 x25.2.2.2.1.2.1.2.1.2.1, .int .i64 x25.2.2.2.1.2.1.2.1.2.2.1, .int .i64 x25.2.2.2.1.2.1.2.1.2.2.2, .int .i64 x25.2.2.2.1.2.1.2.2.1, .int .i64 x25.2.2.2.1.2.1.2.2.2.1, .int .i64 x25.2.2.2.1.2.1.2.2.2.2.1, .int .i64 x25.2.2.2.1.2.1.2.2.2.2.2, (v18.2.2.2.1.2.2.1), .bool x25.2.2.2.2] := congrArg (fun q : Int × Int × (Int × (Int × (Int × (Int × Int × Int × Int) × (Int × Int × Int × Int)) × (List (Int × Int × Int))) × Bool) => ([.int .i64 q.1, .int .i64 q.2.1, .int .i64 q.2.2.1, .int .i64 q.2.2.2.1.1, .int .i64 q.2.2.2.1.2.1.1, .int .i64 q.2.2.2.1.2.1.2.1.1, .int .i64 q.2.2.2.1.2.1.2.1.2.1, .int .i64 q.2.2.2.1.2.1.2.1.2.2.1, .int .i64 q.2.2.2.1.2.1.2.1.2.2.2, .int .i64 q.2.2.2.1.2.1.2.2.1, .int .i64 q.2.2.2.1.2.1.2.2.2.1, .int .i64 q.2.2.2.1.2.1.2.2.2.2.1, .int .i64 q.2.2.2.1.2.1.2.2.2.2.2, (v18.2.2.2.1.2.2.1), .bool q.2.2.2.2] : List Value)) h22
     refine BQ (R := []) F Aa Aa (yC fun M Z hN hZ => AR (r := JL) Qc F Aa Aa (An h_v1) h21) Aa Aa fun a F => ?_
     refine BQ (R := []) F Aa Aa (yC fun M Z hN hZ => Aj LS Aa Aa Aa T3 F Aa (Ei v1 + (x9).toNat * 15 + 1) Aa) Aa Aa fun a F => ?_
     refine BQ (R := []) F Aa Aa (yC fun M Z hN hZ => AD (y := Value.int .i64 x25.2.1) (j := 1) (i := x9) (enc := GQ) F Aa Aa (An h_v1) h21 Ll T3 (by rw [h23]; rfl)) Aa Aa fun a F => ?_
     iterate 2 refine BQ (R := []) F Aa Aa (yC fun M Z hN hZ => Am F Aa) Aa Aa fun a F => ?_
     obtain ⟨x26, h24, H⟩ := Af H
     obtain ⟨v19, h25, h26⟩ := BX h1 h24
     have h27 : GQ v19 = [.int .i64 x26.1, .int .i64 x26.2.1, .int .i64 x26.2.2.1, .int .i64 x26.2.2.2.1.1, .int .i64 x26.2.2.2.1.2.1.1, .int .i64 x26.2.2.2.1.2.1.2.1.1, .int .i64 x26.2.2.2.1.2.1.2.1.2.1, .int .i64 x26.2.2.2.1.2.1.2.1.2.2.1, .int .i64 x26.2.2.2.1.2.1.2.1.2.2.2, .int .i64 x26.2.2.2.1.2.1.2.2.1, .int .i64 x26.2.2.2.1.2.1.2.2.2.1, .int .i64 x26.2.2.2.1.2.1.2.2.2.2.1, .int .i64 x26.2.2.2.1.2.1.2.2.2.2.2, (v19.2.2.2.1.2.2.1), .bool x26.2.2.2.2] := congrArg (fun q : Int × Int × (Int × (Int × (Int × (Int × Int × Int × Int) × (Int × Int × Int × Int)) × (List (Int × Int × Int))) × Bool) => ([.int .i64 q.1, .int .i64 q.2.1, .int .i64 q.2.2.1, .int .i64 q.2.2.2.1.1, .int .i64 q.2.2.2.1.2.1.1, .int .i64 q.2.2.2.1.2.1.2.1.1, .int .i64 q.2.2.2.1.2.1.2.1.2.1, .int .i64 q.2.2.2.1.2.1.2.1.2.2.1, .int .i64 q.2.2.2.1.2.1.2.1.2.2.2, .int .i64 q.2.2.2.1.2.1.2.2.1, .int .i64 q.2.2.2.1.2.1.2.2.2.1, .int .i64 q.2.2.2.1.2.1.2.2.2.2.1, .int .i64 q.2.2.2.1.2.1.2.2.2.2.2, (v19.2.2.2.1.2.2.1), .bool q.2.2.2.2] : List Value)) h26
     refine BQ (R := []) F Aa Aa (yC fun M Z hN hZ => AR (r := JL) Qc F Aa Aa (An h_v1) h25) Aa Aa fun a F => ?_
     refine BQ (R := []) F Aa Aa (yC fun M Z hN hZ => Aj LS Aa Aa Aa Hd F Aa (Ei v1 + (x9).toNat * 15 + 2) Aa) Aa Aa fun a F => ?_
     refine BQ (R := []) F Aa Aa (yC fun M Z hN hZ => AD (y := Value.agg #[.int .i64 x26.2.2.1, .int .i64 x26.2.2.2.1.1, .int .i64 x26.2.2.2.1.2.1.1, .int .i64 x26.2.2.2.1.2.1.2.1.1, .int .i64 x26.2.2.2.1.2.1.2.1.2.1, .int .i64 x26.2.2.2.1.2.1.2.1.2.2.1, .int .i64 x26.2.2.2.1.2.1.2.1.2.2.2, .int .i64 x26.2.2.2.1.2.1.2.2.1, .int .i64 x26.2.2.2.1.2.1.2.2.2.1, .int .i64 x26.2.2.2.1.2.1.2.2.2.2.1, .int .i64 x26.2.2.2.1.2.1.2.2.2.2.2, (v19.2.2.2.1.2.2.1), .bool x26.2.2.2.2]) (j := 2) (i := x9) (enc := GQ) F Aa Aa (An h_v1) h25 Ll Hd (by rw [h27]; rfl)) Aa Aa fun a F => ?_
     iterate 3 refine BQ (R := []) F Aa Aa (yC fun M Z hN hZ => Am F Aa) Aa Aa fun a F => ?_
     obtain ⟨x27, h28, H⟩ := Af H
     obtain ⟨v20, h29, h30⟩ := BX h1 h28
     have h31 : GQ v20 = [.int .i64 x27.1, .int .i64 x27.2.1, .int .i64 x27.2.2.1, .int .i64 x27.2.2.2.1.1, .int .i64 x27.2.2.2.1.2.1.1, .int .i64 x27.2.2.2.1.2.1.2.1.1, .int .i64 x27.2.2.2.1.2.1.2.1.2.1, .int .i64 x27.2.2.2.1.2.1.2.1.2.2.1, .int .i64 x27.2.2.2.1.2.1.2.1.2.2.2, .int .i64 x27.2.2.2.1.2.1.2.2.1, .int .i64 x27.2.2.2.1.2.1.2.2.2.1, .int .i64 x27.2.2.2.1.2.1.2.2.2.2.1, .int .i64 x27.2.2.2.1.2.1.2.2.2.2.2, (v20.2.2.2.1.2.2.1), .bool x27.2.2.2.2] := congrArg (fun q : Int × Int × (Int × (Int × (Int × (Int × Int × Int × Int) × (Int × Int × Int × Int)) × (List (Int × Int × Int))) × Bool) => ([.int .i64 q.1, .int .i64 q.2.1, .int .i64 q.2.2.1, .int .i64 q.2.2.2.1.1, .int .i64 q.2.2.2.1.2.1.1, .int .i64 q.2.2.2.1.2.1.2.1.1, .int .i64 q.2.2.2.1.2.1.2.1.2.1, .int .i64 q.2.2.2.1.2.1.2.1.2.2.1, .int .i64 q.2.2.2.1.2.1.2.1.2.2.2, .int .i64 q.2.2.2.1.2.1.2.2.1, .int .i64 q.2.2.2.1.2.1.2.2.2.1, .int .i64 q.2.2.2.1.2.1.2.2.2.2.1, .int .i64 q.2.2.2.1.2.1.2.2.2.2.2, (v20.2.2.2.1.2.2.1), .bool q.2.2.2.2] : List Value)) h30
     refine BQ (R := []) F Aa Aa (yC fun M Z hN hZ => AR (r := JL) Qc F Aa Aa (An h_v1) h29) Aa Aa fun a F => ?_
     refine BQ (R := []) F Aa Aa (yC fun M Z hN hZ => Aj LS Aa Aa Aa T3 F Aa (Ei v1 + (x9).toNat * 15 + 1) Aa) Aa Aa fun a F => ?_
     refine BQ (R := []) F Aa Aa (yC fun M Z hN hZ => AD (y := Value.int .i64 x27.2.1) (j := 1) (i := x9) (enc := GQ) F Aa Aa (An h_v1) h29 Ll T3 (by rw [h31]; rfl)) Aa Aa fun a F => ?_
     iterate 2 refine BQ (R := []) F Aa Aa (yC fun M Z hN hZ => Am F Aa) Aa Aa fun a F => ?_
     obtain ⟨x28, h32, H⟩ := Af H
     obtain ⟨v21, h33, h34⟩ := BX h1 h32
     have h35 : GQ v21 = [.int .i64 x28.1, .int .i64 x28.2.1, .int .i64 x28.2.2.1, .int .i64 x28.2.2.2.1.1, .int .i64 x28.2.2.2.1.2.1.1, .int .i64 x28.2.2.2.1.2.1.2.1.1, .int .i64 x28.2.2.2.1.2.1.2.1.2.1, .int .i64 x28.2.2.2.1.2.1.2.1.2.2.1, .int .i64 x28.2.2.2.1.2.1.2.1.2.2.2, .int .i64 x28.2.2.2.1.2.1.2.2.1, .int .i64 x28.2.2.2.1.2.1.2.2.2.1, .int .i64 x28.2.2.2.1.2.1.2.2.2.2.1, .int .i64 x28.2.2.2.1.2.1.2.2.2.2.2, (v21.2.2.2.1.2.2.1), .bool x28.2.2.2.2] := congrArg (fun q : Int × Int × (Int × (Int × (Int × (Int × Int × Int × Int) × (Int × Int × Int × Int)) × (List (Int × Int × Int))) × Bool) => ([.int .i64 q.1, .int .i64 q.2.1, .int .i64 q.2.2.1, .int .i64 q.2.2.2.1.1, .int .i64 q.2.2.2.1.2.1.1, .int .i64 q.2.2.2.1.2.1.2.1.1, .int .i64 q.2.2.2.1.2.1.2.1.2.1, .int .i64 q.2.2.2.1.2.1.2.1.2.2.1, .int .i64 q.2.2.2.1.2.1.2.1.2.2.2, .int .i64 q.2.2.2.1.2.1.2.2.1, .int .i64 q.2.2.2.1.2.1.2.2.2.1, .int .i64 q.2.2.2.1.2.1.2.2.2.2.1, .int .i64 q.2.2.2.1.2.1.2.2.2.2.2, (v21.2.2.2.1.2.2.1), .bool q.2.2.2.2] : List Value)) h34
     refine BQ (R := []) F Aa Aa (yC fun M Z hN hZ => AR (r := JL) Qc F Aa Aa (An h_v1) h33) Aa Aa fun a F => ?_
     refine BQ (R := []) F Aa Aa (yC fun M Z hN hZ => Aj LS Aa Aa Aa Hd F Aa (Ei v1 + (x9).toNat * 15 + 2) Aa) Aa Aa fun a F => ?_
     refine BQ (R := []) F Aa Aa (yC fun M Z hN hZ => AD (y := Value.agg #[.int .i64 x28.2.2.1, .int .i64 x28.2.2.2.1.1, .int .i64 x28.2.2.2.1.2.1.1, .int .i64 x28.2.2.2.1.2.1.2.1.1, .int .i64 x28.2.2.2.1.2.1.2.1.2.1, .int .i64 x28.2.2.2.1.2.1.2.1.2.2.1, .int .i64 x28.2.2.2.1.2.1.2.1.2.2.2, .int .i64 x28.2.2.2.1.2.1.2.2.1, .int .i64 x28.2.2.2.1.2.1.2.2.2.1, .int .i64 x28.2.2.2.1.2.1.2.2.2.2.1, .int .i64 x28.2.2.2.1.2.1.2.2.2.2.2, (v21.2.2.2.1.2.2.1), .bool x28.2.2.2.2]) (j := 2) (i := x9) (enc := GQ) F Aa Aa (An h_v1) h33 Ll Hd (by rw [h35]; rfl)) Aa Aa fun a F => ?_
     refine CT Aa ?_
     obtain ⟨x29, h36, H⟩ := Af H
     have W := W.hideP Dz h19
     refine AA (Ml := []) (Zl := [Bw b1 BO 16 x13]) (β := Unit) (rv := fun x => .int .i64 x29.1) (MM := fun x => []) (ZZ := fun x => [Bw b1 BO 16 x29.2]) F W H8 Aa Aa (fun hL => Da _ _ w b1 ((v19.2.2.2.1.2.2.1)) x13 x25.2.1 x26.2.2 _ h36 (Sl.at_ (W.old s_v1) h25 (Ay.snd (Ay.snd (Ay.snd (Ay.fst (Ay.snd (Ay.snd Ay.here)))))) (congrArg (fun q : Int × Int × (Int × (Int × (Int × (Int × Int × Int × Int) × (Int × Int × Int × Int)) × (List (Int × Int × Int))) × Bool) => q.2.2.2.1.2.2) h26)) hL) fun x a w F W => ?_
     have W : Stw ⟨Y, [], w0⟩ (Eu b2 x10 x11 v7) [Bw b1 BO 16 x29.2, row v7 76 LZ v16, Bo v6 C4 v15] w := W
     refine A0 (N2 := []) (NZ2 := []) (N3 := []) (NZ3 := []) W Aa Aa Ap Ap ?_
     refine CT Aa ?_
     obtain ⟨x30, h37, H⟩ := Af H
     have W := W.frontZ (i := 1) Aa Aa
     have W := W.hideR Hu h18
     refine AA (Ml := (Eu b2 x10 x11 v7)) (Zl := [row v7 76 CQ x12]) (β := Value) (rv := fun x => .int .i64 x30.1) (MM := fun x => [(b2, [.int .i64 x30.2.1, .int .i64 x30.2.2.1, x])]) (ZZ := fun x => [row x 76 CQ x30.2.2.2]) F W H9 Aa Aa (fun hL => Ik _ _ w b2 (v7) ((v21.2.2.2.1.2.2.1)) (x10, x11, x12) x27.2.1 x28.2.2 _ h37 (Sl.at_ (W.old s_v1) h33 (Ay.snd (Ay.snd (Ay.snd (Ay.fst (Ay.snd (Ay.snd Ay.here)))))) (congrArg (fun q : Int × Int × (Int × (Int × (Int × (Int × Int × Int × Int) × (Int × Int × Int × Int)) × (List (Int × Int × Int))) × Bool) => q.2.2.2.1.2.2) h34)) hL) fun x a w F W => ?_
     obtain ⟨v22, rfl⟩ : ∃ y, y = x := ⟨x, rfl⟩
     have W : Stw ⟨Y, [], w0⟩ [(b2, [.int .i64 x30.2.1, .int .i64 x30.2.2.1, v22])] [row v22 76 CQ x30.2.2.2, Bw b1 BO 16 x29.2, Bo v6 C4 v15] w := W
     refine A0 (N2 := []) (NZ2 := []) (N3 := []) (NZ3 := []) W Aa Aa Ap Ap ?_
     refine CT Aa ?_
     refine ls F W Aa (BI F Aa).q fun a w F W => ?_
     refine A0 (N2 := []) (NZ2 := []) (N3 := []) (NZ3 := []) W Aa Aa Ap Ap ?_
     refine CT Aa ?_
     refine ls F W Aa (BI F Aa).q fun a w F W => ?_
     refine A0 (N2 := []) (NZ2 := []) (N3 := []) (NZ3 := []) W Aa Aa Ap Ap ?_
     refine ET (AF (Ad ?_))
     have W := W.frontZ (i := 2) Aa Aa
     have W := W.hideF A4 h17
     have W := W.frontZ (i := 2) Aa Aa
     have W := W.frontZ (i := 2) Aa Aa
     have W := W.frontZ (i := 2) Aa Aa
     exact ⟨_, _, _, _, _, _, _, (v6), (v22), H, F.ra Aa, W⟩
    refine vc tk 6 F W fun a w F W => ?_
    refine CL F Aa (fun hb => ?_) fun hb => ?_
    ·
     have H := B4 (Cn hb) H
     rw [hb] at F
     clear hb
     obtain ⟨v23, h38, W⟩ := W.exF A4
     have W := W.frontZ (i := 1) Aa Aa
     obtain ⟨v24, h39, W⟩ := W.exR Hu
     have W := W.frontZ (i := 2) Aa Aa
     obtain ⟨v25, h40, W⟩ := W.exP Dz
     refine DN [(true, 0), (true, 1), (true, 2), (true, 3), (true, 4), (true, 5), (true, 7), (true, 8), (true, 9), (true, 10), (true, 11), (true, 12), (false, 6), (false, 13), (false, 14), (false, 15)] (CN ⟨Y, [], w0⟩ [] []) (fun ch a d v w h => by cases d <;> exact h) MO (by kernel_rfl) W (fun w W => ⟨_, _, W, Ap, Ap⟩) fun w W => ?_
     iterate 3 refine BQ (R := []) F Aa Aa (yC fun M Z hN hZ => Am F Aa) Aa Aa fun a F => ?_
     obtain ⟨x31, h41, H⟩ := Af H
     obtain ⟨v26, h42, h43⟩ := BX h1 h41
     have h44 : GQ v26 = [.int .i64 x31.1, .int .i64 x31.2.1, .int .i64 x31.2.2.1, .int .i64 x31.2.2.2.1.1, .int .i64 x31.2.2.2.1.2.1.1, .int .i64 x31.2.2.2.1.2.1.2.1.1, .int .i64 x31.2.2.2.1.2.1.2.1.2.1, .int .i64 x31.2.2.2.1.2.1.2.1.2.2.1, .int .i64 x31.2.2.2.1.2.1.2.1.2.2.2, .int .i64 x31.2.2.2.1.2.1.2.2.1, .int .i64 x31.2.2.2.1.2.1.2.2.2.1, .int .i64 x31.2.2.2.1.2.1.2.2.2.2.1, .int .i64 x31.2.2.2.1.2.1.2.2.2.2.2, (v26.2.2.2.1.2.2.1), .bool x31.2.2.2.2] := congrArg (fun q : Int × Int × (Int × (Int × (Int × (Int × Int × Int × Int) × (Int × Int × Int × Int)) × (List (Int × Int × Int))) × Bool) => ([.int .i64 q.1, .int .i64 q.2.1, .int .i64 q.2.2.1, .int .i64 q.2.2.2.1.1, .int .i64 q.2.2.2.1.2.1.1, .int .i64 q.2.2.2.1.2.1.2.1.1, .int .i64 q.2.2.2.1.2.1.2.1.2.1, .int .i64 q.2.2.2.1.2.1.2.1.2.2.1, .int .i64 q.2.2.2.1.2.1.2.1.2.2.2, .int .i64 q.2.2.2.1.2.1.2.2.1, .int .i64 q.2.2.2.1.2.1.2.2.2.1, .int .i64 q.2.2.2.1.2.1.2.2.2.2.1, .int .i64 q.2.2.2.1.2.1.2.2.2.2.2, (v26.2.2.2.1.2.2.1), .bool q.2.2.2.2] : List Value)) h43
     refine BQ (R := []) F Aa Aa (yC fun M Z hN hZ => AR (r := JL) Qc F Aa Aa (An h_v1) h42) Aa Aa fun a F => ?_
     refine BQ (R := []) F Aa Aa (yC fun M Z hN hZ => Aj LS Aa Aa Aa T3 F Aa (Ei v1 + (x9).toNat * 15 + 1) Aa) Aa Aa fun a F => ?_
     refine BQ (R := []) F Aa Aa (yC fun M Z hN hZ => AD (y := Value.int .i64 x31.2.1) (j := 1) (i := x9) (enc := GQ) F Aa Aa (An h_v1) h42 Ll T3 (by rw [h44]; rfl)) Aa Aa fun a F => ?_
     iterate 3 refine BQ (R := []) F Aa Aa (yC fun M Z hN hZ => Am F Aa) Aa Aa fun a F => ?_
     obtain ⟨x32, h45, H⟩ := Af H
     obtain ⟨v27, h46, h47⟩ := BX h1 h45
     have h48 : GQ v27 = [.int .i64 x32.1, .int .i64 x32.2.1, .int .i64 x32.2.2.1, .int .i64 x32.2.2.2.1.1, .int .i64 x32.2.2.2.1.2.1.1, .int .i64 x32.2.2.2.1.2.1.2.1.1, .int .i64 x32.2.2.2.1.2.1.2.1.2.1, .int .i64 x32.2.2.2.1.2.1.2.1.2.2.1, .int .i64 x32.2.2.2.1.2.1.2.1.2.2.2, .int .i64 x32.2.2.2.1.2.1.2.2.1, .int .i64 x32.2.2.2.1.2.1.2.2.2.1, .int .i64 x32.2.2.2.1.2.1.2.2.2.2.1, .int .i64 x32.2.2.2.1.2.1.2.2.2.2.2, (v27.2.2.2.1.2.2.1), .bool x32.2.2.2.2] := congrArg (fun q : Int × Int × (Int × (Int × (Int × (Int × Int × Int × Int) × (Int × Int × Int × Int)) × (List (Int × Int × Int))) × Bool) => ([.int .i64 q.1, .int .i64 q.2.1, .int .i64 q.2.2.1, .int .i64 q.2.2.2.1.1, .int .i64 q.2.2.2.1.2.1.1, .int .i64 q.2.2.2.1.2.1.2.1.1, .int .i64 q.2.2.2.1.2.1.2.1.2.1, .int .i64 q.2.2.2.1.2.1.2.1.2.2.1, .int .i64 q.2.2.2.1.2.1.2.1.2.2.2, .int .i64 q.2.2.2.1.2.1.2.2.1, .int .i64 q.2.2.2.1.2.1.2.2.2.1, .int .i64 q.2.2.2.1.2.1.2.2.2.2.1, .int .i64 q.2.2.2.1.2.1.2.2.2.2.2, (v27.2.2.2.1.2.2.1), .bool q.2.2.2.2] : List Value)) h47
     refine BQ (R := []) F Aa Aa (yC fun M Z hN hZ => AR (r := JL) Qc F Aa Aa (An h_v1) h46) Aa Aa fun a F => ?_
     refine BQ (R := []) F Aa Aa (yC fun M Z hN hZ => Aj LS Aa Aa Aa T3 F Aa (Ei v1 + (x9).toNat * 15 + 1) Aa) Aa Aa fun a F => ?_
     refine BQ (R := []) F Aa Aa (yC fun M Z hN hZ => AD (y := Value.int .i64 x32.2.1) (j := 1) (i := x9) (enc := GQ) F Aa Aa (An h_v1) h46 Ll T3 (by rw [h48]; rfl)) Aa Aa fun a F => ?_
     refine CT Aa ?_
     obtain ⟨x33, h49, H⟩ := Af H
     have W := W.hideP Dz h40
     refine AA (Ml := []) (Zl := [Bw b1 BO 16 x13]) (β := Unit) (rv := fun x => .int .i64 x33.1) (MM := fun x => []) (ZZ := fun x => [Bw b1 BO 16 x33.2]) F W Sw Aa Aa (fun hL => EK _ _ w b1 x13 x31.2.1 _ h49 hL) fun x a w F W => ?_
     have W : Stw ⟨Y, [], w0⟩ (Eu b2 x10 x11 v7) [Bw b1 BO 16 x33.2, row v7 76 LZ v24, Bo v6 C4 v23] w := W
     refine A0 (N2 := []) (NZ2 := []) (N3 := []) (NZ3 := []) W Aa Aa Ap Ap ?_
     refine CT Aa ?_
     obtain ⟨x34, h50, H⟩ := Af H
     have W := W.frontZ (i := 1) Aa Aa
     have W := W.hideR Hu h39
     refine AA (Ml := (Eu b2 x10 x11 v7)) (Zl := [row v7 76 CQ x12]) (β := Value) (rv := fun x => .int .i64 x34.1) (MM := fun x => [(b2, [.int .i64 x34.2.1, .int .i64 x34.2.2.1, x])]) (ZZ := fun x => [row x 76 CQ x34.2.2.2]) F W Tg Aa Aa (fun hL => Hs _ _ w b2 (v7) (x10, x11, x12) x32.2.1 _ h50 hL) fun x a w F W => ?_
     obtain ⟨v28, rfl⟩ : ∃ y, y = x := ⟨x, rfl⟩
     have W : Stw ⟨Y, [], w0⟩ [(b2, [.int .i64 x34.2.1, .int .i64 x34.2.2.1, v28])] [row v28 76 CQ x34.2.2.2, Bw b1 BO 16 x33.2, Bo v6 C4 v23] w := W
     refine A0 (N2 := []) (NZ2 := []) (N3 := []) (NZ3 := []) W Aa Aa Ap Ap ?_
     refine CT Aa ?_
     refine ls F W Aa (BI F Aa).q fun a w F W => ?_
     refine A0 (N2 := []) (NZ2 := []) (N3 := []) (NZ3 := []) W Aa Aa Ap Ap ?_
     refine CT Aa ?_
     refine ls F W Aa (BI F Aa).q fun a w F W => ?_
     refine A0 (N2 := []) (NZ2 := []) (N3 := []) (NZ3 := []) W Aa Aa Ap Ap ?_
     refine ET (AF (Ad ?_))
     have W := W.frontZ (i := 2) Aa Aa
     have W := W.hideF A4 h38
     have W := W.frontZ (i := 2) Aa Aa
     have W := W.frontZ (i := 2) Aa Aa
     have W := W.frontZ (i := 2) Aa Aa
     exact ⟨_, _, _, _, _, _, _, (v6), (v28), H, F.ra Aa, W⟩
    have H := B5 (Cp hb) H
    rw [hb] at F
    clear hb
    refine vc tk 6 F W fun a w F W => ?_
    refine CL F Aa (fun hb => ?_) fun hb => ?_
    ·
     have H := B4 (Cn hb) H
     rw [hb] at F
     clear hb
     refine vc tk 5 F W fun a w F W => ?_
     obtain ⟨x35, h51, H⟩ := Af H
     have W := W.frontZ (i := 2) Aa Aa
     refine AA (Ml := []) (Zl := [Bw b1 BO 16 x13]) (β := Unit) (rv := fun x => .int .i64 x35) (MM := fun x => []) (ZZ := fun x => [Bw b1 BO 16 x13]) F W S9 Aa Aa (fun hL => GD _ _ w b1 (v6) x13 x8 p2 p3 _ h51 (W.item (i := 1) Aa) hL) fun x a w F W => ?_
     have W : Stw ⟨Y, [], w0⟩ (Eu b2 x10 x11 v7) [Bw b1 BO 16 x13, Bo v6 AK x8, row v7 76 CQ x12] w := W
     refine vl tk 4 F W fun a w F W => ?_
     obtain ⟨x36, h52, H⟩ := Af H
     have W := W.frontZ (i := 2) Aa Aa
     refine AA (Ml := (Eu b2 x10 x11 v7)) (Zl := [row v7 76 CQ x12]) (β := Unit) (rv := fun x => .int .i64 x36) (MM := fun x => [(b2, [.int .i64 ((x10, x11, x12).1), .int .i64 ((x10, x11, x12).2.1), v7])]) (ZZ := fun x => [row v7 76 CQ ((x10, x11, x12).2.2)]) F W Su Aa Aa (fun hL => FH _ _ w b2 (v7) (v6) (x10, x11, x12) x8 p2 p3 _ h52 (W.item (i := 2) Aa) hL) fun x a w F W => ?_
     have W : Stw ⟨Y, [], w0⟩ [(b2, [.int .i64 ((x10, x11, x12).1), .int .i64 ((x10, x11, x12).2.1), v7])] [row v7 76 CQ ((x10, x11, x12).2.2), Bw b1 BO 16 x13, Bo v6 AK x8] w := W
     refine vl tk 3 F W fun a w F W => ?_
     refine AF (Ad ?_)
     have W := W.frontZ (i := 1) Aa Aa
     have W := W.frontZ (i := 1) Aa Aa
     have W := W.frontZ (i := 2) Aa Aa
     exact ⟨_, _, _, _, _, _, _, (v6), (v7), H, F.ra Aa, W⟩
    have H := B5 (Cp hb) H
    rw [hb] at F
    clear hb
    refine vc tk 6 F W fun a w F W => ?_
    refine CL F Aa (fun hb => ?_) fun hb => ?_
    ·
     have H := B4 (Cn hb) H
     rw [hb] at F
     clear hb
     refine vc tk 6 F W fun a w F W => ?_
     obtain ⟨x37, h53, H⟩ := Af H
     have W := W.frontZ (i := 2) Aa Aa
     refine AA (Ml := []) (Zl := [Bw b1 BO 16 x13]) (β := Value) (rv := fun x => .tuple #[x, .int .i64 x37.2.1]) (MM := fun x => []) (ZZ := fun x => [Bw b1 BO 16 x37.2.2, Bo x AK x37.1]) F W Tm Aa Aa (fun hL => Gn _ _ w b1 (v6) x13 x8 p2 p3 _ h53 (W.item (i := 1) Aa) hL) fun x a w F W => ?_
     obtain ⟨v29, rfl⟩ : ∃ y, y = x := ⟨x, rfl⟩
     have W : Stw ⟨Y, [], w0⟩ (Eu b2 x10 x11 v7) [Bw b1 BO 16 x37.2.2, Bo v29 AK x37.1, Bo v6 AK x8, row v7 76 CQ x12] w := W
     refine ls F W Aa (Am F Aa).q fun a w F W => ?_
     refine ls F W Aa (AN (v := v29) F Aa Aa).q fun a w F W => ?_
     refine ls F W Aa (AN (v := Value.int .i64 x37.2.1) F Aa Aa).q fun a w F W => ?_
     refine BJ tk 10 F W fun a w F W => ?_
     obtain ⟨x38, h54, H⟩ := Af H
     have W := W.frontZ (i := 3) Aa Aa
     refine AA (Ml := (Eu b2 x10 x11 v7)) (Zl := [row v7 76 CQ x12]) (β := Value × Value) (rv := fun x => .tuple #[x.1, .int .i64 x38.2.1]) (MM := fun x => [(b2, [.int .i64 x38.2.2.1, .int .i64 x38.2.2.2.1, x.2])]) (ZZ := fun x => [row x.2 76 CQ x38.2.2.2.2, Bo x.1 AK x38.1]) F W Tr Aa Aa (fun hL => Hf _ _ w b2 (v7) (v6) (x10, x11, x12) x8 p2 p3 _ h54 (W.item (i := 3) Aa) hL) fun x a w F W => ?_
     obtain ⟨v30, v31⟩ := x
     have W : Stw ⟨Y, [], w0⟩ [(b2, [.int .i64 x38.2.2.1, .int .i64 x38.2.2.2.1, v31])] [row v31 76 CQ x38.2.2.2.2, Bo v30 AK x38.1, Bw b1 BO 16 x37.2.2, Bo v29 AK x37.1, Bo v6 AK x8] w := W
     refine ls F W Aa (Am F Aa).q fun a w F W => ?_
     refine ls F W Aa (AN (v := v30) F Aa Aa).q fun a w F W => ?_
     refine ls F W Aa (AN (v := Value.int .i64 x38.2.1) F Aa Aa).q fun a w F W => ?_
     refine BJ tk 9 F W fun a w F W => ?_
     obtain ⟨x39, h55, H⟩ := Af H
     refine ls F W Aa (AM (v := Value.bool x39) F TN Aa (fun w W => KQ any w (v29) (v30) x37.1 x38.1 _ h55 (Dc (D4 3 Aa) W) (Dc (D4 1 Aa) W))) fun a w F W => ?_
     refine BJ tk 3 F W fun a w F W => ?_
     refine BE F Aa H (fun F H => ?_) fun F H => ?_
     ·
      refine vc tk 5 F W fun a w F W => ?_
      refine Al (Aq (Az (Aq (Az ?_))))
      iterate 2 refine Aq ?_
      refine Az (Aq ?_)
      have H := L4 _ H
      have H := L3 _ H
      have H := L2 _ H
      have H := Av H
      subst H
      refine Aw (.inl Aa) F W Aa (Ai F Aa) ?_
      exact ⟨rfl, W.done⟩
     refine D6 tk 14 F W fun a w F W => ?_
     refine AF (Ad ?_)
     have W := W.frontZ (i := 2) Aa Aa
     have W := W.frontZ (i := 1) Aa Aa
     have W := W.frontZ (i := 2) Aa Aa
     have W := W.sub (M' := [(b2, [.int .i64 x38.2.2.1, .int .i64 x38.2.2.2.1, v31])]) (Z' := [Bo v30 AK x38.1, row v31 76 CQ x38.2.2.2.2, Bw b1 BO 16 x37.2.2]) (List.Sublist.refl _) (List.Sublist.cons_cons _ (List.Sublist.cons_cons _ (List.Sublist.cons_cons _ (List.nil_sublist _))))
     exact ⟨_, _, _, _, _, _, _, (v30), (v31), H, F.ra Aa, W⟩
    have H := B5 (Cp hb) H
    rw [hb] at F
    clear hb
    refine vc tk 6 F W fun a w F W => ?_
    refine CL F Aa (fun hb => ?_) fun hb => ?_
    ·
     have H := B4 (Cn hb) H
     rw [hb] at F
     clear hb
     refine vc tk 3 F W fun a w F W => ?_
     have W := W.frontZ (i := 2) Aa Aa
     refine AA (Ml := []) (Zl := [Bw b1 BO 16 x13]) (β := Unit) (rv := fun x => .tuple #[]) (MM := fun x => []) (ZZ := fun x => [Bw b1 BO 16 (Bb x13)]) F W SE Aa Aa (fun hL => Ed _ _ w b1 x13 _ Aa hL) fun x a w F W => ?_
     have W : Stw ⟨Y, [], w0⟩ (Eu b2 x10 x11 v7) [Bw b1 BO 16 (Bb x13), Bo v6 AK x8, row v7 76 CQ x12] w := W
     refine BJ tk 5 F W fun a w F W => ?_
     refine ls F W Aa (AW F Aa).q fun a w F W => ?_
     refine ls F W Aa (Aj JB Aa Aa Aa T3 F Aa 0 Aa).q fun a w F W => ?_
     refine Dh 0 F W Aa Aa Aa T3 Aa Aa Aa fun w W => ?_
     refine BJ tk 4 F W fun a w F W => ?_
     refine ls F W Aa (AW F Aa).q fun a w F W => ?_
     refine ls F W Aa (Aj JB Aa Aa Aa PX F Aa 2 Aa).q fun a w F W => ?_
     refine Dh 0 F W Aa Aa Aa PX Aa Aa Aa fun w W => ?_
     refine Er (AF (Ad ?_))
     have W := W.nilRow 76 CQ
     have W := W.frontZ (i := 1) Aa Aa
     have W := W.frontZ (i := 1) Aa Aa
     have W := W.frontZ (i := 2) Aa Aa
     have W := W.sub (M' := [(b2, [.int .i64 2, .int .i64 x11, .slice none 0 0])]) (Z' := [Bo v6 AK x8, row (Value.slice none 0 0) 76 CQ ([]), Bw b1 BO 16 (Bb x13)]) (List.Sublist.refl _) (List.Sublist.cons_cons _ (List.Sublist.cons_cons _ (List.Sublist.cons_cons _ (List.nil_sublist _))))
     exact ⟨_, _, _, _, _, _, _, (v6), (Value.slice none 0 0), H, F.ra Aa, W⟩
    have H := B5 (Cp hb) H
    rw [hb] at F
    clear hb
    refine AC (AF (Ad ?_))
    have W := W.frontZ (i := 2) Aa Aa
    have W := W.frontZ (i := 2) Aa Aa
    have W := W.frontZ (i := 2) Aa Aa
    exact ⟨_, _, _, _, _, _, _, (v6), (v7), H, F.ra Aa, W⟩
   rintro a w ⟨x16, x17, x18, x19, x20, x21, x22, v12, v13, hj, F, W⟩
   have H := K4 _ hj
   clear hj G4 K4 L4
   obtain ⟨o6, G6, K6⟩ := Af H
   refine Au (fun a w => ∃ x40 : Bool, ∃ x41 : Int, ∃ x42 : Int, ∃ x43 : List (Int × (Int × (Int × (Int × (Int × Int × Int × Int) × (Int × Int × Int × Int)) × (List (Int × Int × Int))) × Bool)), some ((x40, x41, x42, x43)) = some o6 ∧ Fr 170 [] [(0, v1), (1, v12), (2, .int .i64 p2), (3, .int .i64 p3), (8, .bool false), (9, .pointer (some ⟨b1, 0, none⟩)), (10, .pointer (some ⟨b2, 0, none⟩)), (11, .int .i64 x9), (168, .bool x40)] a ∧ Stw ⟨Y, [], w0⟩ (Eu b2 x41 x42 v13) [Bo v12 AK x16, row v13 76 CQ x43, Bw b1 BO 16 x22] w) ?_ ?_
   ·
    have H := G6
    clear G6 K6
    refine DN [(true, 0), (true, 1), (true, 2), (true, 3), (true, 4), (true, 6), (true, 7), (true, 8), (true, 9), (false, 5), (true, 10), (true, 11), (true, 12), (true, 13), (true, 15), (false, 14), (false, 16), (false, 17), (true, 18), (true, 19)] (CN ⟨Y, [], w0⟩ [(some 14, b2, [.int .i64 x19, .int .i64 x20, v13])] []) (fun ch a d v w h => by cases d <;> exact h) MO (by kernel_rfl) W (fun w W => ⟨_, _, W, (all_cons (fun _ => (.head _)) Ap), Ap⟩) fun w W => ?_
    iterate 2 refine BQ (R := []) F Aa Aa (yC fun M Z hN hZ => Am F Aa) Aa Aa fun a F => ?_
    refine BQ (R := []) F Aa Aa (yC fun M Z hN hZ => Kb F Aa Aa) Aa Aa fun a F => ?_
    refine BQ (R := []) F Aa Aa (yC fun M Z hN hZ => Am F Aa) Aa Aa fun a F => ?_
    rcases Bool.eq_false_or_eq_true (decide (x17 ≠ x18)) with hb | hb
    ·
     have H := B4 (Cn hb) H
     rw [hb] at F
     clear hb
     iterate 5 refine GY F Aa (AB F Aa Aa Aa Aa Aa) Aa Aa Aa fun a F => ?_
     refine CT Aa ?_
     refine QQ F Aa Aa Aa Aa Aa Aa Aa fun a F => ?_
     refine A0 (N2 := []) (NZ2 := []) (N3 := [(some 14, b2, [.int .i64 x19, .int .i64 x20, v13])]) (NZ3 := []) W Aa Aa (all_cons (fun _ => (.head _)) Ap) Ap ?_
     refine GY F Aa (AB F Aa Aa Aa Aa Aa) Aa Aa Aa fun a F => ?_
     refine BQ (R := []) F Aa Aa (yC fun M Z hN hZ => BH F Aa Aa Aa) Aa Aa fun a F => ?_
     refine BQ (R := []) F Aa Aa (yC fun M Z hN hZ => Am F Aa) Aa Aa fun a F => ?_
     iterate 2 refine GY F Aa (AB F Aa Aa Aa Aa Aa) Aa Aa Aa fun a F => ?_
     refine CT Aa ?_
     refine QQ F Aa Aa Aa Aa Aa Aa Aa fun a F => ?_
     refine A0 (N2 := []) (NZ2 := []) (N3 := [(some 14, b2, [.int .i64 x19, .int .i64 x20, v13])]) (NZ3 := []) W Aa Aa (all_cons (fun h => AE (by kernel_rfl) h) Ap) Ap ?_
     refine CT Aa ?_
     refine QQ F Aa Aa Aa Aa Aa Aa Aa fun a F => ?_
     refine A0 (N2 := []) (NZ2 := []) (N3 := [(some 14, b2, [.int .i64 x19, .int .i64 x20, v13])]) (NZ3 := []) W Aa Aa (all_cons (fun h => AE (by kernel_rfl) h) Ap) Ap ?_
     refine CT Aa ?_
     refine QQ F Aa Aa Aa Aa Aa Aa Aa fun a F => ?_
     refine A0 (N2 := []) (NZ2 := []) (N3 := [(some 14, b2, [.int .i64 x19, .int .i64 x20, v13])]) (NZ3 := []) W Aa Aa (all_cons (fun h => AE (by kernel_rfl) h) Ap) Ap ?_
     refine GY F Aa (AB F Aa Aa Aa Aa Aa) Aa Aa Aa fun a F => ?_
     refine BQ (R := []) F Aa Aa (yC fun M Z hN hZ => BH F Aa Aa Aa) Aa Aa fun a F => ?_
     refine ET (Ad ?_)
     have W := W.frontZ (i := 2) Aa Aa
     have W := W.frontZ (i := 2) Aa Aa
     have W := W.frontZ (i := 2) Aa Aa
     exact ⟨_, _, _, _, H, F.ra Aa, W⟩
    have H := B5 (Cp hb) H
    rw [hb] at F
    clear hb
    iterate 2 refine LU (R := []) F Aa (Ae F Aa Aa Aa Aa) Aa Aa (yC fun M Z hN hZ => Am F Aa) Aa Aa fun a F => ?_
    refine LU (R := []) F Aa (Ae F Aa Aa Aa Aa) Aa Aa (yC fun M Z hN hZ => AW F Aa) Aa Aa fun a F => ?_
    refine LU (R := []) F Aa (Ae F Aa Aa Aa Aa) Aa Aa (yC fun M Z hN hZ => Aj JB Aa Aa Aa T3 F Aa 0 Aa) Aa Aa fun a F => ?_
    refine LU (R := [14, 12, 11, 10]) F Aa (Ae F Aa Aa Aa Aa) Aa Aa (yC fun M Z hN hZ => De (cs := [.int .i64 x19, .int .i64 x20, v13]) (v := Value.int .i64 x19) F Aa (hN ((some 14), b2, [.int .i64 x19, .int .i64 x20, v13]) (.head _) Aa) T3 Aa) (by kernel_rfl) Aa fun a F => ?_
    refine CT Aa ?_
    refine F2 (Ae F Aa Aa Aa Aa) ?_
    have W := W.frontZ (i := 2) Aa Aa
    refine AA (Ml := []) (Zl := [Bw b1 BO 16 x22]) (β := Unit) (rv := fun x => .int .i64 (Ao x22)) (MM := fun x => []) (ZZ := fun x => [Bw b1 BO 16 x22]) F W P9 Aa Aa (fun hL => BM _ _ w b1 x22 _ Aa hL) fun x a w F W => ?_
    have W : Stw ⟨Y, [], w0⟩ (Eu b2 x19 x20 v13) [Bw b1 BO 16 x22, Bo v12 AK x16, row v13 76 CQ x21] w := W
    refine A0 (N2 := []) (NZ2 := []) (N3 := [(some 14, b2, [.int .i64 x19, .int .i64 x20, v13])]) (NZ3 := []) W Aa Aa (all_cons (fun _ => (.head _)) Ap) Ap ?_
    refine LU (R := []) F Aa (Ae F Aa Aa Aa Aa) Aa Aa (yC fun M Z hN hZ => Kb F Aa Aa) Aa Aa fun a F => ?_
    refine BQ (R := []) F Aa Aa (yC fun M Z hN hZ => AO F Aa Aa Aa) Aa Aa fun a F => ?_
    refine BQ (R := []) F Aa Aa (yC fun M Z hN hZ => Am F Aa) Aa Aa fun a F => ?_
    rcases Bool.eq_false_or_eq_true (decide ((Ao x22) ≠ x19)) with hb | hb
    ·
     have H := B4 (Cn hb) H
     rw [hb] at F
     clear hb
     iterate 2 refine GY F Aa (AB F Aa Aa Aa Aa Aa) Aa Aa Aa fun a F => ?_
     refine CT Aa ?_
     refine QQ F Aa Aa Aa Aa Aa Aa Aa fun a F => ?_
     refine A0 (N2 := []) (NZ2 := []) (N3 := [(some 14, b2, [.int .i64 x19, .int .i64 x20, v13])]) (NZ3 := []) W Aa Aa (all_cons (fun h => AE (by kernel_rfl) h) Ap) Ap ?_
     refine CT Aa ?_
     refine QQ F Aa Aa Aa Aa Aa Aa Aa fun a F => ?_
     refine A0 (N2 := []) (NZ2 := []) (N3 := [(some 14, b2, [.int .i64 x19, .int .i64 x20, v13])]) (NZ3 := []) W Aa Aa (all_cons (fun h => AE (by kernel_rfl) h) Ap) Ap ?_
     refine CT Aa ?_
     refine QQ F Aa Aa Aa Aa Aa Aa Aa fun a F => ?_
     refine A0 (N2 := []) (NZ2 := []) (N3 := [(some 14, b2, [.int .i64 x19, .int .i64 x20, v13])]) (NZ3 := []) W Aa Aa (all_cons (fun h => AE (by kernel_rfl) h) Ap) Ap ?_
     refine GY F Aa (AB F Aa Aa Aa Aa Aa) Aa Aa Aa fun a F => ?_
     refine BQ (R := []) F Aa Aa (yC fun M Z hN hZ => BH F Aa Aa Aa) Aa Aa fun a F => ?_
     refine ET (Ad ?_)
     have W := W.frontZ (i := 2) Aa Aa
     have W := W.frontZ (i := 2) Aa Aa
     exact ⟨_, _, _, _, H, F.ra Aa, W⟩
    have H := B5 (Cp hb) H
    rw [hb] at F
    clear hb
    iterate 2 refine LU (R := []) F Aa (Ae F Aa Aa Aa Aa) Aa Aa (yC fun M Z hN hZ => Am F Aa) Aa Aa fun a F => ?_
    refine CT Aa ?_
    refine F2 (Ae F Aa Aa Aa Aa) ?_
    obtain ⟨x44, h56, H⟩ := Af H
    refine AA (Ml := []) (Zl := [Bw b1 BO 16 x22]) (β := Value) (rv := fun x => x) (MM := fun x => []) (ZZ := fun x => [Bw b1 BO 16 x22, row x 39 EQ x44]) F W Si Aa Aa (fun hL => DK _ _ w b1 x22 _ h56 hL) fun x a w F W => ?_
    obtain ⟨v32, rfl⟩ : ∃ y, y = x := ⟨x, rfl⟩
    have W : Stw ⟨Y, [], w0⟩ (Eu b2 x19 x20 v13) [Bw b1 BO 16 x22, row v32 39 EQ x44, Bo v12 AK x16, row v13 76 CQ x21] w := W
    refine A0 (N2 := []) (NZ2 := []) (N3 := [(some 14, b2, [.int .i64 x19, .int .i64 x20, v13])]) (NZ3 := []) W Aa Aa (all_cons (fun h => AE (by kernel_rfl) h) Ap) Ap ?_
    refine CT Aa ?_
    refine F2 (Ae F Aa Aa Aa Aa) ?_
    obtain ⟨x45, h57, H⟩ := Af H
    have W := W.frontZ (i := 3) Aa Aa
    refine AA (Ml := (Eu b2 x19 x20 v13)) (Zl := [row v13 76 CQ x21]) (β := Value) (rv := fun x => x) (MM := fun x => [(b2, [.int .i64 ((x19, x20, x21).1), .int .i64 ((x19, x20, x21).2.1), v13])]) (ZZ := fun x => [row v13 76 CQ ((x19, x20, x21).2.2), row x 39 EQ x45]) F W Sn Aa Aa (fun hL => Ep _ _ w b2 (v13) (x19, x20, x21) _ h57 hL) fun x a w F W => ?_
    obtain ⟨v33, rfl⟩ : ∃ y, y = x := ⟨x, rfl⟩
    have W : Stw ⟨Y, [], w0⟩ [(b2, [.int .i64 ((x19, x20, x21).1), .int .i64 ((x19, x20, x21).2.1), v13])] [row v13 76 CQ ((x19, x20, x21).2.2), row v33 39 EQ x45, Bw b1 BO 16 x22, row v32 39 EQ x44, Bo v12 AK x16] w := W
    refine A0 (N2 := []) (NZ2 := []) (N3 := [(some 14, b2, [.int .i64 x19, .int .i64 x20, v13])]) (NZ3 := []) W Aa Aa (all_cons (fun h => AE (by kernel_rfl) h) Ap) Ap ?_
    refine CT Aa ?_
    refine F2 (Ae F Aa Aa Aa Aa) ?_
    obtain ⟨x46, h58, H⟩ := Af H
    refine ls F W Aa (AM (v := Value.bool x46) F To Aa (fun w W => Mi any w (v32) (v33) x44 x45 _ h58 (Dc (AU 3 Aa) W) (Dc (AU 1 Aa) W))) fun a w F W => ?_
    refine A0 (N2 := []) (NZ2 := []) (N3 := [(some 14, b2, [.int .i64 x19, .int .i64 x20, v13])]) (NZ3 := []) W Aa Aa (all_cons (fun h => AE (by kernel_rfl) h) Ap) Ap ?_
    refine LU (R := []) F Aa (Ae F Aa Aa Aa Aa) Aa Aa (yC fun M Z hN hZ => J6 F Aa) Aa Aa fun a F => ?_
    refine BQ (R := []) F Aa Aa (yC fun M Z hN hZ => AO F Aa Aa Aa) Aa Aa fun a F => ?_
    refine ET (Ad ?_)
    have W := W.frontZ (i := 2) Aa Aa
    have W := W.frontZ (i := 1) Aa Aa
    have W := W.frontZ (i := 4) Aa Aa
    have W := W.sub (M' := [(b2, [.int .i64 ((x19, x20, x21).1), .int .i64 ((x19, x20, x21).2.1), v13])]) (Z' := [Bo v12 AK x16, row v13 76 CQ ((x19, x20, x21).2.2), Bw b1 BO 16 x22]) (List.Sublist.refl _) (List.Sublist.cons_cons _ (List.Sublist.cons_cons _ (List.Sublist.cons_cons _ (List.nil_sublist _))))
    exact ⟨_, _, _, _, H, F.ra Aa, W⟩
   rintro a w ⟨x40, x41, x42, x43, hj, F, W⟩
   have hj := Av hj
   subst hj
   have H := K6
   clear G6 K6
   refine BE F Aa H (fun F H => ?_) fun F H => ?_
   ·
    refine vc tk 5 F W fun a w F W => ?_
    refine Al (Az ?_)
    iterate 2 refine Aq ?_
    refine Az (Aq ?_)
    have H := L3 _ H
    have H := L2 _ H
    have H := Av H
    subst H
    refine Aw (.inl Aa) F W Aa (Ai F Aa) ?_
    exact ⟨rfl, W.done⟩
   refine AC (AF ?_)
   refine vn tk 5 F W fun a w F W => ?_
   refine Ad ?_
   have W := W.frontZ (i := 2) Aa Aa
   have W := W.frontZ (i := 2) Aa Aa
   have W := W.frontZ (i := 2) Aa Aa
   exact ⟨_, H, (v12), (v13), F.ra Aa, W⟩
  refine Bm ?_
  iterate 2 refine BU ?_
  refine Bp (Ad ?_)
  have W := W.frontZ (i := 2) Aa Aa
  have W := W.frontZ (i := 2) Aa Aa
  have W := W.sub (M' := (Eu b2 x10 x11 v7)) (Z' := [row v7 76 CQ x12, Bw b1 BO 16 x13]) (List.Sublist.refl _) (List.Sublist.cons_cons _ (List.Sublist.cons_cons _ (List.nil_sublist _)))
  have H := L3 _ H
  exact ⟨_, _, _, _, (v7), H, F.ra Aa, W⟩
 rintro a w ⟨x4, x5, x6, x7, v5, hj, F, W⟩
 have H := K2 _ hj
 clear hj G2 K2 L2
 refine vc tk 2 F W fun a w F W => ?_
 obtain ⟨x47, h59, H⟩ := Af H
 refine ls F W Aa (AM (v := Value.bool x47) F H6 Aa (fun w W => GT any w _ h59)) fun a w F W => ?_
 refine BJ tk 3 F W fun a w F W => ?_
 refine Al ?_
 have H := Av H
 subst H
 refine Aw (.inl Aa) F W Aa (Ai F Aa) ?_
 exact ⟨rfl, W.done⟩
end Go.Proofs.Ytfnmlmglmegamaa
