/- The functions of layer 27, Ix. Conditions: none. -/
import Derived.Test.YtpckgggmgijiiaaGreatDoorbA4
namespace Go.Proofs.YtpckgggmgijiiaaGreatDoor
open Go Go.RowKit
set_option linter.unusedVariables false
set_option linter.unusedSimpArgs false
set_option maxRecDepth 20000
theorem Xk : Has Tryz.prog 118 := CJ Tryz.func118
theorem X6 : Has Tryz.prog 90 := CJ Tryz.func90
noncomputable def Ci (fRec : Int → Tr34 → Int → Option (Bool × Int)) (p1 : Tr34) (p2 : Int) : (Int × Int) → Option ((Int × Int) ⊕ (Int ⊕ (Bool × Int)))
  | (x4, x5) => (if x4 < (p1.un.2.2.2.length : Int) then (ix p1.un.2.2.2 x4).bind fun x6 => (fRec x5 x6 (AO (p2 - 1))).bind fun x7 => (if (!x7.1) = true then some (.inr (.inr (false, x7.2))) else some (.inl (AO (x4 + 1), x7.2))) else some (.inr (.inl x5)))
noncomputable def CA (fRec : Int → Tr34 → Int → Option (Bool × Int)) (p0 : Int) (p1 : Tr34) (p2 : Int) : Option (Bool × Int) := (if (AO (p0 - 1)) < 0 then some true else (if p2 < 1 then some true else (I3 p1).bind fun x2 => some (!x2))).bind fun x1 => (if x1 = true then some (false, AO (p0 - 1)) else Ko (AW (Ci fRec p1 p2) (0, AO (p0 - 1))) fun x3 => some (true, x3))
noncomputable def CQ : Nat → Int → Tr34 → Int → Option (Bool × Int)
  | 0 => fun _ _ _ => none
  | n + 1 => CA (CQ n)
noncomputable def Gh (p0 : Int) (p1 : Tr34) (p2 : Int) : Option (Bool × Int) := GL fun n => CQ n p0 p1 p2
theorem Jp (fRec : Int → Tr34 → Int → Option (Bool × Int)) (ih : ∀ (Y : Nat → Prop) (X : List Nat) (w0 : World) (q_p0 : Nat) (v1 : Value) (p0 : Int) (p1 : Tr34) (p2 : Int) (r : Bool × Int) (H : fRec p0 p1 p2 = some r) (h_v1 : Sl w0 (NX X) CC v1 p1.un.2.2.2) (hL : Stw ⟨Y, X, w0⟩ [(q_p0, [.int .i64 p0])] [] w0), Calls Tryz.prog 90 #[.pointer (some ⟨q_p0, 0, none⟩), .agg #[.int .i64 p1.un.1, .int .i64 p1.un.2.1, .int .i64 p1.un.2.2.1, v1], .int .i64 p2] w0 fun e w' => ∃ x : Unit, e = .returned (.bool r.1) ∧ Stw ⟨Y, X, w0⟩ [(q_p0, [.int .i64 r.2])] [] w') (Y : Nat → Prop) (X : List Nat) (w0 : World) (q_p0 : Nat) (v1 : Value) (p0 : Int) (p1 : Tr34) (p2 : Int) (r : Bool × Int) (H : CA fRec p0 p1 p2 = some r) (h_v1 : Sl w0 (NX X) CC v1 p1.un.2.2.2) (hL : Stw ⟨Y, X, w0⟩ [(q_p0, [.int .i64 p0])] [] w0) :
    Calls Tryz.prog 90 #[.pointer (some ⟨q_p0, 0, none⟩), .agg #[.int .i64 p1.un.1, .int .i64 p1.un.2.1, .int .i64 p1.un.2.2.1, v1], .int .i64 p2] w0 fun e w' => ∃ x : Unit, e = .returned (.bool r.1) ∧ Stw ⟨Y, X, w0⟩ [(q_p0, [.int .i64 r.2])] [] w' := by
 refine enter Tryz.func90 Aa Tryz.ntmps90 Aa fun a W => ?_
 have F := hL
 obtain ⟨v2, h1, h_v1⟩ := h_v1.ex CG
 unfold CA at H
 refine vc tk 2 W F fun a w W F => ?_
 refine CY (cs := (Im p1 v1)) W F Aa Aa Aa fun b1 a w W F => ?_
 refine Cl tk 6 W F fun a w W F => ?_
 refine ls W F Aa (Cu W Aa).q fun a w W F => ?_
 refine GD tk 3 [1] W F (ai fun a w W F => ?_)
 refine ls W F Aa (Cu W Aa).q fun a w W F => ?_
 refine ls W F Aa (Ap UL Aa Aa Aa T3 W Aa 0 Aa).q fun a w W F => ?_
 refine Ed 1 W F Aa Aa Aa T3 Aa Aa Aa fun w F => ?_
 refine Cl tk 3 W F fun a w W F => ?_
 obtain ⟨o1, G1, K1⟩ := Ad H
 refine Ax (fun a w => ∃ x1 : Bool, some (x1) = some o1 ∧ Fr 44 [] [(0, .pointer (some ⟨q_p0, 0, none⟩)), (2, .int .i64 p2), (4, .pointer (some ⟨b1, 0, none⟩)), (6, .bool false), (29, .bool x1)] a ∧ Stw ⟨Y, X, w0⟩ [(b1, (Im p1 v1)), (q_p0, [.int .i64 (AO (p0 - 1))])] [] w) ?_ ?_
 ·
  have H := G1
  clear G1 K1
  refine vc tk 2 W F fun a w W F => ?_
  refine ls W F Aa (Cu W Aa).q fun a w W F => ?_
  refine GD tk 4 [1] W F (ai fun a w W F => ?_)
  rcases Bool.eq_false_or_eq_true (decide ((AO (p0 - 1)) < 0)) with hb | hb
  ·
   have H := B8 (CI hb) H
   rw [hb] at W
   clear hb
   refine vl tk 9 W F fun a w W F => ?_
   refine Ac ?_
   have F := F.frontM (i := 1) Aa Aa
   have F := F.frontM (i := 1) Aa Aa
   exact ⟨_, H, W.ra Aa, F⟩
  have H := B7 (CH hb) H
  rw [hb] at W
  clear hb
  refine vl tk 4 W F fun a w W F => ?_
  rcases Bool.eq_false_or_eq_true (decide (p2 < 1)) with hb | hb
  ·
   have H := B8 (CI hb) H
   rw [hb] at W
   clear hb
   refine vl tk 5 W F fun a w W F => ?_
   refine Ac ?_
   have F := F.frontM (i := 1) Aa Aa
   have F := F.frontM (i := 1) Aa Aa
   exact ⟨_, H, W.ra Aa, F⟩
  have H := B7 (CH hb) H
  rw [hb] at W
  clear hb
  refine GQ W F (Ab W Aa Aa Aa Aa) Aa (Ao Aa) (Bw (v := Value.agg #[.int .i64 p1.un.1, .int .i64 p1.un.2.1, .int .i64 p1.un.2.2.1, v1]) 0 W Aa Aa L6 Aa).q fun a w W F => ?_
  refine HB (Ab W Aa Aa Aa Aa) ?_
  obtain ⟨x2, h2, H⟩ := Ad H
  refine ls W F Aa (AK (v := Value.bool x2) W Xk Aa (fun w F => QI any w (v1) p1 _ h2 (Ek (Aq CG h1 (Af h_v1)) F))) fun a w W F => ?_
  refine vl tk 3 W F fun a w W F => ?_
  refine Ac ?_
  have F := F.frontM (i := 1) Aa Aa
  have F := F.frontM (i := 1) Aa Aa
  exact ⟨_, H, W.ra Aa, F⟩
 rintro a w ⟨x1, hj, W, F⟩
 have hj := AA hj
 subst hj
 have H := K1
 clear G1 K1
 refine Cz W Aa H (fun W H => ?_) fun W H => ?_
 ·
  refine vc tk 5 W F fun a w W F => ?_
  refine Ak (Ay ?_)
  have H := AA H
  subst H
  refine Au (.inl Aa) W F Aa (Am W Aa) ?_
  have F := F.frontM (i := 1) Aa Aa
  have F := F.sub (M' := [(q_p0, [.int .i64 (AO (p0 - 1))])]) (Z' := []) (List.Sublist.cons_cons _ (List.nil_sublist _)) (List.Sublist.refl _)
  exact ⟨(), Aa, F⟩
 refine AX (Ac ?_)
 obtain ⟨o2, G2, K2, L2⟩ := QS H
 refine Ax (fun a w => ∃ x3 : Int, some (Sum.inl x3) = some o2 ∧ Fr 44 [] [(6, .bool false)] a ∧ Stw ⟨Y, X, w0⟩ [(b1, [.int .i64 p1.un.1, .int .i64 p1.un.2.1, .int .i64 p1.un.2.2.1, v1]), (q_p0, [.int .i64 x3])] [] w) ?_ ?_
 ·
  have H := G2
  clear G2 K2
  refine Fo tk 4 [0] W F (ai fun a w W F => ?_)
  refine ls W F Aa (CS (r := CC) (l := p1.un.2.2.2) Kv Aa W Aa (Aq CG h1 (Af h_v1))).q fun a w W F => ?_
  refine Cl tk 4 W F fun a w W F => ?_
  have F := F.frontM (i := 1) Aa Aa
  have F := F.frontM (i := 1) Aa Aa
  refine BF H (fun s a w => Fr 44 [] [(0, .pointer (some ⟨q_p0, 0, none⟩)), (2, .int .i64 p2), (6, .bool false), (31, v1), (32, .int .i64 (p1.un.2.2.2.length : Int)), (33, .int .i64 s.1)] a ∧ Stw ⟨Y, X, w0⟩ [(b1, (Im p1 v1)), (q_p0, [.int .i64 s.2])] [] w) ⟨W.ra Aa, F⟩ fun s o a w H L3 hR => ?_
  obtain ⟨x4, x5⟩ := s
  obtain ⟨W, F⟩ := hR
  have W : Fr 44 [] [(0, .pointer (some ⟨q_p0, 0, none⟩)), (2, .int .i64 p2), (6, .bool false), (31, v1), (32, .int .i64 (p1.un.2.2.2.length : Int)), (33, .int .i64 x4)] a := W
  have F : Stw ⟨Y, X, w0⟩ [(b1, [.int .i64 p1.un.1, .int .i64 p1.un.2.1, .int .i64 p1.un.2.2.1, v1]), (q_p0, [.int .i64 x5])] [] w := F
  rw [Ci] at H
  refine vc tk 6 W F fun a w W F => ?_
  refine BJ W Aa H (fun W H => ?_) fun W H => ?_
  ·
   refine FL tk 6 W F fun a w W F => ?_
   obtain ⟨x6, h3, H⟩ := Ad H
   obtain ⟨v3, h4, h5⟩ := DM h1 h3
   have h6 : Jd v3 = [.int .i64 x6.un.1, .int .i64 x6.un.2.1, .int .i64 x6.un.2.2.1, (v3.2.2.2.1)] := congrArg (fun q : Tr34 => ([.int .i64 q.un.1, .int .i64 q.un.2.1, .int .i64 q.un.2.2.1, (v3.2.2.2.1)] : List Value)) h5
   refine ls W F Aa (Av (r := Kb) TL W Aa Aa (Af h_v1) h4).q fun a w W F => ?_
   refine ls W F Aa (Al (y := Value.agg #[.int .i64 x6.un.1, .int .i64 x6.un.2.1, .int .i64 x6.un.2.2.1, (v3.2.2.2.1)]) (j := 0) (i := x4) (enc := Jd) W Aa Aa (Af h_v1) h4 P5 L6 (by rw [h6]; rfl)).q fun a w W F => ?_
   refine B9 (cs := (LM)) W F Aa U5 Aa fun b2 a w W F => ?_
   refine Ed 0 W F Aa Aa Aa L6 Aa Aa (Ae Aa (Ae Aa (Ae Aa (Ae ((BE (Af h_v1) h4 (Ai.snd (Ai.snd (Ai.snd Ai.here))) (congrArg (fun q : Tr34 => q.un.2.2.2) h5)) _ F).one Df)))) fun w F => ?_
   refine FC tk 8 [0] W F (ai fun a w W F => ?_)
   obtain ⟨x7, h7, H⟩ := Ad H
   have F := F.frontM (i := 2) Aa Aa
   refine Bv (Ml := [(q_p0, [.int .i64 x5])]) (Zl := []) (β := Unit) (rv := fun x => .bool x7.1) (MM := fun x => [(q_p0, [.int .i64 x7.2])]) (ZZ := fun x => []) W F X6 Aa Aa (fun hL => ih _ _ w q_p0 ((v3.2.2.2.1)) x5 x6 (AO (p2 - 1)) _ h7 (Sl.at_ (F.roX h_v1 (fun g hg => Fx hg)) h4 (Ai.snd (Ai.snd (Ai.snd Ai.here))) (congrArg (fun q : Tr34 => q.un.2.2.2) h5)) hL) fun x a w W F => ?_
   have F : Stw ⟨Y, X, w0⟩ [(q_p0, [.int .i64 x7.2]), (b2, [.int .i64 x6.un.1, .int .i64 x6.un.2.1, .int .i64 x6.un.2.2.1, (v3.2.2.2.1)]), (b1, (Im p1 v1))] [] w := F
   refine Cl tk 3 W F fun a w W F => ?_
   refine Cz W Aa H (fun W H => ?_) fun W H => ?_
   ·
    refine vc tk 5 W F fun a w W F => ?_
    refine Ak (AD ?_)
    iterate 2 refine Ay ?_
    refine AD (Ay ?_)
    have H := L3 _ H
    have H := L2 _ H
    have H := AA H
    subst H
    refine Au (.inl Aa) W F Aa (Am W Aa) ?_
    have F := F.sub (M' := [(q_p0, [.int .i64 x7.2])]) (Z' := []) (List.Sublist.cons_cons _ (List.nil_sublist _)) (List.Sublist.refl _)
    exact ⟨(), Aa, F⟩
   refine AX (AG ?_)
   refine vn tk 4 W F fun a w W F => ?_
   refine Ac ?_
   have F := F.frontM (i := 2) Aa Aa
   have F := F.sub (M' := [(b1, [.int .i64 p1.un.1, .int .i64 p1.un.2.1, .int .i64 p1.un.2.2.1, v1]), (q_p0, [.int .i64 x7.2])]) (Z' := []) (List.Sublist.cons_cons _ (List.Sublist.cons_cons _ (List.nil_sublist _))) (List.Sublist.refl _)
   exact ⟨_, H, W.ra Aa, F⟩
  refine Bu ?_
  iterate 2 refine BL ?_
  refine Bp (Ac ?_)
  have F := F.frontM (i := 1) Aa Aa
  have F := F.frontM (i := 1) Aa Aa
  have H := L3 _ H
  exact ⟨_, H, W.ra Aa, F⟩
 rintro a w ⟨x3, hj, W, F⟩
 have H := K2 _ hj
 clear hj G2 K2 L2
 refine vc tk 5 W F fun a w W F => ?_
 refine Ak ?_
 have H := AA H
 subst H
 refine Au (.inl Aa) W F Aa (Am W Aa) ?_
 have F := F.frontM (i := 1) Aa Aa
 have F := F.sub (M' := [(q_p0, [.int .i64 x3])]) (Z' := []) (List.Sublist.cons_cons _ (List.nil_sublist _)) (List.Sublist.refl _)
 exact ⟨(), Aa, F⟩
theorem Jv : ∀ (n : Nat) (Y : Nat → Prop) (X : List Nat) (w0 : World) (q_p0 : Nat) (v1 : Value) (p0 : Int) (p1 : Tr34) (p2 : Int) (r : Bool × Int) (H : CQ n p0 p1 p2 = some r) (h_v1 : Sl w0 (NX X) CC v1 p1.un.2.2.2) (hL : Stw ⟨Y, X, w0⟩ [(q_p0, [.int .i64 p0])] [] w0), Calls Tryz.prog 90 #[.pointer (some ⟨q_p0, 0, none⟩), .agg #[.int .i64 p1.un.1, .int .i64 p1.un.2.1, .int .i64 p1.un.2.2.1, v1], .int .i64 p2] w0 fun e w' => ∃ x : Unit, e = .returned (.bool r.1) ∧ Stw ⟨Y, X, w0⟩ [(q_p0, [.int .i64 r.2])] [] w' := by
  intro n
  induction n with
  | zero => intro Y X w0 q_p0 v1 p0 p1 p2 r H; exact nomatch H
  | succ n ih => intro Y X w0 q_p0 v1 p0 p1 p2 r H h_v1 hL; exact Jp (CQ n) ih Y X w0 q_p0 v1 p0 p1 p2 r H h_v1 hL
theorem J9 (Y : Nat → Prop) (X : List Nat) (w0 : World) (q_p0 : Nat) (v1 : Value) (p0 : Int) (p1 : Tr34) (p2 : Int) (r : Bool × Int) (H : Gh p0 p1 p2 = some r) (h_v1 : Sl w0 (NX X) CC v1 p1.un.2.2.2) (hL : Stw ⟨Y, X, w0⟩ [(q_p0, [.int .i64 p0])] [] w0) :
    Calls Tryz.prog 90 #[.pointer (some ⟨q_p0, 0, none⟩), .agg #[.int .i64 p1.un.1, .int .i64 p1.un.2.1, .int .i64 p1.un.2.2.1, v1], .int .i64 p2] w0 fun e w' => ∃ x : Unit, e = .returned (.bool r.1) ∧ Stw ⟨Y, X, w0⟩ [(q_p0, [.int .i64 r.2])] [] w' := by
  obtain ⟨n, H⟩ := CR H
  exact Jv n Y X w0 q_p0 v1 p0 p1 p2 r H h_v1 hL
noncomputable def HW (p0 : Tr34) : Option Bool := (Gh 64 p0 8).bind fun x1 => some x1.1
theorem PE (Y : Nat → Prop) (w0 : World) (v1 : Value) (p0 : Tr34) (r : Bool) (H : HW p0 = some r) (h_v1 : Sl w0 (NX []) CC v1 p0.un.2.2.2) :
    Calls Tryz.prog 66 #[.agg #[.int .i64 p0.un.1, .int .i64 p0.un.2.1, .int .i64 p0.un.2.2.1, v1]] w0 fun e w' => e = .returned (.bool r) ∧ Below w0.heap.size w0 w' := by
 refine enter Tryz.func66 Aa Tryz.ntmps66 Aa fun a W => ?_
 have F := Stw.start Y w0
 obtain ⟨v2, h1, h_v1⟩ := h_v1.ex CG
 unfold HW at H
 refine vc tk 2 W F fun a w W F => ?_
 refine CY (cs := (Im p0 v1)) W F Aa Aa Aa fun b1 a w W F => ?_
 refine Cl tk 5 W F fun a w W F => ?_
 refine ls W F Aa (CB (v := Value.agg #[.int .i64 64]) Xf W Aa Aa Aa).q fun a w W F => ?_
 refine B9 (cs := [.int .i64 0]) W F Aa Xg Aa fun b2 a w W F => ?_
 refine Ed 0 W F Aa Aa Aa Xz Aa Aa Aa fun w F => ?_
 refine FC tk 5 [1] W F (ai fun a w W F => ?_)
 obtain ⟨x1, h2, H⟩ := Ad H
 refine Bv (Ml := [(b2, [.int .i64 64])]) (Zl := []) (β := Unit) (rv := fun x => .bool x1.1) (MM := fun x => [(b2, [.int .i64 x1.2])]) (ZZ := fun x => []) W F X6 Aa Aa (fun hL => J9 _ _ w b2 (v1) 64 p0 8 _ h2 (Sl.hide CG h1 (F.roX h_v1 (fun g hg => Fx hg))) hL) fun x a w W F => ?_
 have F : Stw ⟨Y, [], w0⟩ [(b2, [.int .i64 x1.2]), (b1, [.int .i64 p0.un.1, .int .i64 p0.un.2.1, .int .i64 p0.un.2.2.1, v1])] [] w := F
 refine Cl tk 3 W F fun a w W F => ?_
 refine Ak ?_
 have H := AA H
 subst H
 refine Au (.inl Aa) W F Aa (Am W Aa) ?_
 exact ⟨rfl, F.done⟩
theorem YZ : Has Tryz.prog 66 := CJ Tryz.func66
theorem Yr : Has Tryz.prog 34 := CJ Tryz.func34
noncomputable def DT (fRec : Tr34 → Option Int) (p0 : Tr34) : (Int × Int) → Option ((Int × Int) ⊕ Int)
  | (x2, x3) => (if x3 < (p0.un.2.2.2.length : Int) then (ix p0.un.2.2.2 x3).bind fun x4 => (fRec x4).bind fun x5 => some (.inl (AO (x2 + x5), AO (x3 + 1))) else some (.inr x2))
noncomputable def En (fRec : Tr34 → Option Int) (p0 : Tr34) : Option Int := (AW (DT fRec p0) (1, 0)).bind fun x1 => some x1
noncomputable def E1 : Nat → Tr34 → Option Int
  | 0 => fun _ => none
  | n + 1 => En (E1 n)
noncomputable def Mo (p0 : Tr34) : Option Int := GL fun n => E1 n p0
theorem OO (fRec : Tr34 → Option Int) (ih : ∀ (Y : Nat → Prop) (w0 : World) (v1 : Value) (p0 : Tr34) (r : Int) (H : fRec p0 = some r) (h_v1 : Sl w0 (NX []) CC v1 p0.un.2.2.2), Calls Tryz.prog 34 #[.agg #[.int .i64 p0.un.1, .int .i64 p0.un.2.1, .int .i64 p0.un.2.2.1, v1]] w0 fun e w' => e = .returned (.int .i64 r) ∧ Below w0.heap.size w0 w') (Y : Nat → Prop) (w0 : World) (v1 : Value) (p0 : Tr34) (r : Int) (H : En fRec p0 = some r) (h_v1 : Sl w0 (NX []) CC v1 p0.un.2.2.2) :
    Calls Tryz.prog 34 #[.agg #[.int .i64 p0.un.1, .int .i64 p0.un.2.1, .int .i64 p0.un.2.2.1, v1]] w0 fun e w' => e = .returned (.int .i64 r) ∧ Below w0.heap.size w0 w' := by
 refine enter Tryz.func34 Aa Tryz.ntmps34 Aa fun a W => ?_
 have F := Stw.start Y w0
 obtain ⟨v2, h1, h_v1⟩ := h_v1.ex CG
 unfold En at H
 refine vc tk 2 W F fun a w W F => ?_
 refine CY (cs := (Im p0 v1)) W F Aa Aa Aa fun b1 a w W F => ?_
 refine Cl tk 8 W F fun a w W F => ?_
 obtain ⟨o1, G1, K1⟩ := Ad H
 refine Ax (fun a w => ∃ x1 : Int, some (x1) = some o1 ∧ Fr 19 [] [(2, .int .i64 0), (3, .int .i64 x1)] a ∧ Stw ⟨Y, [], w0⟩ (Ls b1 p0 v1) [] w) ?_ ?_
 ·
  have H := G1
  clear G1 K1
  refine Fo tk 4 [0] W F (ai fun a w W F => ?_)
  refine ls W F Aa (CS (r := CC) (l := p0.un.2.2.2) Kv Aa W Aa (Aq CG h1 (Af h_v1))).q fun a w W F => ?_
  refine Cl tk 4 W F fun a w W F => ?_
  refine BF H (fun s a w => Fr 19 [] [(2, .int .i64 0), (3, .int .i64 s.1), (7, v1), (8, .int .i64 (p0.un.2.2.2.length : Int)), (9, .int .i64 s.2)] a ∧ Stw ⟨Y, [], w0⟩ (Ls b1 p0 v1) [] w) ⟨W.ra Aa, F⟩ fun s o a w H L2 hR => ?_
  obtain ⟨x2, x3⟩ := s
  obtain ⟨W, F⟩ := hR
  have W : Fr 19 [] [(2, .int .i64 0), (3, .int .i64 x2), (7, v1), (8, .int .i64 (p0.un.2.2.2.length : Int)), (9, .int .i64 x3)] a := W
  have F : Stw ⟨Y, [], w0⟩ (Ls b1 p0 v1) [] w := F
  rw [DT] at H
  refine vc tk 6 W F fun a w W F => ?_
  refine BJ W Aa H (fun W H => ?_) fun W H => ?_
  ·
   refine FL tk 6 W F fun a w W F => ?_
   obtain ⟨x4, h2, H⟩ := Ad H
   obtain ⟨v3, h3, h4⟩ := DM h1 h2
   have h5 : Jd v3 = [.int .i64 x4.un.1, .int .i64 x4.un.2.1, .int .i64 x4.un.2.2.1, (v3.2.2.2.1)] := congrArg (fun q : Tr34 => ([.int .i64 q.un.1, .int .i64 q.un.2.1, .int .i64 q.un.2.2.1, (v3.2.2.2.1)] : List Value)) h4
   refine ls W F Aa (Av (r := Kb) TL W Aa Aa (Af h_v1) h3).q fun a w W F => ?_
   refine ls W F Aa (Al (y := Value.agg #[.int .i64 x4.un.1, .int .i64 x4.un.2.1, .int .i64 x4.un.2.2.1, (v3.2.2.2.1)]) (j := 0) (i := x3) (enc := Jd) W Aa Aa (Af h_v1) h3 P5 L6 (by rw [h5]; rfl)).q fun a w W F => ?_
   refine B9 (cs := (LM)) W F Aa U5 Aa fun b2 a w W F => ?_
   refine Ed 0 W F Aa Aa Aa L6 Aa Aa (Ae Aa (Ae Aa (Ae Aa (Ae ((BE (Af h_v1) h3 (Ai.snd (Ai.snd (Ai.snd Ai.here))) (congrArg (fun q : Tr34 => q.un.2.2.2) h4)) _ F).one Df)))) fun w F => ?_
   refine FC tk 5 [0] W F (ai fun a w W F => ?_)
   obtain ⟨x5, h6, H⟩ := Ad H
   refine ls W F Aa (AK (v := Value.int .i64 x5) W Yr Aa (fun w F => ih any w ((v3.2.2.2.1)) x4 _ h6 (Ek (BE (Af h_v1) h3 (Ai.snd (Ai.snd (Ai.snd Ai.here))) (congrArg (fun q : Tr34 => q.un.2.2.2) h4)) F))) fun a w W F => ?_
   refine vl tk 3 W F fun a w W F => ?_
   refine AG ?_
   refine vn tk 4 W F fun a w W F => ?_
   refine Ac ?_
   have F := F.frontM (i := 1) Aa Aa
   have F := F.sub (M' := (Ls b1 p0 v1)) (Z' := []) (List.Sublist.cons_cons _ (List.nil_sublist _)) (List.Sublist.refl _)
   exact ⟨_, H, W.ra Aa, F⟩
  refine Bu ?_
  iterate 2 refine BL ?_
  refine Bp (Ac ?_)
  have H := L2 _ H
  exact ⟨_, H, W.ra Aa, F⟩
 rintro a w ⟨x1, hj, W, F⟩
 have hj := AA hj
 subst hj
 have H := K1
 clear G1 K1
 refine vc tk 6 W F fun a w W F => ?_
 refine Ak ?_
 have H := AA H
 subst H
 refine Au (.inl Aa) W F Aa (Am W Aa) ?_
 exact ⟨rfl, F.done⟩
theorem Pz : ∀ (n : Nat) (Y : Nat → Prop) (w0 : World) (v1 : Value) (p0 : Tr34) (r : Int) (H : E1 n p0 = some r) (h_v1 : Sl w0 (NX []) CC v1 p0.un.2.2.2), Calls Tryz.prog 34 #[.agg #[.int .i64 p0.un.1, .int .i64 p0.un.2.1, .int .i64 p0.un.2.2.1, v1]] w0 fun e w' => e = .returned (.int .i64 r) ∧ Below w0.heap.size w0 w' := by
  intro n
  induction n with
  | zero => intro Y w0 v1 p0 r H; exact nomatch H
  | succ n ih => intro Y w0 v1 p0 r H h_v1; exact OO (E1 n) ih Y w0 v1 p0 r H h_v1
theorem Qo (Y : Nat → Prop) (w0 : World) (v1 : Value) (p0 : Tr34) (r : Int) (H : Mo p0 = some r) (h_v1 : Sl w0 (NX []) CC v1 p0.un.2.2.2) :
    Calls Tryz.prog 34 #[.agg #[.int .i64 p0.un.1, .int .i64 p0.un.2.1, .int .i64 p0.un.2.2.1, v1]] w0 fun e w' => e = .returned (.int .i64 r) ∧ Below w0.heap.size w0 w' := by
  obtain ⟨n, H⟩ := CR H
  exact Pz n Y w0 v1 p0 r H h_v1
theorem Yl : Has Tryz.prog 31 := CJ Tryz.func31
abbrev Sd (a0 : Nat) (a1 : Tr37) (a2 : Value) (a3 : Value) (a4 : Nat) (a5 : Int) : List (Nat × List Value) := [(a0, [.int .i64 a1.un.1, .int .i64 a1.un.2.1.un.1, .int .i64 a1.un.2.1.un.2.1, .int .i64 a1.un.2.1.un.2.2.1, a2, .int .i64 a1.un.2.2.1, .int .i64 a1.un.2.2.2.1, a3]), (a4, [.int .i64 a5])]
noncomputable def B1 (fRec : Int → Tr37 → Int → Option (Bool × Int)) (p1 : Tr37) (p2 : Int) : (Int × Int) → Option ((Int × Int) ⊕ (Int ⊕ (Bool × Int)))
  | (x7, x8) => (if x7 < (p1.un.2.2.2.2.length : Int) then (ix p1.un.2.2.2.2 x7).bind fun x9 => (fRec x8 (Tr37.of (x9.un.1, Tr34.of (x9.un.2.1.un.1, x9.un.2.1.un.2.1, x9.un.2.1.un.2.2.1, x9.un.2.1.un.2.2.2), x9.un.2.2.1, x9.un.2.2.2.1, x9.un.2.2.2.2)) (AO (p2 - 1))).bind fun x10 => (if (!x10.1) = true then some (.inr (.inr (false, x10.2))) else some (.inl (AO (x7 + 1), x10.2))) else some (.inr (.inl x8)))
noncomputable def Ck (fRec : Int → Tr37 → Int → Option (Bool × Int)) (p0 : Int) (p1 : Tr37) (p2 : Int) : Option (Bool × Int) := (if p0 < 1 then some true else (if p2 < 1 then some true else (Hf (Tr37.of (p1.un.1, Tr34.of (p1.un.2.1.un.1, p1.un.2.1.un.2.1, p1.un.2.1.un.2.2.1, p1.un.2.1.un.2.2.2), p1.un.2.2.1, p1.un.2.2.2.1, p1.un.2.2.2.2))).bind fun x2 => some (!x2))).bind fun x1 => (if x1 = true then some (false, p0) else Ko (if (decide (p1.un.1 = 1) || decide (p1.un.1 = 5)) = true then (HW (Tr34.of (p1.un.2.1.un.1, p1.un.2.1.un.2.1, p1.un.2.1.un.2.2.1, p1.un.2.1.un.2.2.2))).bind fun x4 => (if (!x4) = true then some (.inr (false, AO (p0 - 1))) else (Mo (Tr34.of (p1.un.2.1.un.1, p1.un.2.1.un.2.1, p1.un.2.1.un.2.2.1, p1.un.2.1.un.2.2.2))).bind fun x5 => some (.inl (AO ((AO (p0 - 1)) - x5)))) else some (.inl (AO (p0 - 1)))) fun x3 => Ko (AW (B1 fRec p1 p2) (0, x3)) fun x6 => some (decide (0 ≤ x6), x6))
noncomputable def Cq : Nat → Int → Tr37 → Int → Option (Bool × Int)
  | 0 => fun _ _ _ => none
  | n + 1 => Ck (Cq n)
noncomputable def FH (p0 : Int) (p1 : Tr37) (p2 : Int) : Option (Bool × Int) := GL fun n => Cq n p0 p1 p2
theorem IC (fRec : Int → Tr37 → Int → Option (Bool × Int)) (ih : ∀ (Y : Nat → Prop) (X : List Nat) (w0 : World) (q_p0 : Nat) (v1 : Value) (v2 : Value) (p0 : Int) (p1 : Tr37) (p2 : Int) (r : Bool × Int) (H : fRec p0 p1 p2 = some r) (h_v1 : Sl w0 (NX X) CC v1 p1.un.2.1.un.2.2.2) (h_v2 : Sl w0 (NX X) De v2 p1.un.2.2.2.2) (hL : Stw ⟨Y, X, w0⟩ [(q_p0, [.int .i64 p0])] [] w0), Calls Tryz.prog 31 #[.pointer (some ⟨q_p0, 0, none⟩), .agg #[.int .i64 p1.un.1, .int .i64 p1.un.2.1.un.1, .int .i64 p1.un.2.1.un.2.1, .int .i64 p1.un.2.1.un.2.2.1, v1, .int .i64 p1.un.2.2.1, .int .i64 p1.un.2.2.2.1, v2], .int .i64 p2] w0 fun e w' => ∃ x : Unit, e = .returned (.bool r.1) ∧ Stw ⟨Y, X, w0⟩ [(q_p0, [.int .i64 r.2])] [] w') (Y : Nat → Prop) (X : List Nat) (w0 : World) (q_p0 : Nat) (v1 : Value) (v2 : Value) (p0 : Int) (p1 : Tr37) (p2 : Int) (r : Bool × Int) (H : Ck fRec p0 p1 p2 = some r) (h_v1 : Sl w0 (NX X) CC v1 p1.un.2.1.un.2.2.2) (h_v2 : Sl w0 (NX X) De v2 p1.un.2.2.2.2) (hL : Stw ⟨Y, X, w0⟩ [(q_p0, [.int .i64 p0])] [] w0) :
    Calls Tryz.prog 31 #[.pointer (some ⟨q_p0, 0, none⟩), .agg #[.int .i64 p1.un.1, .int .i64 p1.un.2.1.un.1, .int .i64 p1.un.2.1.un.2.1, .int .i64 p1.un.2.1.un.2.2.1, v1, .int .i64 p1.un.2.2.1, .int .i64 p1.un.2.2.2.1, v2], .int .i64 p2] w0 fun e w' => ∃ x : Unit, e = .returned (.bool r.1) ∧ Stw ⟨Y, X, w0⟩ [(q_p0, [.int .i64 r.2])] [] w' := by
 refine enter Tryz.func31 Aa Tryz.ntmps31 Aa fun a W => ?_
 have F := hL
 obtain ⟨v3, h1, h_v1⟩ := h_v1.ex CG
 obtain ⟨v4, h2, h_v2⟩ := h_v2.ex EE
 unfold Ck at H
 refine vc tk 2 W F fun a w W F => ?_
 refine CY (cs := (CX p1 v1 v2)) W F Aa Aa Aa fun b1 a w W F => ?_
 refine Cl tk 4 W F fun a w W F => ?_
 obtain ⟨o1, G1, K1⟩ := Ad H
 refine Ax (fun a w => ∃ x1 : Bool, some (x1) = some o1 ∧ Fr 71 [] [(0, .pointer (some ⟨q_p0, 0, none⟩)), (2, .int .i64 p2), (4, .pointer (some ⟨b1, 0, none⟩)), (6, .bool false), (22, .bool x1)] a ∧ Stw ⟨Y, X, w0⟩ (Sd b1 p1 v1 v2 q_p0 p0) [] w) ?_ ?_
 ·
  have H := G1
  clear G1 K1
  refine vc tk 2 W F fun a w W F => ?_
  refine ls W F Aa (Cu W Aa).q fun a w W F => ?_
  refine GD tk 4 [1] W F (ai fun a w W F => ?_)
  rcases Bool.eq_false_or_eq_true (decide (p0 < 1)) with hb | hb
  ·
   have H := B8 (CI hb) H
   rw [hb] at W
   clear hb
   refine vl tk 9 W F fun a w W F => ?_
   refine Ac ?_
   have F := F.frontM (i := 1) Aa Aa
   have F := F.frontM (i := 1) Aa Aa
   exact ⟨_, H, W.ra Aa, F⟩
  have H := B7 (CH hb) H
  rw [hb] at W
  clear hb
  refine vl tk 4 W F fun a w W F => ?_
  rcases Bool.eq_false_or_eq_true (decide (p2 < 1)) with hb | hb
  ·
   have H := B8 (CI hb) H
   rw [hb] at W
   clear hb
   refine vl tk 5 W F fun a w W F => ?_
   refine Ac ?_
   have F := F.frontM (i := 1) Aa Aa
   have F := F.frontM (i := 1) Aa Aa
   exact ⟨_, H, W.ra Aa, F⟩
  have H := B7 (CH hb) H
  rw [hb] at W
  clear hb
  refine GQ W F (Ab W Aa Aa Aa Aa) Aa (Ao Aa) (Bw (v := Value.agg #[.int .i64 p1.un.1, .int .i64 p1.un.2.1.un.1, .int .i64 p1.un.2.1.un.2.1, .int .i64 p1.un.2.1.un.2.2.1, v1, .int .i64 p1.un.2.2.1, .int .i64 p1.un.2.2.2.1, v2]) 0 W Aa Aa II Aa).q fun a w W F => ?_
  refine HB (Ab W Aa Aa Aa Aa) ?_
  obtain ⟨x2, h3, H⟩ := Ad H
  refine ls W F Aa (AK (v := Value.bool x2) W YM Aa (fun w F => O4 any w (v1) (v2) (Tr37.of (p1.un.1, Tr34.of (p1.un.2.1.un.1, p1.un.2.1.un.2.1, p1.un.2.1.un.2.2.1, p1.un.2.1.un.2.2.2), p1.un.2.2.1, p1.un.2.2.2.1, p1.un.2.2.2.2)) _ h3 (Ek (Aq CG h1 (Af h_v1)) F) (Ek (Aq EE h2 (Af h_v2)) F))) fun a w W F => ?_
  refine vl tk 3 W F fun a w W F => ?_
  refine Ac ?_
  have F := F.frontM (i := 1) Aa Aa
  have F := F.frontM (i := 1) Aa Aa
  exact ⟨_, H, W.ra Aa, F⟩
 rintro a w ⟨x1, hj, W, F⟩
 have hj := AA hj
 subst hj
 have H := K1
 clear G1 K1
 refine Cz W Aa H (fun W H => ?_) fun W H => ?_
 ·
  refine vc tk 5 W F fun a w W F => ?_
  refine Ak (Ay ?_)
  have H := AA H
  subst H
  refine Au (.inl Aa) W F Aa (Am W Aa) ?_
  have F := F.frontM (i := 1) Aa Aa
  have F := F.sub (M' := [(q_p0, [.int .i64 p0])]) (Z' := []) (List.Sublist.cons_cons _ (List.nil_sublist _)) (List.Sublist.refl _)
  exact ⟨(), Aa, F⟩
 refine FL tk 5 W F fun a w W F => ?_
 refine ls W F Aa (Cu W Aa).q fun a w W F => ?_
 refine GD tk 3 [1] W F (ai fun a w W F => ?_)
 refine ls W F Aa (Cu W Aa).q fun a w W F => ?_
 refine ls W F Aa (Ap Ug Aa Aa Aa T3 W Aa 0 Aa).q fun a w W F => ?_
 refine Ed 1 W F Aa Aa Aa T3 Aa Aa Aa fun w F => ?_
 refine Ew (Ac ?_)
 obtain ⟨o2, G2, K2, L2⟩ := QS H
 refine Ax (fun a w => ∃ x3 : Int, some (Sum.inl x3) = some o2 ∧ Fr 71 [] [(0, .pointer (some ⟨q_p0, 0, none⟩)), (2, .int .i64 p2), (4, .pointer (some ⟨b1, 0, none⟩)), (6, .bool false)] a ∧ Stw ⟨Y, X, w0⟩ (Sd b1 p1 v1 v2 q_p0 x3) [] w) ?_ ?_
 ·
  have H := G2
  clear G2 K2
  refine Ax (fun a w => Fr 71 [] [(0, .pointer (some ⟨q_p0, 0, none⟩)), (2, .int .i64 p2), (4, .pointer (some ⟨b1, 0, none⟩)), (6, .bool false), (37, .bool (decide (p1.un.1 = 1) || decide (p1.un.1 = 5)))] a ∧ Stw ⟨Y, X, w0⟩ [(b1, (CX p1 v1 v2)), (q_p0, [.int .i64 (AO (p0 - 1))])] [] w) ?_ ?_
  ·
   refine Fo tk 5 [0] W F (ai fun a w W F => ?_)
   rcases Bool.eq_false_or_eq_true (decide (p1.un.1 = 1)) with hb0 | hb0
   ·
    rw [hb0] at W
    refine vl tk 5 W F fun a w W F => ?_
    refine Ac ?_
    exact ⟨W.re ⟨rfl, Aa, Aa, Aa, (DH (by try rw [hb0]; all_goals simp only [DI])), trivial⟩, F⟩
   rw [hb0] at W
   refine GD tk 5 [0] W F (ai fun a w W F => ?_)
   refine Ac ?_
   exact ⟨W.re ⟨rfl, Aa, Aa, Aa, (DH (by try rw [hb0]; all_goals simp only [DI])), trivial⟩, F⟩
  rintro a w ⟨W, F⟩
  refine Cz W Aa H (fun W H => ?_) fun W H => ?_
  ·
   refine Fo tk 5 [0] W F (ai fun a w W F => ?_)
   obtain ⟨x4, h4, H⟩ := Ad H
   refine ls W F Aa (AK (v := Value.bool x4) W YZ Aa (fun w F => PE any w (v1) (Tr34.of (p1.un.2.1.un.1, p1.un.2.1.un.2.1, p1.un.2.1.un.2.2.1, p1.un.2.1.un.2.2.2)) _ h4 (Ek (Aq CG h1 (Af h_v1)) F))) fun a w W F => ?_
   refine Cl tk 3 W F fun a w W F => ?_
   refine Cz W Aa H (fun W H => ?_) fun W H => ?_
   ·
    refine vc tk 5 W F fun a w W F => ?_
    refine Ak ?_
    iterate 2 refine Ay ?_
    have H := L2 _ H
    have H := AA H
    subst H
    refine Au (.inl Aa) W F Aa (Am W Aa) ?_
    have F := F.frontM (i := 1) Aa Aa
    have F := F.sub (M' := [(q_p0, [.int .i64 (AO (p0 - 1))])]) (Z' := []) (List.Sublist.cons_cons _ (List.nil_sublist _)) (List.Sublist.refl _)
    exact ⟨(), Aa, F⟩
   refine FL tk 2 W F fun a w W F => ?_
   refine JT 10 F MO (by kernel_rfl) ?_
   refine qs W Aa (An W Aa).q fun a W => ?_
   refine qs W Aa (Cu W Aa).q fun a W => ?_
   refine qs W Aa (Ap Ug Aa Aa Aa T3 W Aa 0 Aa).q fun a W => ?_
   refine qs W Aa (Bw (v := Value.int .i64 (AO (p0 - 1))) 1 W Aa Aa T3 Aa).q fun a W => ?_
   refine qs W Aa (Ap I2 Aa Aa Aa L6 W Aa 1 Aa).q fun a W => ?_
   refine qs W Aa (Bw (v := Value.agg #[.int .i64 p1.un.2.1.un.1, .int .i64 p1.un.2.1.un.2.1, .int .i64 p1.un.2.1.un.2.2.1, v1]) 0 W Aa Aa L6 Aa).q fun a W => ?_
   obtain ⟨x5, h5, H⟩ := Ad H
   refine qs W Aa (AK (v := Value.int .i64 x5) W Yr Aa (fun w F => Qo any w (v1) (Tr34.of (p1.un.2.1.un.1, p1.un.2.1.un.2.1, p1.un.2.1.un.2.2.1, p1.un.2.1.un.2.2.2)) _ h5 (Ek (Aq CG h1 (Af h_v1)) F))) fun a W => ?_
   refine qs W Aa (HQ W Aa Aa Aa).q fun a W => ?_
   refine qs W Aa (Cu W Aa).q fun a W => ?_
   refine qs W Aa (Ap Ug Aa Aa Aa T3 W Aa 0 Aa).q fun a W => ?_
   refine AJ fun w F => ?_
   refine Ed 1 W F Aa Aa Aa T3 Aa Aa Aa fun w F => ?_
   refine Ew (Ac ?_)
   have F := F.frontM (i := 1) Aa Aa
   have F := F.frontM (i := 1) Aa Aa
   exact ⟨_, H, W.ra Aa, F⟩
  refine AX (Ac ?_)
  have F := F.frontM (i := 1) Aa Aa
  have F := F.frontM (i := 1) Aa Aa
  exact ⟨_, H, W.ra Aa, F⟩
 rintro a w ⟨x3, hj, W, F⟩
 have H := K2 _ hj
 clear hj G2 K2 L2
 obtain ⟨o3, G3, K3, L3⟩ := QS H
 refine Ax (fun a w => ∃ x6 : Int, some (Sum.inl x6) = some o3 ∧ Fr 71 [] [(0, .pointer (some ⟨q_p0, 0, none⟩)), (6, .bool false)] a ∧ Stw ⟨Y, X, w0⟩ (Sd b1 p1 v1 v2 q_p0 x6) [] w) ?_ ?_
 ·
  have H := G3
  clear G3 K3
  refine Fo tk 4 [0] W F (ai fun a w W F => ?_)
  refine ls W F Aa (CS (r := De) (l := p1.un.2.2.2.2) Kq Aa W Aa (Aq EE h2 (Af h_v2))).q fun a w W F => ?_
  refine Cl tk 4 W F fun a w W F => ?_
  have F := F.frontM (i := 1) Aa Aa
  have F := F.frontM (i := 1) Aa Aa
  refine BF H (fun s a w => Fr 71 [] [(0, .pointer (some ⟨q_p0, 0, none⟩)), (2, .int .i64 p2), (6, .bool false), (53, v2), (54, .int .i64 (p1.un.2.2.2.2.length : Int)), (55, .int .i64 s.1)] a ∧ Stw ⟨Y, X, w0⟩ [(b1, (CX p1 v1 v2)), (q_p0, [.int .i64 s.2])] [] w) ⟨W.ra Aa, F⟩ fun s o a w H L4 hR => ?_
  obtain ⟨x7, x8⟩ := s
  obtain ⟨W, F⟩ := hR
  have W : Fr 71 [] [(0, .pointer (some ⟨q_p0, 0, none⟩)), (2, .int .i64 p2), (6, .bool false), (53, v2), (54, .int .i64 (p1.un.2.2.2.2.length : Int)), (55, .int .i64 x7)] a := W
  have F : Stw ⟨Y, X, w0⟩ (Sd b1 p1 v1 v2 q_p0 x8) [] w := F
  rw [B1] at H
  refine vc tk 6 W F fun a w W F => ?_
  refine BJ W Aa H (fun W H => ?_) fun W H => ?_
  ·
   refine FL tk 6 W F fun a w W F => ?_
   obtain ⟨x9, h6, H⟩ := Ad H
   obtain ⟨v5, h7, h8⟩ := DM h2 h6
   have h9 : HK v5 = [.int .i64 x9.un.1, .int .i64 x9.un.2.1.un.1, .int .i64 x9.un.2.1.un.2.1, .int .i64 x9.un.2.1.un.2.2.1, (v5.2.1.2.2.2.1), .int .i64 x9.un.2.2.1, .int .i64 x9.un.2.2.2.1, (v5.2.2.2.2.1)] := congrArg (fun q : Tr37 => ([.int .i64 q.un.1, .int .i64 q.un.2.1.un.1, .int .i64 q.un.2.1.un.2.1, .int .i64 q.un.2.1.un.2.2.1, (v5.2.1.2.2.2.1), .int .i64 q.un.2.2.1, .int .i64 q.un.2.2.2.1, (v5.2.2.2.2.1)] : List Value)) h8
   refine ls W F Aa (Av (r := FW) O0 W Aa Aa (Af h_v2) h7).q fun a w W F => ?_
   refine ls W F Aa (Al (y := Value.agg #[.int .i64 x9.un.1, .int .i64 x9.un.2.1.un.1, .int .i64 x9.un.2.1.un.2.1, .int .i64 x9.un.2.1.un.2.2.1, (v5.2.1.2.2.2.1), .int .i64 x9.un.2.2.1, .int .i64 x9.un.2.2.2.1, (v5.2.2.2.2.1)]) (j := 0) (i := x7) (enc := HK) W Aa Aa (Af h_v2) h7 NN II (by rw [h9]; rfl)).q fun a w W F => ?_
   refine B9 (cs := (F6)) W F Aa Mc Aa fun b2 a w W F => ?_
   refine Ed 0 W F Aa Aa Aa II Aa Aa (Ae Aa (Ae Aa (Ae Aa (Ae Aa (Ae ((BE (Af h_v2) h7 (Ai.snd (Ai.fst (Ai.snd (Ai.snd (Ai.snd Ai.here))))) (congrArg (fun q : Tr37 => q.un.2.1.un.2.2.2) h8)) _ F).one (Ae Aa (Ae Aa (Ae ((BE (Af h_v2) h7 (Ai.snd (Ai.snd (Ai.snd (Ai.snd Ai.here)))) (congrArg (fun q : Tr37 => q.un.2.2.2.2) h8)) _ F).one Df)))))))) fun w F => ?_
   refine FC tk 8 [0] W F (ai fun a w W F => ?_)
   obtain ⟨x10, h10, H⟩ := Ad H
   have F := F.frontM (i := 2) Aa Aa
   refine Bv (Ml := [(q_p0, [.int .i64 x8])]) (Zl := []) (β := Unit) (rv := fun x => .bool x10.1) (MM := fun x => [(q_p0, [.int .i64 x10.2])]) (ZZ := fun x => []) W F Yl Aa Aa (fun hL => ih _ _ w q_p0 ((v5.2.1.2.2.2.1)) ((v5.2.2.2.2.1)) x8 (Tr37.of (x9.un.1, Tr34.of (x9.un.2.1.un.1, x9.un.2.1.un.2.1, x9.un.2.1.un.2.2.1, x9.un.2.1.un.2.2.2), x9.un.2.2.1, x9.un.2.2.2.1, x9.un.2.2.2.2)) (AO (p2 - 1)) _ h10 (Sl.at_ (F.roX h_v2 (fun g hg => Fx hg)) h7 (Ai.snd (Ai.fst (Ai.snd (Ai.snd (Ai.snd Ai.here))))) (congrArg (fun q : Tr37 => q.un.2.1.un.2.2.2) h8)) (Sl.at_ (F.roX h_v2 (fun g hg => Fx hg)) h7 (Ai.snd (Ai.snd (Ai.snd (Ai.snd Ai.here)))) (congrArg (fun q : Tr37 => q.un.2.2.2.2) h8)) hL) fun x a w W F => ?_
   have F : Stw ⟨Y, X, w0⟩ [(q_p0, [.int .i64 x10.2]), (b2, [.int .i64 x9.un.1, .int .i64 x9.un.2.1.un.1, .int .i64 x9.un.2.1.un.2.1, .int .i64 x9.un.2.1.un.2.2.1, (v5.2.1.2.2.2.1), .int .i64 x9.un.2.2.1, .int .i64 x9.un.2.2.2.1, (v5.2.2.2.2.1)]), (b1, (CX p1 v1 v2))] [] w := F
   refine Cl tk 3 W F fun a w W F => ?_
   refine Cz W Aa H (fun W H => ?_) fun W H => ?_
   ·
    refine vc tk 5 W F fun a w W F => ?_
    refine Ak (AD ?_)
    iterate 2 refine Ay ?_
    refine AD (Ay ?_)
    have H := L4 _ H
    have H := L3 _ H
    have H := AA H
    subst H
    refine Au (.inl Aa) W F Aa (Am W Aa) ?_
    have F := F.sub (M' := [(q_p0, [.int .i64 x10.2])]) (Z' := []) (List.Sublist.cons_cons _ (List.nil_sublist _)) (List.Sublist.refl _)
    exact ⟨(), Aa, F⟩
   refine AX (AG ?_)
   refine vn tk 4 W F fun a w W F => ?_
   refine Ac ?_
   have F := F.frontM (i := 2) Aa Aa
   have F := F.sub (M' := [(b1, [.int .i64 p1.un.1, .int .i64 p1.un.2.1.un.1, .int .i64 p1.un.2.1.un.2.1, .int .i64 p1.un.2.1.un.2.2.1, v1, .int .i64 p1.un.2.2.1, .int .i64 p1.un.2.2.2.1, v2]), (q_p0, [.int .i64 x10.2])]) (Z' := []) (List.Sublist.cons_cons _ (List.Sublist.cons_cons _ (List.nil_sublist _))) (List.Sublist.refl _)
   exact ⟨_, H, W.ra Aa, F⟩
  refine Bu ?_
  iterate 2 refine BL ?_
  refine Bp (Ac ?_)
  have F := F.frontM (i := 1) Aa Aa
  have F := F.frontM (i := 1) Aa Aa
  have H := L4 _ H
  exact ⟨_, H, W.ra Aa, F⟩
 rintro a w ⟨x6, hj, W, F⟩
 have H := K3 _ hj
 clear hj G3 K3 L3
 refine vc tk 3 W F fun a w W F => ?_
 refine ls W F Aa (Cu W Aa).q fun a w W F => ?_
 refine FC tk 6 [1] W F (ai fun a w W F => ?_)
 refine Ak ?_
 have H := AA H
 subst H
 refine Au (.inl Aa) W F Aa (Am W Aa) ?_
 have F := F.frontM (i := 1) Aa Aa
 have F := F.sub (M' := [(q_p0, [.int .i64 x6])]) (Z' := []) (List.Sublist.cons_cons _ (List.nil_sublist _)) (List.Sublist.refl _)
 exact ⟨(), Aa, F⟩
theorem IV : ∀ (n : Nat) (Y : Nat → Prop) (X : List Nat) (w0 : World) (q_p0 : Nat) (v1 : Value) (v2 : Value) (p0 : Int) (p1 : Tr37) (p2 : Int) (r : Bool × Int) (H : Cq n p0 p1 p2 = some r) (h_v1 : Sl w0 (NX X) CC v1 p1.un.2.1.un.2.2.2) (h_v2 : Sl w0 (NX X) De v2 p1.un.2.2.2.2) (hL : Stw ⟨Y, X, w0⟩ [(q_p0, [.int .i64 p0])] [] w0), Calls Tryz.prog 31 #[.pointer (some ⟨q_p0, 0, none⟩), .agg #[.int .i64 p1.un.1, .int .i64 p1.un.2.1.un.1, .int .i64 p1.un.2.1.un.2.1, .int .i64 p1.un.2.1.un.2.2.1, v1, .int .i64 p1.un.2.2.1, .int .i64 p1.un.2.2.2.1, v2], .int .i64 p2] w0 fun e w' => ∃ x : Unit, e = .returned (.bool r.1) ∧ Stw ⟨Y, X, w0⟩ [(q_p0, [.int .i64 r.2])] [] w' := by
  intro n
  induction n with
  | zero => intro Y X w0 q_p0 v1 v2 p0 p1 p2 r H; exact nomatch H
  | succ n ih => intro Y X w0 q_p0 v1 v2 p0 p1 p2 r H h_v1 h_v2 hL; exact IC (Cq n) ih Y X w0 q_p0 v1 v2 p0 p1 p2 r H h_v1 h_v2 hL
theorem Je (Y : Nat → Prop) (X : List Nat) (w0 : World) (q_p0 : Nat) (v1 : Value) (v2 : Value) (p0 : Int) (p1 : Tr37) (p2 : Int) (r : Bool × Int) (H : FH p0 p1 p2 = some r) (h_v1 : Sl w0 (NX X) CC v1 p1.un.2.1.un.2.2.2) (h_v2 : Sl w0 (NX X) De v2 p1.un.2.2.2.2) (hL : Stw ⟨Y, X, w0⟩ [(q_p0, [.int .i64 p0])] [] w0) :
    Calls Tryz.prog 31 #[.pointer (some ⟨q_p0, 0, none⟩), .agg #[.int .i64 p1.un.1, .int .i64 p1.un.2.1.un.1, .int .i64 p1.un.2.1.un.2.1, .int .i64 p1.un.2.1.un.2.2.1, v1, .int .i64 p1.un.2.2.1, .int .i64 p1.un.2.2.2.1, v2], .int .i64 p2] w0 fun e w' => ∃ x : Unit, e = .returned (.bool r.1) ∧ Stw ⟨Y, X, w0⟩ [(q_p0, [.int .i64 r.2])] [] w' := by
  obtain ⟨n, H⟩ := CR H
  exact IV n Y X w0 q_p0 v1 v2 p0 p1 p2 r H h_v1 h_v2 hL
theorem WC : Has Tryz.prog 15 := CJ Tryz.func15
noncomputable def Dk (fRec : Tr37 → Option Int) (p0 : Tr37) : (Int × Int) → Option ((Int × Int) ⊕ Int)
  | (x2, x3) => (if x3 < (p0.un.2.2.2.2.length : Int) then (ix p0.un.2.2.2.2 x3).bind fun x4 => (fRec (Tr37.of (x4.un.1, Tr34.of (x4.un.2.1.un.1, x4.un.2.1.un.2.1, x4.un.2.1.un.2.2.1, x4.un.2.1.un.2.2.2), x4.un.2.2.1, x4.un.2.2.2.1, x4.un.2.2.2.2))).bind fun x5 => some (.inl (min (AO (x2 * x5)) 1000, AO (x3 + 1))) else some (.inr x2))
noncomputable def Dl (fRec : Tr37 → Option Int) (p0 : Tr37) : (Int × Int) → Option ((Int × Int) ⊕ Int)
  | (x6, x7) => (if x7 < (p0.un.2.2.2.2.length : Int) then (ix p0.un.2.2.2.2 x7).bind fun x8 => (fRec (Tr37.of (x8.un.1, Tr34.of (x8.un.2.1.un.1, x8.un.2.1.un.2.1, x8.un.2.1.un.2.2.1, x8.un.2.1.un.2.2.2), x8.un.2.2.1, x8.un.2.2.2.1, x8.un.2.2.2.2))).bind fun x9 => some (.inl (min (AO (x6 + x9)) 1000, AO (x7 + 1))) else some (.inr x6))
noncomputable def Dm (fRec : Tr37 → Option Int) (p0 : Tr37) : (Int × Int) → Option ((Int × Int) ⊕ Int)
  | (x10, x11) => (if x11 < (p0.un.2.2.2.2.length : Int) then (ix p0.un.2.2.2.2 x11).bind fun x12 => (fRec (Tr37.of (x12.un.1, Tr34.of (x12.un.2.1.un.1, x12.un.2.1.un.2.1, x12.un.2.1.un.2.2.1, x12.un.2.1.un.2.2.2), x12.un.2.2.1, x12.un.2.2.2.1, x12.un.2.2.2.2))).bind fun x13 => some (.inl (max x10 x13, AO (x11 + 1))) else some (.inr x10))
noncomputable def Dy (fRec : Tr37 → Option Int) (p0 : Tr37) : Option Int := (if p0.un.1 = 3 then AW (Dk fRec p0) (1, 0) else (if p0.un.1 = 4 then AW (Dl fRec p0) (0, 0) else (if p0.un.1 = 5 then AW (Dm fRec p0) (0, 0) else some 1))).bind fun x1 => some x1
noncomputable def DY : Nat → Tr37 → Option Int
  | 0 => fun _ => none
  | n + 1 => Dy (DY n)
noncomputable def Gp (p0 : Tr37) : Option Int := GL fun n => DY n p0
theorem ML (fRec : Tr37 → Option Int) (ih : ∀ (Y : Nat → Prop) (w0 : World) (v1 : Value) (v2 : Value) (p0 : Tr37) (r : Int) (H : fRec p0 = some r) (h_v1 : Sl w0 (NX []) CC v1 p0.un.2.1.un.2.2.2) (h_v2 : Sl w0 (NX []) De v2 p0.un.2.2.2.2), Calls Tryz.prog 15 #[.agg #[.int .i64 p0.un.1, .int .i64 p0.un.2.1.un.1, .int .i64 p0.un.2.1.un.2.1, .int .i64 p0.un.2.1.un.2.2.1, v1, .int .i64 p0.un.2.2.1, .int .i64 p0.un.2.2.2.1, v2]] w0 fun e w' => e = .returned (.int .i64 r) ∧ Below w0.heap.size w0 w') (Y : Nat → Prop) (w0 : World) (v1 : Value) (v2 : Value) (p0 : Tr37) (r : Int) (H : Dy fRec p0 = some r) (h_v1 : Sl w0 (NX []) CC v1 p0.un.2.1.un.2.2.2) (h_v2 : Sl w0 (NX []) De v2 p0.un.2.2.2.2) :
    Calls Tryz.prog 15 #[.agg #[.int .i64 p0.un.1, .int .i64 p0.un.2.1.un.1, .int .i64 p0.un.2.1.un.2.1, .int .i64 p0.un.2.1.un.2.2.1, v1, .int .i64 p0.un.2.2.1, .int .i64 p0.un.2.2.2.1, v2]] w0 fun e w' => e = .returned (.int .i64 r) ∧ Below w0.heap.size w0 w' := by
 refine enter Tryz.func15 Aa Tryz.ntmps15 Aa fun a W => ?_
 have F := Stw.start Y w0
 obtain ⟨v3, h1, h_v1⟩ := h_v1.ex CG
 obtain ⟨v4, h2, h_v2⟩ := h_v2.ex EE
 unfold Dy at H
 refine vc tk 2 W F fun a w W F => ?_
 refine CY (cs := (CX p0 v1 v2)) W F Aa Aa Aa fun b1 a w W F => ?_
 refine Cl tk 8 W F fun a w W F => ?_
 obtain ⟨o1, G1, K1⟩ := Ad H
 refine Ax (fun a w => ∃ x1 : Int, some (x1) = some o1 ∧ Fr 57 [] [(2, .int .i64 0), (3, .int .i64 x1)] a ∧ Stw ⟨Y, [], w0⟩ (Hc b1 p0 v1 v2) [] w) ?_ ?_
 ·
  have H := G1
  clear G1 K1
  refine Fo tk 13 [0] W F (ai fun a w W F => ?_)
  refine BX W Aa (fun hb => ?_) fun hb => ?_
  ·
   have H := B8 (CI hb) H
   rw [hb] at W
   clear hb
   refine Fo tk 9 [0] W F (ai fun a w W F => ?_)
   refine ls W F Aa (CS (r := De) (l := p0.un.2.2.2.2) Kq Aa W Aa (Aq EE h2 (Af h_v2))).q fun a w W F => ?_
   refine Cl tk 4 W F fun a w W F => ?_
   refine BF H (fun s a w => Fr 57 [] [(2, .int .i64 0), (3, .int .i64 s.1), (15, v2), (16, .int .i64 (p0.un.2.2.2.2.length : Int)), (17, .int .i64 s.2)] a ∧ Stw ⟨Y, [], w0⟩ (Hc b1 p0 v1 v2) [] w) ⟨W.ra Aa, F⟩ fun s o a w H L2 hR => ?_
   obtain ⟨x2, x3⟩ := s
   obtain ⟨W, F⟩ := hR
   have W : Fr 57 [] [(2, .int .i64 0), (3, .int .i64 x2), (15, v2), (16, .int .i64 (p0.un.2.2.2.2.length : Int)), (17, .int .i64 x3)] a := W
   have F : Stw ⟨Y, [], w0⟩ (Hc b1 p0 v1 v2) [] w := F
   rw [Dk] at H
   refine vc tk 6 W F fun a w W F => ?_
   refine BJ W Aa H (fun W H => ?_) fun W H => ?_
   ·
    refine FL tk 6 W F fun a w W F => ?_
    obtain ⟨x4, h3, H⟩ := Ad H
    obtain ⟨v5, h4, h5⟩ := DM h2 h3
    have h6 : HK v5 = [.int .i64 x4.un.1, .int .i64 x4.un.2.1.un.1, .int .i64 x4.un.2.1.un.2.1, .int .i64 x4.un.2.1.un.2.2.1, (v5.2.1.2.2.2.1), .int .i64 x4.un.2.2.1, .int .i64 x4.un.2.2.2.1, (v5.2.2.2.2.1)] := congrArg (fun q : Tr37 => ([.int .i64 q.un.1, .int .i64 q.un.2.1.un.1, .int .i64 q.un.2.1.un.2.1, .int .i64 q.un.2.1.un.2.2.1, (v5.2.1.2.2.2.1), .int .i64 q.un.2.2.1, .int .i64 q.un.2.2.2.1, (v5.2.2.2.2.1)] : List Value)) h5
    refine ls W F Aa (Av (r := FW) O0 W Aa Aa (Af h_v2) h4).q fun a w W F => ?_
    refine ls W F Aa (Al (y := Value.agg #[.int .i64 x4.un.1, .int .i64 x4.un.2.1.un.1, .int .i64 x4.un.2.1.un.2.1, .int .i64 x4.un.2.1.un.2.2.1, (v5.2.1.2.2.2.1), .int .i64 x4.un.2.2.1, .int .i64 x4.un.2.2.2.1, (v5.2.2.2.2.1)]) (j := 0) (i := x3) (enc := HK) W Aa Aa (Af h_v2) h4 NN II (by rw [h6]; rfl)).q fun a w W F => ?_
    refine B9 (cs := (F6)) W F Aa Mc Aa fun b2 a w W F => ?_
    refine Ed 0 W F Aa Aa Aa II Aa Aa (Ae Aa (Ae Aa (Ae Aa (Ae Aa (Ae ((BE (Af h_v2) h4 (Ai.snd (Ai.fst (Ai.snd (Ai.snd (Ai.snd Ai.here))))) (congrArg (fun q : Tr37 => q.un.2.1.un.2.2.2) h5)) _ F).one (Ae Aa (Ae Aa (Ae ((BE (Af h_v2) h4 (Ai.snd (Ai.snd (Ai.snd (Ai.snd Ai.here)))) (congrArg (fun q : Tr37 => q.un.2.2.2.2) h5)) _ F).one Df)))))))) fun w F => ?_
    refine FC tk 5 [0] W F (ai fun a w W F => ?_)
    obtain ⟨x5, h7, H⟩ := Ad H
    refine ls W F Aa (AK (v := Value.int .i64 x5) W WC Aa (fun w F => ih any w ((v5.2.1.2.2.2.1)) ((v5.2.2.2.2.1)) (Tr37.of (x4.un.1, Tr34.of (x4.un.2.1.un.1, x4.un.2.1.un.2.1, x4.un.2.1.un.2.2.1, x4.un.2.1.un.2.2.2), x4.un.2.2.1, x4.un.2.2.2.1, x4.un.2.2.2.2)) _ h7 (Ek (BE (Af h_v2) h4 (Ai.snd (Ai.fst (Ai.snd (Ai.snd (Ai.snd Ai.here))))) (congrArg (fun q : Tr37 => q.un.2.1.un.2.2.2) h5)) F) (Ek (BE (Af h_v2) h4 (Ai.snd (Ai.snd (Ai.snd (Ai.snd Ai.here)))) (congrArg (fun q : Tr37 => q.un.2.2.2.2) h5)) F))) fun a w W F => ?_
    refine ls W F Aa (U6 W Aa Aa Aa).q fun a w W F => ?_
    refine ls W F Aa (UP W Aa Aa).q fun a w W F => ?_
    refine vl tk 2 W F fun a w W F => ?_
    refine AG ?_
    refine vn tk 4 W F fun a w W F => ?_
    refine Ac ?_
    have F := F.frontM (i := 1) Aa Aa
    have F := F.sub (M' := (Hc b1 p0 v1 v2)) (Z' := []) (List.Sublist.cons_cons _ (List.nil_sublist _)) (List.Sublist.refl _)
    exact ⟨_, H, W.ra Aa, F⟩
   refine Bu ?_
   iterate 2 refine BL ?_
   refine Bp (AG (Ac ?_))
   have H := L2 _ H
   exact ⟨_, H, W.ra Aa, F⟩
  have H := B7 (CH hb) H
  rw [hb] at W
  clear hb
  refine vc tk 6 W F fun a w W F => ?_
  refine BX W Aa (fun hb => ?_) fun hb => ?_
  ·
   have H := B8 (CI hb) H
   rw [hb] at W
   clear hb
   refine Fo tk 4 [0] W F (ai fun a w W F => ?_)
   refine ls W F Aa (CS (r := De) (l := p0.un.2.2.2.2) Kq Aa W Aa (Aq EE h2 (Af h_v2))).q fun a w W F => ?_
   refine Cl tk 4 W F fun a w W F => ?_
   refine BF H (fun s a w => Fr 57 [] [(2, .int .i64 0), (3, .int .i64 s.1), (30, v2), (31, .int .i64 (p0.un.2.2.2.2.length : Int)), (32, .int .i64 s.2)] a ∧ Stw ⟨Y, [], w0⟩ (Hc b1 p0 v1 v2) [] w) ⟨W.ra Aa, F⟩ fun s o a w H L3 hR => ?_
   obtain ⟨x6, x7⟩ := s
   obtain ⟨W, F⟩ := hR
   have W : Fr 57 [] [(2, .int .i64 0), (3, .int .i64 x6), (30, v2), (31, .int .i64 (p0.un.2.2.2.2.length : Int)), (32, .int .i64 x7)] a := W
   have F : Stw ⟨Y, [], w0⟩ (Hc b1 p0 v1 v2) [] w := F
   rw [Dl] at H
   refine vc tk 6 W F fun a w W F => ?_
   refine BJ W Aa H (fun W H => ?_) fun W H => ?_
   ·
    refine FL tk 6 W F fun a w W F => ?_
    obtain ⟨x8, h8, H⟩ := Ad H
    obtain ⟨v6, h9, h10⟩ := DM h2 h8
    have h11 : HK v6 = [.int .i64 x8.un.1, .int .i64 x8.un.2.1.un.1, .int .i64 x8.un.2.1.un.2.1, .int .i64 x8.un.2.1.un.2.2.1, (v6.2.1.2.2.2.1), .int .i64 x8.un.2.2.1, .int .i64 x8.un.2.2.2.1, (v6.2.2.2.2.1)] := congrArg (fun q : Tr37 => ([.int .i64 q.un.1, .int .i64 q.un.2.1.un.1, .int .i64 q.un.2.1.un.2.1, .int .i64 q.un.2.1.un.2.2.1, (v6.2.1.2.2.2.1), .int .i64 q.un.2.2.1, .int .i64 q.un.2.2.2.1, (v6.2.2.2.2.1)] : List Value)) h10
    refine ls W F Aa (Av (r := FW) O0 W Aa Aa (Af h_v2) h9).q fun a w W F => ?_
    refine ls W F Aa (Al (y := Value.agg #[.int .i64 x8.un.1, .int .i64 x8.un.2.1.un.1, .int .i64 x8.un.2.1.un.2.1, .int .i64 x8.un.2.1.un.2.2.1, (v6.2.1.2.2.2.1), .int .i64 x8.un.2.2.1, .int .i64 x8.un.2.2.2.1, (v6.2.2.2.2.1)]) (j := 0) (i := x7) (enc := HK) W Aa Aa (Af h_v2) h9 NN II (by rw [h11]; rfl)).q fun a w W F => ?_
    refine B9 (cs := (F6)) W F Aa Mc Aa fun b3 a w W F => ?_
    refine Ed 0 W F Aa Aa Aa II Aa Aa (Ae Aa (Ae Aa (Ae Aa (Ae Aa (Ae ((BE (Af h_v2) h9 (Ai.snd (Ai.fst (Ai.snd (Ai.snd (Ai.snd Ai.here))))) (congrArg (fun q : Tr37 => q.un.2.1.un.2.2.2) h10)) _ F).one (Ae Aa (Ae Aa (Ae ((BE (Af h_v2) h9 (Ai.snd (Ai.snd (Ai.snd (Ai.snd Ai.here)))) (congrArg (fun q : Tr37 => q.un.2.2.2.2) h10)) _ F).one Df)))))))) fun w F => ?_
    refine FC tk 5 [0] W F (ai fun a w W F => ?_)
    obtain ⟨x9, h12, H⟩ := Ad H
    refine ls W F Aa (AK (v := Value.int .i64 x9) W WC Aa (fun w F => ih any w ((v6.2.1.2.2.2.1)) ((v6.2.2.2.2.1)) (Tr37.of (x8.un.1, Tr34.of (x8.un.2.1.un.1, x8.un.2.1.un.2.1, x8.un.2.1.un.2.2.1, x8.un.2.1.un.2.2.2), x8.un.2.2.1, x8.un.2.2.2.1, x8.un.2.2.2.2)) _ h12 (Ek (BE (Af h_v2) h9 (Ai.snd (Ai.fst (Ai.snd (Ai.snd (Ai.snd Ai.here))))) (congrArg (fun q : Tr37 => q.un.2.1.un.2.2.2) h10)) F) (Ek (BE (Af h_v2) h9 (Ai.snd (Ai.snd (Ai.snd (Ai.snd Ai.here)))) (congrArg (fun q : Tr37 => q.un.2.2.2.2) h10)) F))) fun a w W F => ?_
    refine ls W F Aa (HV W Aa Aa Aa).q fun a w W F => ?_
    refine ls W F Aa (UP W Aa Aa).q fun a w W F => ?_
    refine vl tk 2 W F fun a w W F => ?_
    refine AG ?_
    refine vn tk 4 W F fun a w W F => ?_
    refine Ac ?_
    have F := F.frontM (i := 1) Aa Aa
    have F := F.sub (M' := (Hc b1 p0 v1 v2)) (Z' := []) (List.Sublist.cons_cons _ (List.nil_sublist _)) (List.Sublist.refl _)
    exact ⟨_, H, W.ra Aa, F⟩
   refine Bu ?_
   iterate 2 refine BL ?_
   refine Bp (AG (Ac ?_))
   have H := L3 _ H
   exact ⟨_, H, W.ra Aa, F⟩
  have H := B7 (CH hb) H
  rw [hb] at W
  clear hb
  refine vc tk 6 W F fun a w W F => ?_
  refine BX W Aa (fun hb => ?_) fun hb => ?_
  ·
   have H := B8 (CI hb) H
   rw [hb] at W
   clear hb
   refine Fo tk 4 [0] W F (ai fun a w W F => ?_)
   refine ls W F Aa (CS (r := De) (l := p0.un.2.2.2.2) Kq Aa W Aa (Aq EE h2 (Af h_v2))).q fun a w W F => ?_
   refine Cl tk 4 W F fun a w W F => ?_
   refine BF H (fun s a w => Fr 57 [] [(2, .int .i64 0), (3, .int .i64 s.1), (45, v2), (46, .int .i64 (p0.un.2.2.2.2.length : Int)), (47, .int .i64 s.2)] a ∧ Stw ⟨Y, [], w0⟩ (Hc b1 p0 v1 v2) [] w) ⟨W.ra Aa, F⟩ fun s o a w H L4 hR => ?_
   obtain ⟨x10, x11⟩ := s
   obtain ⟨W, F⟩ := hR
   have W : Fr 57 [] [(2, .int .i64 0), (3, .int .i64 x10), (45, v2), (46, .int .i64 (p0.un.2.2.2.2.length : Int)), (47, .int .i64 x11)] a := W
   have F : Stw ⟨Y, [], w0⟩ (Hc b1 p0 v1 v2) [] w := F
   rw [Dm] at H
   refine vc tk 6 W F fun a w W F => ?_
   refine BJ W Aa H (fun W H => ?_) fun W H => ?_
   ·
    refine FL tk 6 W F fun a w W F => ?_
    obtain ⟨x12, h13, H⟩ := Ad H
    obtain ⟨v7, h14, h15⟩ := DM h2 h13
    have h16 : HK v7 = [.int .i64 x12.un.1, .int .i64 x12.un.2.1.un.1, .int .i64 x12.un.2.1.un.2.1, .int .i64 x12.un.2.1.un.2.2.1, (v7.2.1.2.2.2.1), .int .i64 x12.un.2.2.1, .int .i64 x12.un.2.2.2.1, (v7.2.2.2.2.1)] := congrArg (fun q : Tr37 => ([.int .i64 q.un.1, .int .i64 q.un.2.1.un.1, .int .i64 q.un.2.1.un.2.1, .int .i64 q.un.2.1.un.2.2.1, (v7.2.1.2.2.2.1), .int .i64 q.un.2.2.1, .int .i64 q.un.2.2.2.1, (v7.2.2.2.2.1)] : List Value)) h15
    refine ls W F Aa (Av (r := FW) O0 W Aa Aa (Af h_v2) h14).q fun a w W F => ?_
    refine ls W F Aa (Al (y := Value.agg #[.int .i64 x12.un.1, .int .i64 x12.un.2.1.un.1, .int .i64 x12.un.2.1.un.2.1, .int .i64 x12.un.2.1.un.2.2.1, (v7.2.1.2.2.2.1), .int .i64 x12.un.2.2.1, .int .i64 x12.un.2.2.2.1, (v7.2.2.2.2.1)]) (j := 0) (i := x11) (enc := HK) W Aa Aa (Af h_v2) h14 NN II (by rw [h16]; rfl)).q fun a w W F => ?_
    refine B9 (cs := (F6)) W F Aa Mc Aa fun b4 a w W F => ?_
    refine Ed 0 W F Aa Aa Aa II Aa Aa (Ae Aa (Ae Aa (Ae Aa (Ae Aa (Ae ((BE (Af h_v2) h14 (Ai.snd (Ai.fst (Ai.snd (Ai.snd (Ai.snd Ai.here))))) (congrArg (fun q : Tr37 => q.un.2.1.un.2.2.2) h15)) _ F).one (Ae Aa (Ae Aa (Ae ((BE (Af h_v2) h14 (Ai.snd (Ai.snd (Ai.snd (Ai.snd Ai.here)))) (congrArg (fun q : Tr37 => q.un.2.2.2.2) h15)) _ F).one Df)))))))) fun w F => ?_
    refine FC tk 5 [0] W F (ai fun a w W F => ?_)
    obtain ⟨x13, h17, H⟩ := Ad H
    refine ls W F Aa (AK (v := Value.int .i64 x13) W WC Aa (fun w F => ih any w ((v7.2.1.2.2.2.1)) ((v7.2.2.2.2.1)) (Tr37.of (x12.un.1, Tr34.of (x12.un.2.1.un.1, x12.un.2.1.un.2.1, x12.un.2.1.un.2.2.1, x12.un.2.1.un.2.2.2), x12.un.2.2.1, x12.un.2.2.2.1, x12.un.2.2.2.2)) _ h17 (Ek (BE (Af h_v2) h14 (Ai.snd (Ai.fst (Ai.snd (Ai.snd (Ai.snd Ai.here))))) (congrArg (fun q : Tr37 => q.un.2.1.un.2.2.2) h15)) F) (Ek (BE (Af h_v2) h14 (Ai.snd (Ai.snd (Ai.snd (Ai.snd Ai.here)))) (congrArg (fun q : Tr37 => q.un.2.2.2.2) h15)) F))) fun a w W F => ?_
    refine ls W F Aa (WF W Aa Aa).q fun a w W F => ?_
    refine vl tk 2 W F fun a w W F => ?_
    refine AG ?_
    refine vn tk 4 W F fun a w W F => ?_
    refine Ac ?_
    have F := F.frontM (i := 1) Aa Aa
    have F := F.sub (M' := (Hc b1 p0 v1 v2)) (Z' := []) (List.Sublist.cons_cons _ (List.nil_sublist _)) (List.Sublist.refl _)
    exact ⟨_, H, W.ra Aa, F⟩
   refine Bu ?_
   iterate 2 refine BL ?_
   refine Bp (AG (Ac ?_))
   have H := L4 _ H
   exact ⟨_, H, W.ra Aa, F⟩
  have H := B7 (CH hb) H
  rw [hb] at W
  clear hb
  refine vc tk 3 W F fun a w W F => ?_
  refine AG (Ac ?_)
  exact ⟨_, H, W.ra Aa, F⟩
 rintro a w ⟨x1, hj, W, F⟩
 have hj := AA hj
 subst hj
 have H := K1
 clear G1 K1
 refine vc tk 6 W F fun a w W F => ?_
 refine Ak ?_
 have H := AA H
 subst H
 refine Au (.inl Aa) W F Aa (Am W Aa) ?_
 exact ⟨rfl, F.done⟩
theorem NU : ∀ (n : Nat) (Y : Nat → Prop) (w0 : World) (v1 : Value) (v2 : Value) (p0 : Tr37) (r : Int) (H : DY n p0 = some r) (h_v1 : Sl w0 (NX []) CC v1 p0.un.2.1.un.2.2.2) (h_v2 : Sl w0 (NX []) De v2 p0.un.2.2.2.2), Calls Tryz.prog 15 #[.agg #[.int .i64 p0.un.1, .int .i64 p0.un.2.1.un.1, .int .i64 p0.un.2.1.un.2.1, .int .i64 p0.un.2.1.un.2.2.1, v1, .int .i64 p0.un.2.2.1, .int .i64 p0.un.2.2.2.1, v2]] w0 fun e w' => e = .returned (.int .i64 r) ∧ Below w0.heap.size w0 w' := by
  intro n
  induction n with
  | zero => intro Y w0 v1 v2 p0 r H; exact nomatch H
  | succ n ih => intro Y w0 v1 v2 p0 r H h_v1 h_v2; exact ML (DY n) ih Y w0 v1 v2 p0 r H h_v1 h_v2
theorem KG (Y : Nat → Prop) (w0 : World) (v1 : Value) (v2 : Value) (p0 : Tr37) (r : Int) (H : Gp p0 = some r) (h_v1 : Sl w0 (NX []) CC v1 p0.un.2.1.un.2.2.2) (h_v2 : Sl w0 (NX []) De v2 p0.un.2.2.2.2) :
    Calls Tryz.prog 15 #[.agg #[.int .i64 p0.un.1, .int .i64 p0.un.2.1.un.1, .int .i64 p0.un.2.1.un.2.1, .int .i64 p0.un.2.1.un.2.2.1, v1, .int .i64 p0.un.2.2.1, .int .i64 p0.un.2.2.2.1, v2]] w0 fun e w' => e = .returned (.int .i64 r) ∧ Below w0.heap.size w0 w' := by
  obtain ⟨n, H⟩ := CR H
  exact NU n Y w0 v1 v2 p0 r H h_v1 h_v2
noncomputable def E4 (p0 : Tr37) : Option Bool := ((FH 64 (Tr37.of (p0.un.1, Tr34.of (p0.un.2.1.un.1, p0.un.2.1.un.2.1, p0.un.2.1.un.2.2.1, p0.un.2.1.un.2.2.2), p0.un.2.2.1, p0.un.2.2.2.1, p0.un.2.2.2.2)) 8).bind fun x3 => (if x3.1 = true then (Gp (Tr37.of (p0.un.1, Tr34.of (p0.un.2.1.un.1, p0.un.2.1.un.2.1, p0.un.2.1.un.2.2.1, p0.un.2.1.un.2.2.2), p0.un.2.2.1, p0.un.2.2.2.1, p0.un.2.2.2.2))).bind fun x4 => some (decide (x4 ≤ 64), x3.2) else some (false, x3.2))).bind fun (x1, x2) => some x1
theorem NF (Y : Nat → Prop) (w0 : World) (v1 : Value) (v2 : Value) (p0 : Tr37) (r : Bool) (H : E4 p0 = some r) (h_v1 : Sl w0 (NX []) CC v1 p0.un.2.1.un.2.2.2) (h_v2 : Sl w0 (NX []) De v2 p0.un.2.2.2.2) :
    Calls Tryz.prog 9 #[.agg #[.int .i64 p0.un.1, .int .i64 p0.un.2.1.un.1, .int .i64 p0.un.2.1.un.2.1, .int .i64 p0.un.2.1.un.2.2.1, v1, .int .i64 p0.un.2.2.1, .int .i64 p0.un.2.2.2.1, v2]] w0 fun e w' => e = .returned (.bool r) ∧ Below w0.heap.size w0 w' := by
 refine enter Tryz.func9 Aa Tryz.ntmps9 Aa fun a W => ?_
 have F := Stw.start Y w0
 obtain ⟨v3, h1, h_v1⟩ := h_v1.ex CG
 obtain ⟨v4, h2, h_v2⟩ := h_v2.ex EE
 unfold E4 at H
 refine vc tk 2 W F fun a w W F => ?_
 refine CY (cs := (CX p0 v1 v2)) W F Aa Aa Aa fun b1 a w W F => ?_
 refine Cl tk 5 W F fun a w W F => ?_
 refine ls W F Aa (CB (v := Value.agg #[.int .i64 64]) Yz W Aa Aa Aa).q fun a w W F => ?_
 refine B9 (cs := [.int .i64 0]) W F Aa YC Aa fun b2 a w W F => ?_
 refine Ed 0 W F Aa Aa Aa YB Aa Aa Aa fun w F => ?_
 refine Ew (Ac ?_)
 obtain ⟨o1, G1, K1⟩ := Ad H
 refine Ax (fun a w => ∃ x1 : Bool, ∃ x2 : Int, some ((x1, x2)) = some o1 ∧ Fr 12 [] [(2, .bool x1)] a ∧ Stw ⟨Y, [], w0⟩ [(b2, [.int .i64 x2]), (b1, [.int .i64 p0.un.1, .int .i64 p0.un.2.1.un.1, .int .i64 p0.un.2.1.un.2.1, .int .i64 p0.un.2.1.un.2.2.1, v1, .int .i64 p0.un.2.2.1, .int .i64 p0.un.2.2.2.1, v2])] [] w) ?_ ?_
 ·
  have H := G1
  clear G1 K1
  refine Fo tk 2 [1] W F (ai fun a w W F => ?_)
  obtain ⟨x3, h3, H⟩ := Ad H
  refine Bv (Ml := [(b2, [.int .i64 64])]) (Zl := []) (β := Unit) (rv := fun x => .bool x3.1) (MM := fun x => [(b2, [.int .i64 x3.2])]) (ZZ := fun x => []) W F Yl Aa Aa (fun hL => Je _ _ w b2 (v1) (v2) 64 (Tr37.of (p0.un.1, Tr34.of (p0.un.2.1.un.1, p0.un.2.1.un.2.1, p0.un.2.1.un.2.2.1, p0.un.2.1.un.2.2.2), p0.un.2.2.1, p0.un.2.2.2.1, p0.un.2.2.2.2)) 8 _ h3 (Sl.hide CG h1 (F.roX h_v1 (fun g hg => Fx hg))) (Sl.hide EE h2 (F.roX h_v2 (fun g hg => Fx hg))) hL) fun x a w W F => ?_
  have F : Stw ⟨Y, [], w0⟩ [(b2, [.int .i64 x3.2]), (b1, [.int .i64 p0.un.1, .int .i64 p0.un.2.1.un.1, .int .i64 p0.un.2.1.un.2.1, .int .i64 p0.un.2.1.un.2.2.1, v1, .int .i64 p0.un.2.2.1, .int .i64 p0.un.2.2.2.1, v2])] [] w := F
  refine ls W F Aa (An W Aa).q fun a w W F => ?_
  rcases Bool.eq_false_or_eq_true x3.1 with hb | hb
  ·
   have H := B8 hb H
   rw [hb] at W
   clear hb
   refine GQ W F (Ab W Aa Aa Aa Aa) Aa (Ao Aa) (Bw (v := Value.agg #[.int .i64 p0.un.1, .int .i64 p0.un.2.1.un.1, .int .i64 p0.un.2.1.un.2.1, .int .i64 p0.un.2.1.un.2.2.1, v1, .int .i64 p0.un.2.2.1, .int .i64 p0.un.2.2.2.1, v2]) 1 W Aa Aa II Aa).q fun a w W F => ?_
   refine HB (Ab W Aa Aa Aa Aa) ?_
   obtain ⟨x4, h4, H⟩ := Ad H
   refine ls W F Aa (AK (v := Value.int .i64 x4) W WC Aa (fun w F => KG any w (v1) (v2) (Tr37.of (p0.un.1, Tr34.of (p0.un.2.1.un.1, p0.un.2.1.un.2.1, p0.un.2.1.un.2.2.1, p0.un.2.1.un.2.2.2), p0.un.2.2.1, p0.un.2.2.2.1, p0.un.2.2.2.2)) _ h4 (Ek (Aq CG h1 (Af h_v1)) F) (Ek (Aq EE h2 (Af h_v2)) F))) fun a w W F => ?_
   refine vl tk 4 W F fun a w W F => ?_
   refine Ac ?_
   have F := F.frontM (i := 1) Aa Aa
   have F := F.frontM (i := 1) Aa Aa
   exact ⟨_, _, H, W.ra Aa, F⟩
  have H := B7 (by rw [hb]; decide) H
  rw [hb] at W
  clear hb
  refine vl tk 6 W F fun a w W F => ?_
  refine Ac ?_
  have F := F.frontM (i := 1) Aa Aa
  have F := F.frontM (i := 1) Aa Aa
  exact ⟨_, _, H, W.ra Aa, F⟩
 rintro a w ⟨x1, x2, hj, W, F⟩
 have hj := AA hj
 subst hj
 have H := K1
 clear G1 K1
 refine Ak ?_
 have H := AA H
 subst H
 refine Au (.inl Aa) W F Aa (Am W Aa) ?_
 exact ⟨rfl, F.done⟩
theorem H9 : Has Tryz.prog 9 := CJ Tryz.func9
abbrev JA (a0 : Value) : List Value := [.int .i64 3, .int .i64 0, .int .i64 0, .int .i64 0, .slice none 0 0, .int .i64 0, .int .i64 0, a0]
abbrev Nw (a0 : Nat) (a1 : Value) : List (Nat × List Value) := [(a0, [.int .i64 3, .int .i64 0, .int .i64 0, .int .i64 0, .slice none 0 0, .int .i64 0, .int .i64 0, a1])]
noncomputable def GZ  : Option Bool := (Ct (Tr37.of (3, Tr34.of (0, 0, 0, ([] : List Tr34)), 0, 0, ([Tr37.of (2, Tr34.of (0, 0, 0, ([] : List Tr34)), 1, 3, ([] : List Tr37)), Tr37.of (2, Tr34.of (0, 0, 0, ([] : List Tr34)), 4, 1, ([] : List Tr37))] : List Tr37))) 0 5 (7, 2, 0, 0)).bind fun x1 => (if (x1.length : Int) = 1 then (ix x1 0).bind fun x3 => (if x3.1 = 1 ∧ x3.2.1 = 7 ∧ x3.2.2.1 = 3 ∧ x3.2.2.2.1 = 0 ∧ x3.2.2.2.2 = 0 then (Hd (Tr37.of (3, Tr34.of (0, 0, 0, ([] : List Tr34)), 0, 0, ([Tr37.of (2, Tr34.of (0, 0, 0, ([] : List Tr34)), 1, 3, ([] : List Tr37)), Tr37.of (2, Tr34.of (0, 0, 0, ([] : List Tr34)), 4, 1, ([] : List Tr37))] : List Tr37)))).bind fun x4 => (if x4 = ([100, 115, 116, 32, 58, 61, 32, 51, 59, 32, 112, 111, 114, 116, 32, 58, 61, 32, 49] : List UInt8) then (E4 (Tr37.of (3, Tr34.of (0, 0, 0, ([] : List Tr34)), 0, 0, ([Tr37.of (2, Tr34.of (0, 0, 0, ([] : List Tr34)), 1, 3, ([] : List Tr37)), Tr37.of (2, Tr34.of (0, 0, 0, ([] : List Tr34)), 4, 1, ([] : List Tr37))] : List Tr37)))).bind fun x5 => (if x5 = true then (Gp (Tr37.of (3, Tr34.of (0, 0, 0, ([] : List Tr34)), 0, 0, ([Tr37.of (2, Tr34.of (0, 0, 0, ([] : List Tr34)), 1, 3, ([] : List Tr37)), Tr37.of (2, Tr34.of (0, 0, 0, ([] : List Tr34)), 4, 1, ([] : List Tr37))] : List Tr37)))).bind fun x6 => some (decide (x6 = 1)) else some false) else some false) else some false) else some false).bind fun x2 => some x2
theorem JI (Y : Nat → Prop) (w0 : World)   (r : Bool) (H : GZ  = some r) (hG : Gk [] w0) :
    Calls Tryz.prog 7 #[] w0 fun e w' => e = .returned (.bool r) ∧ Below w0.heap.size w0 w' := by
 refine enter Tryz.func7 Aa Tryz.ntmps7 Aa fun a W => ?_
 have F := Stw.start Y w0
 unfold GZ at H
 refine vc tk 7 W F fun a w W F => ?_
 refine ls W F Aa (CB (v := Value.agg #[.int .i64 2, .int .i64 0, .int .i64 0, .int .i64 0, .slice none 0 0, .int .i64 1, .int .i64 3, .slice none 0 0]) Q8 W Aa Aa Aa).q fun a w W F => ?_
 refine ls W F Aa (CB (v := Value.agg #[.int .i64 2, .int .i64 0, .int .i64 0, .int .i64 0, .slice none 0 0, .int .i64 4, .int .i64 1, .slice none 0 0]) Q8 W Aa Aa Aa).q fun a w W F => ?_
 refine Ht (z := Value.agg #[.int .i64 0, .int .i64 0, .int .i64 0, .int .i64 0, .slice none 0 0, .int .i64 0, .int .i64 0, .slice none 0 0]) (cs := [.int .i64 2, .int .i64 0, .int .i64 0, .int .i64 0, .slice none 0 0, .int .i64 1, .int .i64 3, .slice none 0 0, .int .i64 2, .int .i64 0, .int .i64 0, .int .i64 0, .slice none 0 0, .int .i64 4, .int .i64 1, .slice none 0 0]) De ([Tr37.of (2, Tr34.of (0, 0, 0, ([] : List Tr34)), 1, 3, ([] : List Tr37)), Tr37.of (2, Tr34.of (0, 0, 0, ([] : List Tr34)), 4, 1, ([] : List Tr37))] : List Tr37) W F Aa O0 Mc Aa Aa Aa (A8 Aa Aa Aa (A8 Aa Aa Aa C5)) Aa Aa ⟨[Value.int .i64 2, Value.int .i64 0, Value.int .i64 0, Value.int .i64 0, Value.slice none 0 0, Value.int .i64 1, Value.int .i64 3, Value.slice none 0 0], _, Aa, (IZ.2 ⟨[Value.int .i64 2], [Value.int .i64 0, Value.int .i64 0, Value.int .i64 0, Value.slice none 0 0, Value.int .i64 1, Value.int .i64 3, Value.slice none 0 0], Aa, Aa, ⟨[Value.int .i64 0, Value.int .i64 0, Value.int .i64 0, Value.slice none 0 0], [Value.int .i64 1, Value.int .i64 3, Value.slice none 0 0], Aa, (IF.2 ⟨[Value.int .i64 0], [Value.int .i64 0, Value.int .i64 0, Value.slice none 0 0], Aa, Aa, ⟨[Value.int .i64 0], [Value.int .i64 0, Value.slice none 0 0], Aa, Aa, ⟨[Value.int .i64 0], [Value.slice none 0 0], Aa, Aa, ⟨_, Aa, (Sl.nil (r := CC))⟩⟩⟩⟩), ⟨[Value.int .i64 1], [Value.int .i64 3, Value.slice none 0 0], Aa, Aa, ⟨[Value.int .i64 3], [Value.slice none 0 0], Aa, Aa, ⟨_, Aa, (Sl.nil (r := De))⟩⟩⟩⟩⟩), ⟨[Value.int .i64 2, Value.int .i64 0, Value.int .i64 0, Value.int .i64 0, Value.slice none 0 0, Value.int .i64 4, Value.int .i64 1, Value.slice none 0 0], _, Aa, (IZ.2 ⟨[Value.int .i64 2], [Value.int .i64 0, Value.int .i64 0, Value.int .i64 0, Value.slice none 0 0, Value.int .i64 4, Value.int .i64 1, Value.slice none 0 0], Aa, Aa, ⟨[Value.int .i64 0, Value.int .i64 0, Value.int .i64 0, Value.slice none 0 0], [Value.int .i64 4, Value.int .i64 1, Value.slice none 0 0], Aa, (IF.2 ⟨[Value.int .i64 0], [Value.int .i64 0, Value.int .i64 0, Value.slice none 0 0], Aa, Aa, ⟨[Value.int .i64 0], [Value.int .i64 0, Value.slice none 0 0], Aa, Aa, ⟨[Value.int .i64 0], [Value.slice none 0 0], Aa, Aa, ⟨_, Aa, (Sl.nil (r := CC))⟩⟩⟩⟩), ⟨[Value.int .i64 4], [Value.int .i64 1, Value.slice none 0 0], Aa, Aa, ⟨[Value.int .i64 1], [Value.slice none 0 0], Aa, Aa, ⟨_, Aa, (Sl.nil (r := De))⟩⟩⟩⟩⟩), Aa⟩⟩ fun v1 a w W F => ?_
 refine ls W F Aa (CB (v := Value.agg #[.int .i64 3, .int .i64 0, .int .i64 0, .int .i64 0, .slice none 0 0, .int .i64 0, .int .i64 0, v1]) Q8 W Aa (A8 Aa Aa Aa (A8 Aa (Gr (F.one (k := 0) Aa)) Aa C5)) Aa).q fun a w W F => ?_
 refine B9 (cs := (F6)) W F Aa Mc Aa fun b1 a w W F => ?_
 refine Ed 0 W F Aa Aa Aa II Aa Aa (Ae Aa (Ae Aa (Ae Aa (Ae Aa (Ae Aa (Ae Aa (Ae Aa (Ae (F.one (k := 0) Aa) Df)))))))) fun w F => ?_
 refine FC tk 5 [0] W F (ai fun a w W F => ?_)
 refine ls W F Aa (Q6 (v := Value.agg #[.int .i64 7, .int .i64 2, .int .i64 0, .int .i64 0]) Rt V8 W Aa Aa Aa).q fun a w W F => ?_
 obtain ⟨x1, h1, H⟩ := Ad H
 have F := F.freeze
 refine Bv (Ml := []) (Zl := []) (β := Value) (rv := fun x => x) (MM := fun x => []) (ZZ := fun x => [row x 63 Bg x1]) W F Wk Aa Aa (fun hL => GH _ w (Value.slice none 0 0) (v1) (Tr37.of (3, Tr34.of (0, 0, 0, ([] : List Tr34)), 0, 0, ([Tr37.of (2, Tr34.of (0, 0, 0, ([] : List Tr34)), 1, 3, ([] : List Tr37)), Tr37.of (2, Tr34.of (0, 0, 0, ([] : List Tr34)), 4, 1, ([] : List Tr37))] : List Tr37))) 0 5 (7, 2, 0, 0) _ h1 Sl.nil (F.item (i := 0) Aa)) fun x a w W F => ?_
 obtain ⟨v2, rfl⟩ : ∃ y, y = x := ⟨x, rfl⟩
 have F : Stw ⟨Y, [], w0⟩ (Nw b1 v1) [row v2 63 Bg x1, Ef v1 De ([Tr37.of (2, Tr34.of (0, 0, 0, ([] : List Tr34)), 1, 3, ([] : List Tr37)), Tr37.of (2, Tr34.of (0, 0, 0, ([] : List Tr34)), 4, 1, ([] : List Tr37))] : List Tr37)] w := F
 refine vl tk 2 W F fun a w W F => ?_
 refine Ac ?_
 obtain ⟨o1, G1, K1⟩ := Ad H
 refine Ax (fun a w => ∃ x2 : Bool, some (x2) = some o1 ∧ Fr 35 [] [(0, .bool x2)] a ∧ Stw ⟨Y, [], w0⟩ (Nw b1 v1) [Ef v1 De ([Tr37.of (2, Tr34.of (0, 0, 0, ([] : List Tr34)), 1, 3, ([] : List Tr37)), Tr37.of (2, Tr34.of (0, 0, 0, ([] : List Tr34)), 4, 1, ([] : List Tr37))] : List Tr37)] w) ?_ ?_
 ·
  have H := G1
  clear G1 K1
  refine vc tk 2 W F fun a w W F => ?_
  refine ls W F Aa (CS (r := Bg) (l := x1) SH Aa W Aa (Aj 0 Aa)).q fun a w W F => ?_
  refine vl tk 2 W F fun a w W F => ?_
  rcases Bool.eq_false_or_eq_true (decide ((x1.length : Int) = 1)) with hb | hb
  ·
   have H := B8 (CI hb) H
   rw [hb] at W
   clear hb
   refine GQ W F (Ab W Aa Aa Aa Aa) Aa (Ao Aa) (An W Aa).q fun a w W F => ?_
   obtain ⟨x3, h2, H⟩ := Ad H
   refine GQ W F (Ab W Aa Aa Aa Aa) Aa (Ao Aa) (Av (r := Bg) Eg W Aa Aa (Aj 0 Aa) h2).q fun a w W F => ?_
   refine GQ W F (Ab W Aa Aa Aa Aa) Aa (Ao Aa) (Al (y := Value.agg #[.int .i64 x3.1, .int .i64 x3.2.1, .int .i64 x3.2.2.1, .int .i64 x3.2.2.2.1, .int .i64 x3.2.2.2.2]) (j := 0) (i := 0) W Aa Aa (Aj 0 Aa) h2 Ej.to DP Aa).q fun a w W F => ?_
   refine GQ W F (Ab W Aa Aa Aa Aa) Aa (Ao Aa) (Q6 (v := Value.agg #[.int .i64 7, .int .i64 3, .int .i64 0, .int .i64 0]) Rt V8 W Aa Aa Aa).q fun a w W F => ?_
   refine GQ W F (Ab W Aa Aa Aa Aa) Aa (Ao Aa) (CB (v := Value.agg #[.int .i64 1, .int .i64 7, .int .i64 3, .int .i64 0, .int .i64 0]) Yg W Aa Aa Aa).q fun a w W F => ?_
   refine GQ W F (Ab W Aa Aa Aa Aa) Aa (Ao Aa) (Wf (t := decide (x3.1 = 1 ∧ x3.2.1 = 7 ∧ x3.2.2.1 = 3 ∧ x3.2.2.2.1 = 0 ∧ x3.2.2.2.2 = 0)) X9 (W2 _ _ _ _ _ _ _ _ _ _) W Aa Aa).q fun a w W F => ?_
   refine vl tk 2 W F fun a w W F => ?_
   rcases Bool.eq_false_or_eq_true (decide (x3.1 = 1 ∧ x3.2.1 = 7 ∧ x3.2.2.1 = 3 ∧ x3.2.2.2.1 = 0 ∧ x3.2.2.2.2 = 0)) with hb | hb
   ·
    have H := B8 (CI hb) H
    rw [hb] at W
    clear hb
    refine GQ W F (Ab W Aa Aa Aa Aa) Aa (Ao Aa) (Bw (v := Value.agg #[.int .i64 3, .int .i64 0, .int .i64 0, .int .i64 0, .slice none 0 0, .int .i64 0, .int .i64 0, v1]) 0 W Aa Aa II Aa).q fun a w W F => ?_
    refine HB (Ab W Aa Aa Aa Aa) ?_
    obtain ⟨x4, h3, H⟩ := Ad H
    refine ls W F Aa (AK (v := Value.string (bs x4)) W Yj Aa (fun w F => ON any w (Value.slice none 0 0) (v1) (Tr37.of (3, Tr34.of (0, 0, 0, ([] : List Tr34)), 0, 0, ([Tr37.of (2, Tr34.of (0, 0, 0, ([] : List Tr34)), 1, 3, ([] : List Tr37)), Tr37.of (2, Tr34.of (0, 0, 0, ([] : List Tr34)), 4, 1, ([] : List Tr37))] : List Tr37))) _ h3 Sl.nil (Ek (LJ 1 Aa) F) (hG.go0 F))) fun a w W F => ?_
    refine GQ W F (Ab W Aa Aa Aa Aa) Aa (Ao Aa) (WO (l := x4) (m := ([100, 115, 116, 32, 58, 61, 32, 51, 59, 32, 112, 111, 114, 116, 32, 58, 61, 32, 49] : List UInt8)) W Aa Aa).q fun a w W F => ?_
    refine vl tk 2 W F fun a w W F => ?_
    rcases Bool.eq_false_or_eq_true (decide (x4 = ([100, 115, 116, 32, 58, 61, 32, 51, 59, 32, 112, 111, 114, 116, 32, 58, 61, 32, 49] : List UInt8))) with hb | hb
    ·
     have H := B8 (CI hb) H
     rw [hb] at W
     clear hb
     refine GQ W F (Ab W Aa Aa Aa Aa) Aa (Ao Aa) (Bw (v := Value.agg #[.int .i64 3, .int .i64 0, .int .i64 0, .int .i64 0, .slice none 0 0, .int .i64 0, .int .i64 0, v1]) 0 W Aa Aa II Aa).q fun a w W F => ?_
     refine HB (Ab W Aa Aa Aa Aa) ?_
     obtain ⟨x5, h4, H⟩ := Ad H
     refine ls W F Aa (AK (v := Value.bool x5) W H9 Aa (fun w F => NF any w (Value.slice none 0 0) (v1) (Tr37.of (3, Tr34.of (0, 0, 0, ([] : List Tr34)), 0, 0, ([Tr37.of (2, Tr34.of (0, 0, 0, ([] : List Tr34)), 1, 3, ([] : List Tr37)), Tr37.of (2, Tr34.of (0, 0, 0, ([] : List Tr34)), 4, 1, ([] : List Tr37))] : List Tr37))) _ h4 Sl.nil (Ek (LJ 1 Aa) F))) fun a w W F => ?_
     refine vl tk 2 W F fun a w W F => ?_
     rcases Bool.eq_false_or_eq_true x5 with hb | hb
     ·
      have H := B8 hb H
      rw [hb] at W
      clear hb
      refine GQ W F (Ab W Aa Aa Aa Aa) Aa (Ao Aa) (Bw (v := Value.agg #[.int .i64 3, .int .i64 0, .int .i64 0, .int .i64 0, .slice none 0 0, .int .i64 0, .int .i64 0, v1]) 0 W Aa Aa II Aa).q fun a w W F => ?_
      refine HB (Ab W Aa Aa Aa Aa) ?_
      obtain ⟨x6, h5, H⟩ := Ad H
      refine ls W F Aa (AK (v := Value.int .i64 x6) W WC Aa (fun w F => KG any w (Value.slice none 0 0) (v1) (Tr37.of (3, Tr34.of (0, 0, 0, ([] : List Tr34)), 0, 0, ([Tr37.of (2, Tr34.of (0, 0, 0, ([] : List Tr34)), 1, 3, ([] : List Tr37)), Tr37.of (2, Tr34.of (0, 0, 0, ([] : List Tr34)), 4, 1, ([] : List Tr37))] : List Tr37))) _ h5 Sl.nil (Ek (LJ 1 Aa) F))) fun a w W F => ?_
      refine vl tk 4 W F fun a w W F => ?_
      refine Ac ?_
      have F := F.frontZ (i := 1) Aa Aa
      have F := F.sub (M' := (Nw b1 v1)) (Z' := [Ef v1 De ([Tr37.of (2, Tr34.of (0, 0, 0, ([] : List Tr34)), 1, 3, ([] : List Tr37)), Tr37.of (2, Tr34.of (0, 0, 0, ([] : List Tr34)), 4, 1, ([] : List Tr37))] : List Tr37)]) (List.Sublist.refl _) (List.Sublist.cons_cons _ (List.nil_sublist _))
      exact ⟨_, H, W.ra Aa, F⟩
     have H := B7 (by rw [hb]; decide) H
     rw [hb] at W
     clear hb
     refine vl tk 6 W F fun a w W F => ?_
     refine Ac ?_
     have F := F.frontZ (i := 1) Aa Aa
     have F := F.sub (M' := (Nw b1 v1)) (Z' := [Ef v1 De ([Tr37.of (2, Tr34.of (0, 0, 0, ([] : List Tr34)), 1, 3, ([] : List Tr37)), Tr37.of (2, Tr34.of (0, 0, 0, ([] : List Tr34)), 4, 1, ([] : List Tr37))] : List Tr37)]) (List.Sublist.refl _) (List.Sublist.cons_cons _ (List.nil_sublist _))
     exact ⟨_, H, W.ra Aa, F⟩
    have H := B7 (CH hb) H
    rw [hb] at W
    clear hb
    refine vl tk 10 W F fun a w W F => ?_
    refine Ac ?_
    have F := F.frontZ (i := 1) Aa Aa
    have F := F.sub (M' := (Nw b1 v1)) (Z' := [Ef v1 De ([Tr37.of (2, Tr34.of (0, 0, 0, ([] : List Tr34)), 1, 3, ([] : List Tr37)), Tr37.of (2, Tr34.of (0, 0, 0, ([] : List Tr34)), 4, 1, ([] : List Tr37))] : List Tr37)]) (List.Sublist.refl _) (List.Sublist.cons_cons _ (List.nil_sublist _))
    exact ⟨_, H, W.ra Aa, F⟩
   have H := B7 (CH hb) H
   rw [hb] at W
   clear hb
   refine vl tk 15 W F fun a w W F => ?_
   refine Ac ?_
   have F := F.frontZ (i := 1) Aa Aa
   have F := F.sub (M' := (Nw b1 v1)) (Z' := [Ef v1 De ([Tr37.of (2, Tr34.of (0, 0, 0, ([] : List Tr34)), 1, 3, ([] : List Tr37)), Tr37.of (2, Tr34.of (0, 0, 0, ([] : List Tr34)), 4, 1, ([] : List Tr37))] : List Tr37)]) (List.Sublist.refl _) (List.Sublist.cons_cons _ (List.nil_sublist _))
   exact ⟨_, H, W.ra Aa, F⟩
  have H := B7 (CH hb) H
  rw [hb] at W
  clear hb
  refine vl tk 23 W F fun a w W F => ?_
  refine Ac ?_
  have F := F.frontZ (i := 1) Aa Aa
  have F := F.sub (M' := (Nw b1 v1)) (Z' := [Ef v1 De ([Tr37.of (2, Tr34.of (0, 0, 0, ([] : List Tr34)), 1, 3, ([] : List Tr37)), Tr37.of (2, Tr34.of (0, 0, 0, ([] : List Tr34)), 4, 1, ([] : List Tr37))] : List Tr37)]) (List.Sublist.refl _) (List.Sublist.cons_cons _ (List.nil_sublist _))
  exact ⟨_, H, W.ra Aa, F⟩
 rintro a w ⟨x2, hj, W, F⟩
 have hj := AA hj
 subst hj
 have H := K1
 clear G1 K1
 refine Ak ?_
 have H := AA H
 subst H
 refine Au (.inl Aa) W F Aa (Am W Aa) ?_
 exact ⟨rfl, F.done⟩
theorem H7 : Has Tryz.prog 7 := CJ Tryz.func7
theorem Xu : Has Tryz.prog 28 := CJ Tryz.func28
abbrev Og (a0 : Nat) (a1 : Tr24) (a2 : Value) (a3 : Nat) (a4 : Nat) (a5 : Value) : List (Nat × List Value) := [(a0, [.int .i64 a1.un.1, .int .i64 a1.un.2.1, .int .i64 a1.un.2.2.1, a2]), (a3, [.int .i64 0, .int .i64 0, .int .i64 0, .slice none 0 0]), (a4, [.int .i64 a1.un.1, .int .i64 a1.un.2.1, .int .i64 a1.un.2.2.1, a5])]
noncomputable def DB (fRec : Tr24 → Option Tr34) (p0 : Tr24) : (Int × List Tr34) → Option ((Int × List Tr34) ⊕ (List Tr34))
  | (x2, x3) => (if x2 < (p0.un.2.2.2.length : Int) then (ix p0.un.2.2.2 x2).bind fun x4 => (fRec x4).bind fun x5 => (HG x3 ([x5] : List Tr34)).bind fun x6 => some (.inl (AO (x2 + 1), x6)) else some (.inr x3))
noncomputable def EV (fRec : Tr24 → Option Tr34) (p0 : Tr24) : Option Tr34 := (AW (DB fRec p0) (0, [])).bind fun x1 => some (Tr34.of (p0.un.1, p0.un.2.1, p0.un.2.2.1, x1))
noncomputable def D1 : Nat → Tr24 → Option Tr34
  | 0 => fun _ => none
  | n + 1 => EV (D1 n)
noncomputable def Nl (p0 : Tr24) : Option Tr34 := GL fun n => D1 n p0
theorem Pw (fRec : Tr24 → Option Tr34) (ih : ∀ (Y : Nat → Prop) (w0 : World) (v1 : Value) (p0 : Tr24) (r : Tr34) (H : fRec p0 = some r) (h_v1 : Sl w0 (NX []) DO v1 p0.un.2.2.2), Calls Tryz.prog 28 #[.agg #[.int .i64 p0.un.1, .int .i64 p0.un.2.1, .int .i64 p0.un.2.2.1, v1]] w0 fun e w' => ∃ x : Value, e = .returned (.agg #[.int .i64 r.un.1, .int .i64 r.un.2.1, .int .i64 r.un.2.2.1, x]) ∧ Stw ⟨Y, [], w0⟩ [] [row (x) 34 CC r.un.2.2.2] w') (Y : Nat → Prop) (w0 : World) (v1 : Value) (p0 : Tr24) (r : Tr34) (H : EV fRec p0 = some r) (h_v1 : Sl w0 (NX []) DO v1 p0.un.2.2.2) :
    Calls Tryz.prog 28 #[.agg #[.int .i64 p0.un.1, .int .i64 p0.un.2.1, .int .i64 p0.un.2.2.1, v1]] w0 fun e w' => ∃ x : Value, e = .returned (.agg #[.int .i64 r.un.1, .int .i64 r.un.2.1, .int .i64 r.un.2.2.1, x]) ∧ Stw ⟨Y, [], w0⟩ [] [row (x) 34 CC r.un.2.2.2] w' := by
 refine enter Tryz.func28 Aa Tryz.ntmps28 Aa fun a W => ?_
 have F := Stw.start Y w0
 obtain ⟨v2, h1, h_v1⟩ := h_v1.ex EJ
 unfold EV at H
 refine vc tk 2 W F fun a w W F => ?_
 refine CY (cs := (M6 p0 v1)) W F Aa Aa Aa fun b1 a w W F => ?_
 refine B9 (cs := (LM)) W F Aa U5 Aa fun b2 a w W F => ?_
 refine FC tk 10 [1, 1, 1] W F (ai (ai (ai fun a w W F => ?_)))
 refine ls W F Aa (CB (v := Value.agg #[.int .i64 p0.un.1, .int .i64 p0.un.2.1, .int .i64 p0.un.2.2.1, .slice none 0 0]) WY W Aa Aa Aa).q fun a w W F => ?_
 refine B9 (cs := (LM)) W F Aa U5 Aa fun b3 a w W F => ?_
 refine Ed 0 W F Aa Aa Aa L6 Aa Aa Aa fun w F => ?_
 refine Ew (Ac ?_)
 obtain ⟨o1, G1, K1⟩ := Ad H
 refine Ax (fun a w => ∃ x1 : List Tr34, ∃ v3 : Value, some (x1) = some o1 ∧ Fr 31 [] [(2, .pointer (some ⟨b2, 0, none⟩)), (3, .pointer (some ⟨b3, 0, none⟩))] a ∧ Stw ⟨Y, [], w0⟩ (Og b3 p0 v3 b2 b1 v1) [row v3 34 CC x1] w) ?_ ?_
 ·
  have H := G1
  clear G1 K1
  refine vc tk 6 W F fun a w W F => ?_
  have F := F.nilRow 34 CC
  have F := F.frontM (i := 2) Aa Aa
  have F := F.frontM (i := 2) Aa Aa
  have F := F.frontM (i := 2) Aa Aa
  refine BF H (fun s a w => ∃ v4 : Value, Fr 31 [] [(1, .pointer (some ⟨b1, 0, none⟩)), (2, .pointer (some ⟨b2, 0, none⟩)), (3, .pointer (some ⟨b3, 0, none⟩)), (4, .int .i64 s.1)] a ∧ Stw ⟨Y, [], w0⟩ (Og b3 p0 v4 b2 b1 v1) [row v4 34 CC s.2] w) ⟨(Value.slice none 0 0), W.ra Aa, F⟩ fun s o a w H L2 hR => ?_
  obtain ⟨x2, x3⟩ := s
  obtain ⟨v4, W, F⟩ := hR
  have W : Fr 31 [] [(1, .pointer (some ⟨b1, 0, none⟩)), (2, .pointer (some ⟨b2, 0, none⟩)), (3, .pointer (some ⟨b3, 0, none⟩)), (4, .int .i64 x2)] a := W
  have F : Stw ⟨Y, [], w0⟩ (Og b3 p0 v4 b2 b1 v1) [row v4 34 CC x3] w := F
  rw [DB] at H
  refine Fo tk 6 [2] W F (ai fun a w W F => ?_)
  refine ls W F Aa (CS (r := DO) (l := p0.un.2.2.2) Ql Aa W Aa (Aq EJ h1 (Af h_v1))).q fun a w W F => ?_
  refine Cl tk 3 W F fun a w W F => ?_
  refine BJ W Aa H (fun W H => ?_) fun W H => ?_
  ·
   refine FL tk 4 W F fun a w W F => ?_
   obtain ⟨v5, h2, F⟩ := F.exR CG
   refine D6 [(true, 0), (true, 1), (true, 2), (true, 3), (true, 4), (true, 5), (true, 6), (false, 7), (false, 8), (false, 9), (true, 10), (false, 11)] (CN ⟨Y, [], w0⟩ [(some 9, b3, [.int .i64 p0.un.1, .int .i64 p0.un.2.1, .int .i64 p0.un.2.2.1, v4]), (some 7, b1, [.int .i64 p0.un.1, .int .i64 p0.un.2.1, .int .i64 p0.un.2.2.1, v1])] []) (fun ch a d v w h => by cases d <;> exact h) MO (by kernel_rfl) F (fun w F => ⟨_, _, F, (all_cons (fun _ => (.head _)) (all_cons (fun _ => (.tail _ (.tail _ (.head _)))) Ag)), Ag⟩) fun w F => ?_
   refine Bo (R := []) W Aa Aa (yC fun M Z hN hZ => Ap Kw Aa Aa Aa SP W Aa 3 Aa) Aa Aa fun a W => ?_
   refine Bo (R := [9]) W Aa Aa (yC fun M Z hN hZ => CF (cs := (M6 p0 v4)) (v := v4) W Aa (hN ((some 9), b3, (M6 p0 v4)) (.head _) Aa) SP Aa) (by kernel_rfl) Aa fun a W => ?_
   refine Bo (R := []) W Aa Aa (yC fun M Z hN hZ => Ap M9 Aa Aa Aa T9 W Aa 3 Aa) Aa Aa fun a W => ?_
   refine Bo (R := [7, 6, 5]) W Aa Aa (yC fun M Z hN hZ => CF (cs := (M6 p0 v1)) (v := v1) W Aa (hN ((some 7), b1, (M6 p0 v1)) (.tail _ (.head _)) Aa) T9 Aa) (by kernel_rfl) Aa fun a W => ?_
   refine Bo (R := []) W Aa Aa (yC fun M Z hN hZ => An W Aa) Aa Aa fun a W => ?_
   obtain ⟨x4, h3, H⟩ := Ad H
   obtain ⟨v6, h4, h5⟩ := DM h1 h3
   have h6 : KX v6 = [.int .i64 x4.un.1, .int .i64 x4.un.2.1, .int .i64 x4.un.2.2.1, (v6.2.2.2.1)] := congrArg (fun q : Tr24 => ([.int .i64 q.un.1, .int .i64 q.un.2.1, .int .i64 q.un.2.2.1, (v6.2.2.2.1)] : List Value)) h5
   refine Bo (R := []) W Aa Aa (yC fun M Z hN hZ => Av (r := Mi) Ub W Aa Aa (Af h_v1) h4) Aa Aa fun a W => ?_
   refine Bo (R := []) W Aa Aa (yC fun M Z hN hZ => Al (y := Value.agg #[.int .i64 x4.un.1, .int .i64 x4.un.2.1, .int .i64 x4.un.2.2.1, (v6.2.2.2.1)]) (j := 0) (i := x2) (enc := KX) W Aa Aa (Af h_v1) h4 Rs RP (by rw [h6]; rfl)) Aa Aa fun a W => ?_
   refine Dr Aa ?_
   obtain ⟨x5, h7, H⟩ := Ad H
   refine Bv (Ml := []) (Zl := []) (β := Value) (rv := fun x => .agg #[.int .i64 x5.un.1, .int .i64 x5.un.2.1, .int .i64 x5.un.2.2.1, x]) (MM := fun x => []) (ZZ := fun x => [row x 34 CC x5.un.2.2.2]) W F Xu Aa Aa (fun hL => ih _ w ((v6.2.2.2.1)) x4 _ h7 ((BE (Af h_v1) h4 (Ai.snd (Ai.snd (Ai.snd Ai.here))) (congrArg (fun q : Tr24 => q.un.2.2.2) h5)) w F).nx) fun x a w W F => ?_
   obtain ⟨v7, rfl⟩ : ∃ y, y = x := ⟨x, rfl⟩
   have F : Stw ⟨Y, [], w0⟩ (Og b3 p0 v4 b2 b1 v1) [row v7 34 CC x5.un.2.2.2, row v4 34 Kb v5] w := F
   refine Bl (N2 := []) (NZ2 := []) (N3 := [(some 9, b3, [.int .i64 p0.un.1, .int .i64 p0.un.2.1, .int .i64 p0.un.2.2.1, v4]), (some 7, b1, [.int .i64 p0.un.1, .int .i64 p0.un.2.1, .int .i64 p0.un.2.2.1, v1])]) (NZ3 := []) F Aa Aa (all_cons (fun _ => (.head _)) (all_cons (fun h => Ah (by kernel_rfl) h) Ag)) Ag ?_
   refine Dr Aa ?_
   have F := F.freeze
   refine Ht (z := Value.agg #[.int .i64 0, .int .i64 0, .int .i64 0, .slice none 0 0]) (cs := (Im x5 v7)) CC ([x5] : List Tr34) W F Aa TL U5 Aa Aa Aa (A8 Aa Aa Aa C5) Aa Aa ⟨[Value.int .i64 x5.un.1, Value.int .i64 x5.un.2.1, Value.int .i64 x5.un.2.2.1, v7], _, Aa, (IF.2 ⟨[Value.int .i64 x5.un.1], [Value.int .i64 x5.un.2.1, Value.int .i64 x5.un.2.2.1, v7], Aa, Aa, ⟨[Value.int .i64 x5.un.2.1], [Value.int .i64 x5.un.2.2.1, v7], Aa, Aa, ⟨[Value.int .i64 x5.un.2.2.1], [v7], Aa, Aa, ⟨_, Aa, (F.item (i := 0) Aa)⟩⟩⟩⟩), Aa⟩ fun v8 a w W F => ?_
   refine Bl (N2 := []) (NZ2 := []) (N3 := [(some 9, b3, [.int .i64 p0.un.1, .int .i64 p0.un.2.1, .int .i64 p0.un.2.2.1, v4]), (some 7, b1, [.int .i64 p0.un.1, .int .i64 p0.un.2.1, .int .i64 p0.un.2.2.1, v1])]) (NZ3 := []) F Aa Aa (all_cons (fun _ => (.head _)) (all_cons (fun h => Ah (by kernel_rfl) h) Ag)) Ag ?_
   refine Dr Aa ?_
   have F := F.frontZ (i := 2) Aa Aa
   have F := F.hideR CG h2
   obtain ⟨x6, h8, H⟩ := Ad H
   refine HL (r := CC) (i := 0) W F Aa TL Aa Aa Aa Aa (Jj F 1 Aa) h8 Aa fun v9 a w W F => ?_
   have F : Stw ⟨Y, [], w0⟩ (Og b3 p0 v4 b2 b1 v1) [row v9 34 CC x6, row v8 34 CC ([x5] : List Tr34), Ef v7 CC x5.un.2.2.2] w := F
   refine Bl (N2 := []) (NZ2 := []) (N3 := [(some 9, b3, [.int .i64 p0.un.1, .int .i64 p0.un.2.1, .int .i64 p0.un.2.2.1, v4]), (some 7, b1, [.int .i64 p0.un.1, .int .i64 p0.un.2.1, .int .i64 p0.un.2.2.1, v1])]) (NZ3 := []) F Aa Aa (all_cons (fun h => Ah (by kernel_rfl) h) (all_cons (fun h => Ah (by kernel_rfl) h) Ag)) Ag ?_
   refine Bo (R := []) W Aa Aa (yC fun M Z hN hZ => Ap Kw Aa Aa Aa SP W Aa 3 Aa) Aa Aa fun a W => ?_
   refine Dr Aa ?_
   refine LA (M' := (Og b3 p0 v9 b2 b1 v1)) 0 W F Aa Aa Aa SP (F.one (k := 0) Aa) Aa Aa fun w F => ?_
   refine Bl (N2 := []) (NZ2 := []) (N3 := [(some 9, b3, [.int .i64 p0.un.1, .int .i64 p0.un.2.1, .int .i64 p0.un.2.2.1, v4]), (some 7, b1, [.int .i64 p0.un.1, .int .i64 p0.un.2.1, .int .i64 p0.un.2.2.1, v1])]) (NZ3 := []) F Aa Aa (all_cons (fun h => Ah (by kernel_rfl) h) (all_cons (fun h => Ah (by kernel_rfl) h) Ag)) Ag ?_
   refine Fw (AG ?_)
   refine vn tk 5 W F fun a w W F => ?_
   refine Ac ?_
   have F := F.frontM (i := 2) Aa Aa
   have F := F.frontM (i := 2) Aa Aa
   have F := F.frontM (i := 2) Aa Aa
   have F := F.sub (M' := (Og b3 p0 v9 b2 b1 v1)) (Z' := [row v9 34 CC x6]) (List.Sublist.refl _) (List.Sublist.cons_cons _ (List.nil_sublist _))
   exact ⟨_, H, (v9), W.ra Aa, F⟩
  refine Bu ?_
  iterate 2 refine BL ?_
  refine Bp (Ac ?_)
  have F := F.frontM (i := 2) Aa Aa
  have F := F.frontM (i := 2) Aa Aa
  have F := F.frontM (i := 2) Aa Aa
  have H := L2 _ H
  exact ⟨_, (v4), H, W.ra Aa, F⟩
 rintro a w ⟨x1, v3, hj, W, F⟩
 have hj := AA hj
 subst hj
 have H := K1
 clear G1 K1
 refine Fo tk 3 [0] W F (ai fun a w W F => ?_)
 refine Ed 1 W F Aa Aa Aa L6 Aa Aa (Ae Aa (Ae Aa (Ae Aa (Ae (F.one (k := 0) Aa) Df)))) fun w F => ?_
 refine Cl tk 2 W F fun a w W F => ?_
 refine Ak ?_
 have H := AA H
 subst H
 refine Au (.inl Aa) W F Aa (Ig 1 W Aa Aa L6 Aa) ?_
 have F := F.sub (M' := []) (Z' := [row v3 34 CC x1]) (List.nil_sublist _) (List.Sublist.refl _)
 exact ⟨(v3), Aa, F⟩
theorem Q4 : ∀ (n : Nat) (Y : Nat → Prop) (w0 : World) (v1 : Value) (p0 : Tr24) (r : Tr34) (H : D1 n p0 = some r) (h_v1 : Sl w0 (NX []) DO v1 p0.un.2.2.2), Calls Tryz.prog 28 #[.agg #[.int .i64 p0.un.1, .int .i64 p0.un.2.1, .int .i64 p0.un.2.2.1, v1]] w0 fun e w' => ∃ x : Value, e = .returned (.agg #[.int .i64 r.un.1, .int .i64 r.un.2.1, .int .i64 r.un.2.2.1, x]) ∧ Stw ⟨Y, [], w0⟩ [] [row (x) 34 CC r.un.2.2.2] w' := by
  intro n
  induction n with
  | zero => intro Y w0 v1 p0 r H; exact nomatch H
  | succ n ih => intro Y w0 v1 p0 r H h_v1; exact Pw (D1 n) ih Y w0 v1 p0 r H h_v1
theorem N7 (Y : Nat → Prop) (w0 : World) (v1 : Value) (p0 : Tr24) (r : Tr34) (H : Nl p0 = some r) (h_v1 : Sl w0 (NX []) DO v1 p0.un.2.2.2) :
    Calls Tryz.prog 28 #[.agg #[.int .i64 p0.un.1, .int .i64 p0.un.2.1, .int .i64 p0.un.2.2.1, v1]] w0 fun e w' => ∃ x : Value, e = .returned (.agg #[.int .i64 r.un.1, .int .i64 r.un.2.1, .int .i64 r.un.2.2.1, x]) ∧ Stw ⟨Y, [], w0⟩ [] [row (x) 34 CC r.un.2.2.2] w' := by
  obtain ⟨n, H⟩ := CR H
  exact Q4 n Y w0 v1 p0 r H h_v1
theorem H8 : Has Tryz.prog 8 := CJ Tryz.func8
abbrev Wq (a0 : Nat) (a1 : Tr27) (a2 : Tr34) (a3 : Value) (a4 : Nat) (a5 : Nat) (a6 : Value) (a7 : Value) : List (Nat × List Value) := [(a0, [.int .i64 a1.un.1, .int .i64 a2.un.1, .int .i64 a2.un.2.1, .int .i64 a2.un.2.2.1, a3, .int .i64 a1.un.2.2.1, .int .i64 a1.un.2.2.2.1, .slice none 0 0]), (a4, [.int .i64 0, .int .i64 0, .int .i64 0, .int .i64 0, .slice none 0 0, .int .i64 0, .int .i64 0, .slice none 0 0]), (a5, [.int .i64 a1.un.1, .int .i64 a1.un.2.1.un.1, .int .i64 a1.un.2.1.un.2.1, .int .i64 a1.un.2.1.un.2.2.1, a6, .int .i64 a1.un.2.2.1, .int .i64 a1.un.2.2.2.1, a7])]
abbrev Wp (a0 : Nat) (a1 : Nat) (a2 : Tr27) (a3 : Value) (a4 : Value) : List (Nat × List Value) := [(a0, [.int .i64 0, .int .i64 0, .int .i64 0, .int .i64 0, .slice none 0 0, .int .i64 0, .int .i64 0, .slice none 0 0]), (a1, [.int .i64 a2.un.1, .int .i64 a2.un.2.1.un.1, .int .i64 a2.un.2.1.un.2.1, .int .i64 a2.un.2.1.un.2.2.1, a3, .int .i64 a2.un.2.2.1, .int .i64 a2.un.2.2.2.1, a4])]
abbrev Wx (a0 : Nat) (a1 : Nat) (a2 : Nat) (a3 : Tr27) (a4 : Value) (a5 : Value) : List (Nat × List Value) := [(a0, [.int .i64 0, .int .i64 0, .int .i64 0, .int .i64 0, .slice none 0 0, .int .i64 0, .int .i64 0, .slice none 0 0]), (a1, [.int .i64 0, .int .i64 0, .int .i64 0, .int .i64 0, .slice none 0 0, .int .i64 0, .int .i64 0, .slice none 0 0]), (a2, [.int .i64 a3.un.1, .int .i64 a3.un.2.1.un.1, .int .i64 a3.un.2.1.un.2.1, .int .i64 a3.un.2.1.un.2.2.1, a4, .int .i64 a3.un.2.2.1, .int .i64 a3.un.2.2.2.1, a5])]
abbrev N9 (a0 : Nat) (a1 : Tr27) (a2 : Tr34) (a3 : Value) (a4 : Value) (a5 : Nat) (a6 : Nat) (a7 : Value) (a8 : Value) : List (Nat × List Value) := [(a0, [.int .i64 a1.un.1, .int .i64 a2.un.1, .int .i64 a2.un.2.1, .int .i64 a2.un.2.2.1, a3, .int .i64 a1.un.2.2.1, .int .i64 a1.un.2.2.2.1, a4]), (a5, [.int .i64 0, .int .i64 0, .int .i64 0, .int .i64 0, .slice none 0 0, .int .i64 0, .int .i64 0, .slice none 0 0]), (a6, [.int .i64 a1.un.1, .int .i64 a1.un.2.1.un.1, .int .i64 a1.un.2.1.un.2.1, .int .i64 a1.un.2.1.un.2.2.1, a7, .int .i64 a1.un.2.2.1, .int .i64 a1.un.2.2.2.1, a8])]
abbrev UO (a0 : Tr27) (a1 : Tr34) (a2 : Value) (a3 : Value) : List Value := [.int .i64 a0.un.1, .int .i64 a1.un.1, .int .i64 a1.un.2.1, .int .i64 a1.un.2.2.1, a2, .int .i64 a0.un.2.2.1, .int .i64 a0.un.2.2.2.1, a3]
noncomputable def DX (fRec : Tr27 → Option Tr37) (p0 : Tr27) : (Int × List Tr37) → Option ((Int × List Tr37) ⊕ (List Tr37))
  | (x3, x4) => (if x3 < (p0.un.2.2.2.2.length : Int) then (ix p0.un.2.2.2.2 x3).bind fun x5 => (fRec (Tr27.of (x5.un.1, Tr24.of (x5.un.2.1.un.1, x5.un.2.1.un.2.1, x5.un.2.1.un.2.2.1, x5.un.2.1.un.2.2.2), x5.un.2.2.1, x5.un.2.2.2.1, x5.un.2.2.2.2))).bind fun x6 => (HG x4 ([Tr37.of (x6.un.1, Tr34.of (x6.un.2.1.un.1, x6.un.2.1.un.2.1, x6.un.2.1.un.2.2.1, x6.un.2.1.un.2.2.2), x6.un.2.2.1, x6.un.2.2.2.1, x6.un.2.2.2.2)] : List Tr37)).bind fun x7 => some (.inl (AO (x3 + 1), x7)) else some (.inr x4))
noncomputable def EQ (fRec : Tr27 → Option Tr37) (p0 : Tr27) : Option Tr37 := (Nl (Tr24.of (p0.un.2.1.un.1, p0.un.2.1.un.2.1, p0.un.2.1.un.2.2.1, p0.un.2.1.un.2.2.2))).bind fun x1 => (AW (DX fRec p0) (0, [])).bind fun x2 => some (Tr37.of (p0.un.1, x1, p0.un.2.2.1, p0.un.2.2.2.1, x2))
noncomputable def EA : Nat → Tr27 → Option Tr37
  | 0 => fun _ => none
  | n + 1 => EQ (EA n)
noncomputable def NQ (p0 : Tr27) : Option Tr37 := GL fun n => EA n p0
theorem PJ (fRec : Tr27 → Option Tr37) (ih : ∀ (Y : Nat → Prop) (w0 : World) (v1 : Value) (v2 : Value) (p0 : Tr27) (r : Tr37) (H : fRec p0 = some r) (h_v1 : Sl w0 (NX []) DO v1 p0.un.2.1.un.2.2.2) (h_v2 : Sl w0 (NX []) GN v2 p0.un.2.2.2.2), Calls Tryz.prog 8 #[.agg #[.int .i64 p0.un.1, .int .i64 p0.un.2.1.un.1, .int .i64 p0.un.2.1.un.2.1, .int .i64 p0.un.2.1.un.2.2.1, v1, .int .i64 p0.un.2.2.1, .int .i64 p0.un.2.2.2.1, v2]] w0 fun e w' => ∃ x : Value × Value, e = .returned (.agg #[.int .i64 r.un.1, .int .i64 r.un.2.1.un.1, .int .i64 r.un.2.1.un.2.1, .int .i64 r.un.2.1.un.2.2.1, x.1, .int .i64 r.un.2.2.1, .int .i64 r.un.2.2.2.1, x.2]) ∧ Stw ⟨Y, [], w0⟩ [] [row (x.1) 34 CC r.un.2.1.un.2.2.2, row (x.2) 37 De r.un.2.2.2.2] w') (Y : Nat → Prop) (w0 : World) (v1 : Value) (v2 : Value) (p0 : Tr27) (r : Tr37) (H : EQ fRec p0 = some r) (h_v1 : Sl w0 (NX []) DO v1 p0.un.2.1.un.2.2.2) (h_v2 : Sl w0 (NX []) GN v2 p0.un.2.2.2.2) :
    Calls Tryz.prog 8 #[.agg #[.int .i64 p0.un.1, .int .i64 p0.un.2.1.un.1, .int .i64 p0.un.2.1.un.2.1, .int .i64 p0.un.2.1.un.2.2.1, v1, .int .i64 p0.un.2.2.1, .int .i64 p0.un.2.2.2.1, v2]] w0 fun e w' => ∃ x : Value × Value, e = .returned (.agg #[.int .i64 r.un.1, .int .i64 r.un.2.1.un.1, .int .i64 r.un.2.1.un.2.1, .int .i64 r.un.2.1.un.2.2.1, x.1, .int .i64 r.un.2.2.1, .int .i64 r.un.2.2.2.1, x.2]) ∧ Stw ⟨Y, [], w0⟩ [] [row (x.1) 34 CC r.un.2.1.un.2.2.2, row (x.2) 37 De r.un.2.2.2.2] w' := by
 refine enter Tryz.func8 Aa Tryz.ntmps8 Aa fun a W => ?_
 have F := Stw.start Y w0
 obtain ⟨v3, h1, h_v1⟩ := h_v1.ex EJ
 obtain ⟨v4, h2, h_v2⟩ := h_v2.ex Is
 unfold EQ at H
 refine vc tk 2 W F fun a w W F => ?_
 refine CY (cs := (Fv p0 v1 v2)) W F Aa Aa Aa fun b1 a w W F => ?_
 refine B9 (cs := (F6)) W F Aa Mc Aa fun b2 a w W F => ?_
 refine Cl tk 3 W F fun a w W F => ?_
 obtain ⟨x1, h3, H⟩ := Ad H
 refine RT (fun a w => ∃ b3 : Nat, ∃ v5 : Value, Fr 34 [] [(0, .agg #[.int .i64 p0.un.1, .int .i64 p0.un.2.1.un.1, .int .i64 p0.un.2.1.un.2.1, .int .i64 p0.un.2.1.un.2.2.1, v1, .int .i64 p0.un.2.2.1, .int .i64 p0.un.2.2.2.1, v2]), (1, .pointer (some ⟨b1, 0, none⟩)), (2, .pointer (some ⟨b2, 0, none⟩)), (3, .pointer (some ⟨b3, 0, none⟩)), (5, .pointer (some ⟨b1, 0, none⟩)), (6, .int .i64 p0.un.1), (7, .pointer (some ⟨b1, 1, none⟩)), (8, .agg #[.int .i64 p0.un.2.1.un.1, .int .i64 p0.un.2.1.un.2.1, .int .i64 p0.un.2.1.un.2.2.1, v1]), (9, .agg #[.int .i64 x1.un.1, .int .i64 x1.un.2.1, .int .i64 x1.un.2.2.1, v5]), (10, .pointer (some ⟨b1, 5, none⟩)), (11, .int .i64 p0.un.2.2.1), (12, .pointer (some ⟨b1, 6, none⟩)), (13, .int .i64 p0.un.2.2.2.1), (14, .agg #[.int .i64 p0.un.1, .int .i64 x1.un.1, .int .i64 x1.un.2.1, .int .i64 x1.un.2.2.1, v5, .int .i64 p0.un.2.2.1, .int .i64 p0.un.2.2.2.1, .slice none 0 0])] a ∧ Stw ⟨Y, [], w0⟩ (Wq b3 p0 x1 v5 b2 b1 v1 v2) [row v5 34 CC x1.un.2.2.2] w) ?_ ?_
 ·
  refine Qg (PT.st 0 (PT.st 1 (PT.st 2 (PT.st 3 (PT.st 5 (PT.st 6 (PT.st 7 (PT.st 8 (PT.alt 4 (PT.st 9 (PT.alt 10 (PT.alt 11 PT.done PT.stop) PT.stop)) (PT.alt 10 (PT.alt 4 (PT.st 9 (PT.alt 11 PT.done PT.stop)) PT.stop) PT.stop)))))))))) (CN ⟨Y, [], w0⟩ [(some 11, b1, [.int .i64 p0.un.1, .int .i64 p0.un.2.1.un.1, .int .i64 p0.un.2.1.un.2.1, .int .i64 p0.un.2.1.un.2.2.1, v1, .int .i64 p0.un.2.2.1, .int .i64 p0.un.2.2.2.1, v2]), (some 4, b1, [.int .i64 p0.un.1, .int .i64 p0.un.2.1.un.1, .int .i64 p0.un.2.1.un.2.1, .int .i64 p0.un.2.1.un.2.2.1, v1, .int .i64 p0.un.2.2.1, .int .i64 p0.un.2.2.2.1, v2])] []) (fun ch a d v w h => by cases d <;> exact h) MO (by kernel_rfl) F (fun w F => ⟨_, _, F, (all_cons (fun _ => (.tail _ (.head _))) (all_cons (fun _ => (.tail _ (.head _))) Ag)), Ag⟩) fun w F => ?_
  refine IM (R := []) W Aa Aa (yC fun M Z hN hZ => Ap Lu Aa Aa Aa T3 W Aa 0 Aa) Aa Aa fun a W => ?_
  refine IM (R := [11]) W Aa Aa (yC fun M Z hN hZ => CF (cs := (Fv p0 v1 v2)) (v := Value.int .i64 p0.un.1) W Aa (hN ((some 11), b1, (Fv p0 v1 v2)) (.head _) Aa) T3 Aa) (by kernel_rfl) Aa fun a W => ?_
  refine IM (R := []) W Aa Aa (yC fun M Z hN hZ => Ap Lu Aa Aa Aa RP W Aa 1 Aa) Aa Aa fun a W => ?_
  refine IM (R := [4]) W Aa Aa (yC fun M Z hN hZ => CF (cs := (Fv p0 v1 v2)) (v := Value.agg #[.int .i64 p0.un.2.1.un.1, .int .i64 p0.un.2.1.un.2.1, .int .i64 p0.un.2.1.un.2.2.1, v1]) W Aa (hN ((some 4), b1, (Fv p0 v1 v2)) (.tail _ (.head _)) Aa) RP Aa) (by kernel_rfl) Aa fun a W => ?_
  refine IM (R := []) W Aa Aa (yC fun M Z hN hZ => Ap Lu Aa Aa Aa T3 W Aa 5 Aa) Aa Aa fun a W => ?_
  refine IM (R := [11]) W Aa Aa (yC fun M Z hN hZ => CF (cs := (Fv p0 v1 v2)) (v := Value.int .i64 p0.un.2.2.1) W Aa (hN ((some 11), b1, (Fv p0 v1 v2)) (.head _) Aa) T3 Aa) (by kernel_rfl) Aa fun a W => ?_
  refine IM (R := []) W Aa Aa (yC fun M Z hN hZ => Ap Lu Aa Aa Aa T3 W Aa 6 Aa) Aa Aa fun a W => ?_
  refine IM (R := [11]) W Aa Aa (yC fun M Z hN hZ => CF (cs := (Fv p0 v1 v2)) (v := Value.int .i64 p0.un.2.2.2.1) W Aa (hN ((some 11), b1, (Fv p0 v1 v2)) (.head _) Aa) T3 Aa) (by kernel_rfl) Aa fun a W => ?_
  refine Tm Aa ?_ ?_
  ·
   refine Bv (Ml := []) (Zl := []) (β := Value) (rv := fun x => .agg #[.int .i64 x1.un.1, .int .i64 x1.un.2.1, .int .i64 x1.un.2.2.1, x]) (MM := fun x => []) (ZZ := fun x => [row x 34 CC x1.un.2.2.2]) W F Xu Aa Aa (fun hL => N7 _ w (v1) (Tr24.of (p0.un.2.1.un.1, p0.un.2.1.un.2.1, p0.un.2.1.un.2.2.1, p0.un.2.1.un.2.2.2)) _ h3 ((Aq EJ h1 (Af h_v1)) w F).nx) fun x a w W F => ?_
   obtain ⟨v5, rfl⟩ : ∃ y, y = x := ⟨x, rfl⟩
   have F : Stw ⟨Y, [], w0⟩ (Wp b2 b1 p0 v1 v2) [row v5 34 CC x1.un.2.2.2] w := F
   refine Gb (N2 := []) (NZ2 := []) (N3 := [(some 11, b1, [.int .i64 p0.un.1, .int .i64 p0.un.2.1.un.1, .int .i64 p0.un.2.1.un.2.1, .int .i64 p0.un.2.1.un.2.2.1, v1, .int .i64 p0.un.2.2.1, .int .i64 p0.un.2.2.2.1, v2]), (some 4, b1, [.int .i64 p0.un.1, .int .i64 p0.un.2.1.un.1, .int .i64 p0.un.2.1.un.2.1, .int .i64 p0.un.2.1.un.2.2.1, v1, .int .i64 p0.un.2.2.1, .int .i64 p0.un.2.2.2.1, v2])]) (NZ3 := []) F Aa Aa (all_cons (fun _ => (.tail _ (.head _))) (all_cons (fun h => Ah (by kernel_rfl) h) Ag)) Ag ?_
   refine IM (R := []) W Aa Aa (yC fun M Z hN hZ => CB (v := Value.agg #[.int .i64 p0.un.1, .int .i64 x1.un.1, .int .i64 x1.un.2.1, .int .i64 x1.un.2.2.1, v5, .int .i64 p0.un.2.2.1, .int .i64 p0.un.2.2.2.1, .slice none 0 0]) Q8 W Aa (A8 Aa Aa Aa (A8 Aa Aa Aa (A8 Aa Aa Aa (A8 Aa Aa Aa C5)))) Aa) Aa Aa fun a W => ?_
   refine MG Aa ?_
   refine B9 (cs := (F6)) W F Aa Mc Aa fun b3 a w W F => ?_
   refine Gb (N2 := []) (NZ2 := []) (N3 := [(some 11, b1, [.int .i64 p0.un.1, .int .i64 p0.un.2.1.un.1, .int .i64 p0.un.2.1.un.2.1, .int .i64 p0.un.2.1.un.2.2.1, v1, .int .i64 p0.un.2.2.1, .int .i64 p0.un.2.2.2.1, v2]), (some 4, b1, [.int .i64 p0.un.1, .int .i64 p0.un.2.1.un.1, .int .i64 p0.un.2.1.un.2.1, .int .i64 p0.un.2.1.un.2.2.1, v1, .int .i64 p0.un.2.2.1, .int .i64 p0.un.2.2.2.1, v2])]) (NZ3 := []) F Aa Aa (all_cons (fun _ => (.tail _ (.tail _ (.head _)))) (all_cons (fun h => Ah (by kernel_rfl) h) Ag)) Ag ?_
   refine MG Aa ?_
   refine Ed 0 W F Aa Aa Aa II Aa Aa (Ae Aa (Ae Aa (Ae Aa (Ae Aa (Ae (F.one (k := 0) Aa) (Ae Aa (Ae Aa (Ae Aa Df)))))))) fun w F => ?_
   refine Gb (N2 := []) (NZ2 := []) (N3 := [(some 11, b1, [.int .i64 p0.un.1, .int .i64 p0.un.2.1.un.1, .int .i64 p0.un.2.1.un.2.1, .int .i64 p0.un.2.1.un.2.2.1, v1, .int .i64 p0.un.2.2.1, .int .i64 p0.un.2.2.2.1, v2]), (some 4, b1, [.int .i64 p0.un.1, .int .i64 p0.un.2.1.un.1, .int .i64 p0.un.2.1.un.2.1, .int .i64 p0.un.2.1.un.2.2.1, v1, .int .i64 p0.un.2.2.1, .int .i64 p0.un.2.2.2.1, v2])]) (NZ3 := []) F Aa Aa (all_cons (fun h => Ah (by kernel_rfl) h) (all_cons (fun h => Ah (by kernel_rfl) h) Ag)) Ag ?_
   have F := F.frontM (i := 2) Aa Aa
   have F := F.frontM (i := 2) Aa Aa
   have F := F.frontM (i := 2) Aa Aa
   refine PH ?_
   exact ⟨b3, v5, W.ra Aa, F⟩
  refine Tm Aa ?_ ?_
  ·
   refine B9 (cs := (F6)) W F Aa Mc Aa fun b3 a w W F => ?_
   refine Gb (N2 := []) (NZ2 := []) (N3 := [(some 11, b1, [.int .i64 p0.un.1, .int .i64 p0.un.2.1.un.1, .int .i64 p0.un.2.1.un.2.1, .int .i64 p0.un.2.1.un.2.2.1, v1, .int .i64 p0.un.2.2.1, .int .i64 p0.un.2.2.2.1, v2]), (some 4, b1, [.int .i64 p0.un.1, .int .i64 p0.un.2.1.un.1, .int .i64 p0.un.2.1.un.2.1, .int .i64 p0.un.2.1.un.2.2.1, v1, .int .i64 p0.un.2.2.1, .int .i64 p0.un.2.2.2.1, v2])]) (NZ3 := []) F Aa Aa (all_cons (fun _ => (.tail _ (.tail _ (.head _)))) (all_cons (fun _ => (.tail _ (.tail _ (.head _)))) Ag)) Ag ?_
   refine MG Aa ?_
   refine Bv (Ml := []) (Zl := []) (β := Value) (rv := fun x => .agg #[.int .i64 x1.un.1, .int .i64 x1.un.2.1, .int .i64 x1.un.2.2.1, x]) (MM := fun x => []) (ZZ := fun x => [row x 34 CC x1.un.2.2.2]) W F Xu Aa Aa (fun hL => N7 _ w (v1) (Tr24.of (p0.un.2.1.un.1, p0.un.2.1.un.2.1, p0.un.2.1.un.2.2.1, p0.un.2.1.un.2.2.2)) _ h3 ((Aq EJ h1 (Af h_v1)) w F).nx) fun x a w W F => ?_
   obtain ⟨v5, rfl⟩ : ∃ y, y = x := ⟨x, rfl⟩
   have F : Stw ⟨Y, [], w0⟩ (Wx b3 b2 b1 p0 v1 v2) [row v5 34 CC x1.un.2.2.2] w := F
   refine Gb (N2 := []) (NZ2 := []) (N3 := [(some 11, b1, [.int .i64 p0.un.1, .int .i64 p0.un.2.1.un.1, .int .i64 p0.un.2.1.un.2.1, .int .i64 p0.un.2.1.un.2.2.1, v1, .int .i64 p0.un.2.2.1, .int .i64 p0.un.2.2.2.1, v2]), (some 4, b1, [.int .i64 p0.un.1, .int .i64 p0.un.2.1.un.1, .int .i64 p0.un.2.1.un.2.1, .int .i64 p0.un.2.1.un.2.2.1, v1, .int .i64 p0.un.2.2.1, .int .i64 p0.un.2.2.2.1, v2])]) (NZ3 := []) F Aa Aa (all_cons (fun _ => (.tail _ (.tail _ (.head _)))) (all_cons (fun h => Ah (by kernel_rfl) h) Ag)) Ag ?_
   refine IM (R := []) W Aa Aa (yC fun M Z hN hZ => CB (v := Value.agg #[.int .i64 p0.un.1, .int .i64 x1.un.1, .int .i64 x1.un.2.1, .int .i64 x1.un.2.2.1, v5, .int .i64 p0.un.2.2.1, .int .i64 p0.un.2.2.2.1, .slice none 0 0]) Q8 W Aa (A8 Aa Aa Aa (A8 Aa Aa Aa (A8 Aa Aa Aa (A8 Aa Aa Aa C5)))) Aa) Aa Aa fun a W => ?_
   refine MG Aa ?_
   refine Ed 0 W F Aa Aa Aa II Aa Aa (Ae Aa (Ae Aa (Ae Aa (Ae Aa (Ae (F.one (k := 0) Aa) (Ae Aa (Ae Aa (Ae Aa Df)))))))) fun w F => ?_
   refine Gb (N2 := []) (NZ2 := []) (N3 := [(some 11, b1, [.int .i64 p0.un.1, .int .i64 p0.un.2.1.un.1, .int .i64 p0.un.2.1.un.2.1, .int .i64 p0.un.2.1.un.2.2.1, v1, .int .i64 p0.un.2.2.1, .int .i64 p0.un.2.2.2.1, v2]), (some 4, b1, [.int .i64 p0.un.1, .int .i64 p0.un.2.1.un.1, .int .i64 p0.un.2.1.un.2.1, .int .i64 p0.un.2.1.un.2.2.1, v1, .int .i64 p0.un.2.2.1, .int .i64 p0.un.2.2.2.1, v2])]) (NZ3 := []) F Aa Aa (all_cons (fun h => Ah (by kernel_rfl) h) (all_cons (fun h => Ah (by kernel_rfl) h) Ag)) Ag ?_
   have F := F.frontM (i := 2) Aa Aa
   have F := F.frontM (i := 2) Aa Aa
   have F := F.frontM (i := 2) Aa Aa
   refine PH ?_
   exact ⟨b3, v5, W.ra Aa, F⟩
  exact trivial
 rintro a w ⟨b3, v5, W, F⟩
 refine Ac ?_
 obtain ⟨o1, G1, K1⟩ := Ad H
 refine Ax (fun a w => ∃ x2 : List Tr37, ∃ v6 : Value, some (x2) = some o1 ∧ Fr 34 [] [(2, .pointer (some ⟨b2, 0, none⟩)), (3, .pointer (some ⟨b3, 0, none⟩))] a ∧ Stw ⟨Y, [], w0⟩ (N9 b3 p0 x1 v5 v6 b2 b1 v1 v2) [row v5 34 CC x1.un.2.2.2, row v6 37 De x2] w) ?_ ?_
 ·
  have H := G1
  clear G1 K1
  refine vc tk 6 W F fun a w W F => ?_
  have F := F.nilRow 37 De
  have F := F.frontZ (i := 1) Aa Aa
  have F := F.frontM (i := 2) Aa Aa
  have F := F.frontM (i := 2) Aa Aa
  have F := F.frontM (i := 2) Aa Aa
  refine BF H (fun s a w => ∃ v7 : Value, Fr 34 [] [(1, .pointer (some ⟨b1, 0, none⟩)), (2, .pointer (some ⟨b2, 0, none⟩)), (3, .pointer (some ⟨b3, 0, none⟩)), (4, .int .i64 s.1)] a ∧ Stw ⟨Y, [], w0⟩ (N9 b3 p0 x1 v5 v7 b2 b1 v1 v2) [row v5 34 CC x1.un.2.2.2, row v7 37 De s.2] w) ⟨(Value.slice none 0 0), W.ra Aa, F⟩ fun s o a w H L2 hR => ?_
  obtain ⟨x3, x4⟩ := s
  obtain ⟨v7, W, F⟩ := hR
  have W : Fr 34 [] [(1, .pointer (some ⟨b1, 0, none⟩)), (2, .pointer (some ⟨b2, 0, none⟩)), (3, .pointer (some ⟨b3, 0, none⟩)), (4, .int .i64 x3)] a := W
  have F : Stw ⟨Y, [], w0⟩ (N9 b3 p0 x1 v5 v7 b2 b1 v1 v2) [row v5 34 CC x1.un.2.2.2, row v7 37 De x4] w := F
  rw [DX] at H
  refine Fo tk 6 [2] W F (ai fun a w W F => ?_)
  refine ls W F Aa (CS (r := GN) (l := p0.un.2.2.2.2) SM Aa W Aa (Aq Is h2 (Af h_v2))).q fun a w W F => ?_
  refine Cl tk 3 W F fun a w W F => ?_
  refine BJ W Aa H (fun W H => ?_) fun W H => ?_
  ·
   refine FL tk 4 W F fun a w W F => ?_
   obtain ⟨v8, h4, F⟩ := F.exR CG
   have F := F.frontZ (i := 1) Aa Aa
   obtain ⟨v9, h5, F⟩ := F.exR EE
   refine D6 [(true, 0), (true, 1), (true, 2), (true, 3), (true, 4), (true, 5), (true, 6), (false, 7), (false, 8), (false, 9), (true, 10), (false, 11)] (CN ⟨Y, [], w0⟩ [(some 9, b3, [.int .i64 p0.un.1, .int .i64 x1.un.1, .int .i64 x1.un.2.1, .int .i64 x1.un.2.2.1, v5, .int .i64 p0.un.2.2.1, .int .i64 p0.un.2.2.2.1, v7]), (some 7, b1, [.int .i64 p0.un.1, .int .i64 p0.un.2.1.un.1, .int .i64 p0.un.2.1.un.2.1, .int .i64 p0.un.2.1.un.2.2.1, v1, .int .i64 p0.un.2.2.1, .int .i64 p0.un.2.2.2.1, v2])] []) (fun ch a d v w h => by cases d <;> exact h) MO (by kernel_rfl) F (fun w F => ⟨_, _, F, (all_cons (fun _ => (.head _)) (all_cons (fun _ => (.tail _ (.tail _ (.head _)))) Ag)), Ag⟩) fun w F => ?_
   refine Bo (R := []) W Aa Aa (yC fun M Z hN hZ => Ap I2 Aa Aa Aa T8 W Aa 7 Aa) Aa Aa fun a W => ?_
   refine Bo (R := [9]) W Aa Aa (yC fun M Z hN hZ => CF (cs := (UO p0 x1 v5 v7)) (v := v7) W Aa (hN ((some 9), b3, (UO p0 x1 v5 v7)) (.head _) Aa) T8 Aa) (by kernel_rfl) Aa fun a W => ?_
   refine Bo (R := []) W Aa Aa (yC fun M Z hN hZ => Ap Lu Aa Aa Aa VT W Aa 7 Aa) Aa Aa fun a W => ?_
   refine Bo (R := [7, 6, 5]) W Aa Aa (yC fun M Z hN hZ => CF (cs := (Fv p0 v1 v2)) (v := v2) W Aa (hN ((some 7), b1, (Fv p0 v1 v2)) (.tail _ (.head _)) Aa) VT Aa) (by kernel_rfl) Aa fun a W => ?_
   refine Bo (R := []) W Aa Aa (yC fun M Z hN hZ => An W Aa) Aa Aa fun a W => ?_
   obtain ⟨x5, h6, H⟩ := Ad H
   obtain ⟨v10, h7, h8⟩ := DM h2 h6
   have h9 : Mj v10 = [.int .i64 x5.un.1, .int .i64 x5.un.2.1.un.1, .int .i64 x5.un.2.1.un.2.1, .int .i64 x5.un.2.1.un.2.2.1, (v10.2.1.2.2.2.1), .int .i64 x5.un.2.2.1, .int .i64 x5.un.2.2.2.1, (v10.2.2.2.2.1)] := congrArg (fun q : Tr27 => ([.int .i64 q.un.1, .int .i64 q.un.2.1.un.1, .int .i64 q.un.2.1.un.2.1, .int .i64 q.un.2.1.un.2.2.1, (v10.2.1.2.2.2.1), .int .i64 q.un.2.2.1, .int .i64 q.un.2.2.2.1, (v10.2.2.2.2.1)] : List Value)) h8
   refine Bo (R := []) W Aa Aa (yC fun M Z hN hZ => Av (r := PA) UJ W Aa Aa (Af h_v2) h7) Aa Aa fun a W => ?_
   refine Bo (R := []) W Aa Aa (yC fun M Z hN hZ => Al (y := Value.agg #[.int .i64 x5.un.1, .int .i64 x5.un.2.1.un.1, .int .i64 x5.un.2.1.un.2.1, .int .i64 x5.un.2.1.un.2.2.1, (v10.2.1.2.2.2.1), .int .i64 x5.un.2.2.1, .int .i64 x5.un.2.2.2.1, (v10.2.2.2.2.1)]) (j := 0) (i := x3) (enc := Mj) W Aa Aa (Af h_v2) h7 Su Sk (by rw [h9]; rfl)) Aa Aa fun a W => ?_
   refine Dr Aa ?_
   obtain ⟨x6, h10, H⟩ := Ad H
   refine Bv (Ml := []) (Zl := []) (β := Value × Value) (rv := fun x => .agg #[.int .i64 x6.un.1, .int .i64 x6.un.2.1.un.1, .int .i64 x6.un.2.1.un.2.1, .int .i64 x6.un.2.1.un.2.2.1, x.1, .int .i64 x6.un.2.2.1, .int .i64 x6.un.2.2.2.1, x.2]) (MM := fun x => []) (ZZ := fun x => [row x.1 34 CC x6.un.2.1.un.2.2.2, row x.2 37 De x6.un.2.2.2.2]) W F H8 Aa Aa (fun hL => ih _ w ((v10.2.1.2.2.2.1)) ((v10.2.2.2.2.1)) (Tr27.of (x5.un.1, Tr24.of (x5.un.2.1.un.1, x5.un.2.1.un.2.1, x5.un.2.1.un.2.2.1, x5.un.2.1.un.2.2.2), x5.un.2.2.1, x5.un.2.2.2.1, x5.un.2.2.2.2)) _ h10 ((BE (Af h_v2) h7 (Ai.snd (Ai.fst (Ai.snd (Ai.snd (Ai.snd Ai.here))))) (congrArg (fun q : Tr27 => q.un.2.1.un.2.2.2) h8)) w F).nx ((BE (Af h_v2) h7 (Ai.snd (Ai.snd (Ai.snd (Ai.snd Ai.here)))) (congrArg (fun q : Tr27 => q.un.2.2.2.2) h8)) w F).nx) fun x a w W F => ?_
   obtain ⟨v11, v12⟩ := x
   have F : Stw ⟨Y, [], w0⟩ (N9 b3 p0 x1 v5 v7 b2 b1 v1 v2) [row v11 34 CC x6.un.2.1.un.2.2.2, row v12 37 De x6.un.2.2.2.2, row v7 37 FW v9, row v5 34 Kb v8] w := F
   refine Bl (N2 := []) (NZ2 := []) (N3 := [(some 9, b3, [.int .i64 p0.un.1, .int .i64 x1.un.1, .int .i64 x1.un.2.1, .int .i64 x1.un.2.2.1, v5, .int .i64 p0.un.2.2.1, .int .i64 p0.un.2.2.2.1, v7]), (some 7, b1, [.int .i64 p0.un.1, .int .i64 p0.un.2.1.un.1, .int .i64 p0.un.2.1.un.2.1, .int .i64 p0.un.2.1.un.2.2.1, v1, .int .i64 p0.un.2.2.1, .int .i64 p0.un.2.2.2.1, v2])]) (NZ3 := []) F Aa Aa (all_cons (fun _ => (.head _)) (all_cons (fun h => Ah (by kernel_rfl) h) Ag)) Ag ?_
   refine Dr Aa ?_
   have F := F.freeze
   have F := F.frontZ (i := 1) Aa Aa
   have F := F.freeze
   refine Ht (z := Value.agg #[.int .i64 0, .int .i64 0, .int .i64 0, .int .i64 0, .slice none 0 0, .int .i64 0, .int .i64 0, .slice none 0 0]) (cs := (CX x6 v11 v12)) De ([Tr37.of (x6.un.1, Tr34.of (x6.un.2.1.un.1, x6.un.2.1.un.2.1, x6.un.2.1.un.2.2.1, x6.un.2.1.un.2.2.2), x6.un.2.2.1, x6.un.2.2.2.1, x6.un.2.2.2.2)] : List Tr37) W F Aa O0 Mc Aa Aa Aa (A8 Aa Aa Aa C5) Aa Aa ⟨[Value.int .i64 x6.un.1, Value.int .i64 x6.un.2.1.un.1, Value.int .i64 x6.un.2.1.un.2.1, Value.int .i64 x6.un.2.1.un.2.2.1, v11, Value.int .i64 x6.un.2.2.1, Value.int .i64 x6.un.2.2.2.1, v12], _, Aa, (IZ.2 ⟨[Value.int .i64 x6.un.1], [Value.int .i64 x6.un.2.1.un.1, Value.int .i64 x6.un.2.1.un.2.1, Value.int .i64 x6.un.2.1.un.2.2.1, v11, Value.int .i64 x6.un.2.2.1, Value.int .i64 x6.un.2.2.2.1, v12], Aa, Aa, ⟨[Value.int .i64 x6.un.2.1.un.1, Value.int .i64 x6.un.2.1.un.2.1, Value.int .i64 x6.un.2.1.un.2.2.1, v11], [Value.int .i64 x6.un.2.2.1, Value.int .i64 x6.un.2.2.2.1, v12], Aa, (IF.2 ⟨[Value.int .i64 x6.un.2.1.un.1], [Value.int .i64 x6.un.2.1.un.2.1, Value.int .i64 x6.un.2.1.un.2.2.1, v11], Aa, Aa, ⟨[Value.int .i64 x6.un.2.1.un.2.1], [Value.int .i64 x6.un.2.1.un.2.2.1, v11], Aa, Aa, ⟨[Value.int .i64 x6.un.2.1.un.2.2.1], [v11], Aa, Aa, ⟨_, Aa, (F.item (i := 1) Aa)⟩⟩⟩⟩), ⟨[Value.int .i64 x6.un.2.2.1], [Value.int .i64 x6.un.2.2.2.1, v12], Aa, Aa, ⟨[Value.int .i64 x6.un.2.2.2.1], [v12], Aa, Aa, ⟨_, Aa, (F.item (i := 0) Aa)⟩⟩⟩⟩⟩), Aa⟩ fun v13 a w W F => ?_
   refine Bl (N2 := []) (NZ2 := []) (N3 := [(some 9, b3, [.int .i64 p0.un.1, .int .i64 x1.un.1, .int .i64 x1.un.2.1, .int .i64 x1.un.2.2.1, v5, .int .i64 p0.un.2.2.1, .int .i64 p0.un.2.2.2.1, v7]), (some 7, b1, [.int .i64 p0.un.1, .int .i64 p0.un.2.1.un.1, .int .i64 p0.un.2.1.un.2.1, .int .i64 p0.un.2.1.un.2.2.1, v1, .int .i64 p0.un.2.2.1, .int .i64 p0.un.2.2.2.1, v2])]) (NZ3 := []) F Aa Aa (all_cons (fun _ => (.head _)) (all_cons (fun h => Ah (by kernel_rfl) h) Ag)) Ag ?_
   refine Dr Aa ?_
   have F := F.frontZ (i := 3) Aa Aa
   have F := F.hideR EE h5
   obtain ⟨x7, h11, H⟩ := Ad H
   refine HL (r := De) (i := 0) W F Aa O0 Aa Aa Aa Aa (Jj F 1 Aa) h11 Aa fun v14 a w W F => ?_
   have F : Stw ⟨Y, [], w0⟩ (N9 b3 p0 x1 v5 v7 b2 b1 v1 v2) [row v14 37 De x7, row v13 37 De ([Tr37.of (x6.un.1, Tr34.of (x6.un.2.1.un.1, x6.un.2.1.un.2.1, x6.un.2.1.un.2.2.1, x6.un.2.1.un.2.2.2), x6.un.2.2.1, x6.un.2.2.2.1, x6.un.2.2.2.2)] : List Tr37), Ef v12 De x6.un.2.2.2.2, Ef v11 CC x6.un.2.1.un.2.2.2, row v5 34 Kb v8] w := F
   refine Bl (N2 := []) (NZ2 := []) (N3 := [(some 9, b3, [.int .i64 p0.un.1, .int .i64 x1.un.1, .int .i64 x1.un.2.1, .int .i64 x1.un.2.2.1, v5, .int .i64 p0.un.2.2.1, .int .i64 p0.un.2.2.2.1, v7]), (some 7, b1, [.int .i64 p0.un.1, .int .i64 p0.un.2.1.un.1, .int .i64 p0.un.2.1.un.2.1, .int .i64 p0.un.2.1.un.2.2.1, v1, .int .i64 p0.un.2.2.1, .int .i64 p0.un.2.2.2.1, v2])]) (NZ3 := []) F Aa Aa (all_cons (fun h => Ah (by kernel_rfl) h) (all_cons (fun h => Ah (by kernel_rfl) h) Ag)) Ag ?_
   refine Bo (R := []) W Aa Aa (yC fun M Z hN hZ => Ap I2 Aa Aa Aa T8 W Aa 7 Aa) Aa Aa fun a W => ?_
   refine Dr Aa ?_
   refine LA (M' := (N9 b3 p0 x1 v5 v14 b2 b1 v1 v2)) 0 W F Aa Aa Aa T8 (F.one (k := 0) Aa) Aa Aa fun w F => ?_
   refine Bl (N2 := []) (NZ2 := []) (N3 := [(some 9, b3, [.int .i64 p0.un.1, .int .i64 x1.un.1, .int .i64 x1.un.2.1, .int .i64 x1.un.2.2.1, v5, .int .i64 p0.un.2.2.1, .int .i64 p0.un.2.2.2.1, v7]), (some 7, b1, [.int .i64 p0.un.1, .int .i64 p0.un.2.1.un.1, .int .i64 p0.un.2.1.un.2.1, .int .i64 p0.un.2.1.un.2.2.1, v1, .int .i64 p0.un.2.2.1, .int .i64 p0.un.2.2.2.1, v2])]) (NZ3 := []) F Aa Aa (all_cons (fun h => Ah (by kernel_rfl) h) (all_cons (fun h => Ah (by kernel_rfl) h) Ag)) Ag ?_
   refine Fw (AG ?_)
   refine vn tk 5 W F fun a w W F => ?_
   refine Ac ?_
   have F := F.frontZ (i := 4) Aa Aa
   have F := F.hideR CG h4
   have F := F.frontZ (i := 1) Aa Aa
   have F := F.frontZ (i := 1) Aa Aa
   have F := F.frontM (i := 2) Aa Aa
   have F := F.frontM (i := 2) Aa Aa
   have F := F.frontM (i := 2) Aa Aa
   have F := F.sub (M' := (N9 b3 p0 x1 v5 v14 b2 b1 v1 v2)) (Z' := [row v5 34 CC x1.un.2.2.2, row v14 37 De x7]) (List.Sublist.refl _) (List.Sublist.cons_cons _ (List.Sublist.cons_cons _ (List.nil_sublist _)))
   exact ⟨_, H, (v14), W.ra Aa, F⟩
  refine Bu ?_
  iterate 2 refine BL ?_
  refine Bp (Ac ?_)
  have F := F.frontZ (i := 1) Aa Aa
  have F := F.frontZ (i := 1) Aa Aa
  have F := F.frontM (i := 2) Aa Aa
  have F := F.frontM (i := 2) Aa Aa
  have F := F.frontM (i := 2) Aa Aa
  have H := L2 _ H
  exact ⟨_, (v7), H, W.ra Aa, F⟩
 rintro a w ⟨x2, v6, hj, W, F⟩
 have hj := AA hj
 subst hj
 have H := K1
 clear G1 K1
 refine Fo tk 3 [0] W F (ai fun a w W F => ?_)
 refine Ed 1 W F Aa Aa Aa II Aa Aa (Ae Aa (Ae Aa (Ae Aa (Ae Aa (Ae (F.one (k := 0) Aa) (Ae Aa (Ae Aa (Ae (F.one (k := 1) Aa) Df)))))))) fun w F => ?_
 refine Cl tk 2 W F fun a w W F => ?_
 refine Ak ?_
 have H := AA H
 subst H
 refine Au (.inl Aa) W F Aa (Ig 1 W Aa Aa II Aa) ?_
 have F := F.frontZ (i := 1) Aa Aa
 have F := F.frontZ (i := 1) Aa Aa
 have F := F.sub (M' := []) (Z' := [row v5 34 CC x1.un.2.2.2, row v6 37 De x2]) (List.nil_sublist _) (List.Sublist.refl _)
 exact ⟨((v5), (v6)), Aa, F⟩
theorem Q0 : ∀ (n : Nat) (Y : Nat → Prop) (w0 : World) (v1 : Value) (v2 : Value) (p0 : Tr27) (r : Tr37) (H : EA n p0 = some r) (h_v1 : Sl w0 (NX []) DO v1 p0.un.2.1.un.2.2.2) (h_v2 : Sl w0 (NX []) GN v2 p0.un.2.2.2.2), Calls Tryz.prog 8 #[.agg #[.int .i64 p0.un.1, .int .i64 p0.un.2.1.un.1, .int .i64 p0.un.2.1.un.2.1, .int .i64 p0.un.2.1.un.2.2.1, v1, .int .i64 p0.un.2.2.1, .int .i64 p0.un.2.2.2.1, v2]] w0 fun e w' => ∃ x : Value × Value, e = .returned (.agg #[.int .i64 r.un.1, .int .i64 r.un.2.1.un.1, .int .i64 r.un.2.1.un.2.1, .int .i64 r.un.2.1.un.2.2.1, x.1, .int .i64 r.un.2.2.1, .int .i64 r.un.2.2.2.1, x.2]) ∧ Stw ⟨Y, [], w0⟩ [] [row (x.1) 34 CC r.un.2.1.un.2.2.2, row (x.2) 37 De r.un.2.2.2.2] w' := by
  intro n
  induction n with
  | zero => intro Y w0 v1 v2 p0 r H; exact nomatch H
  | succ n ih => intro Y w0 v1 v2 p0 r H h_v1 h_v2; exact PJ (EA n) ih Y w0 v1 v2 p0 r H h_v1 h_v2
theorem RF (Y : Nat → Prop) (w0 : World) (v1 : Value) (v2 : Value) (p0 : Tr27) (r : Tr37) (H : NQ p0 = some r) (h_v1 : Sl w0 (NX []) DO v1 p0.un.2.1.un.2.2.2) (h_v2 : Sl w0 (NX []) GN v2 p0.un.2.2.2.2) :
    Calls Tryz.prog 8 #[.agg #[.int .i64 p0.un.1, .int .i64 p0.un.2.1.un.1, .int .i64 p0.un.2.1.un.2.1, .int .i64 p0.un.2.1.un.2.2.1, v1, .int .i64 p0.un.2.2.1, .int .i64 p0.un.2.2.2.1, v2]] w0 fun e w' => ∃ x : Value × Value, e = .returned (.agg #[.int .i64 r.un.1, .int .i64 r.un.2.1.un.1, .int .i64 r.un.2.1.un.2.1, .int .i64 r.un.2.1.un.2.2.1, x.1, .int .i64 r.un.2.2.1, .int .i64 r.un.2.2.2.1, x.2]) ∧ Stw ⟨Y, [], w0⟩ [] [row (x.1) 34 CC r.un.2.1.un.2.2.2, row (x.2) 37 De r.un.2.2.2.2] w' := by
  obtain ⟨n, H⟩ := CR H
  exact Q0 n Y w0 v1 v2 p0 r H h_v1 h_v2
end Go.Proofs.YtpckgggmgijiiaaGreatDoor
