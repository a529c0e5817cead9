/- The functions of layer 29, E5. Conditions: none. -/
import Derived.Test.YtlgjpoapclifbaaDoorcA3
namespace Go.Proofs.YtlgjpoapclifbaaDoor
open Go Go.RowKit
set_option linter.unusedVariables false
set_option linter.unusedSimpArgs false
set_option maxRecDepth 20000
abbrev IE (a0 : Tr28 × Int × Int) (a1 : Value) (a2 : Value) : List Value := [.int .i64 a0.1.un.1, .int .i64 a0.1.un.2.1.un.1, .int .i64 a0.1.un.2.1.un.2.1, .int .i64 a0.1.un.2.1.un.2.2.1, a1, .int .i64 a0.1.un.2.2.1, .int .i64 a0.1.un.2.2.2.1, a2]
abbrev Ts (a0 : Nat) (a1 : Tr28 × Int × Int) (a2 : Value) (a3 : Value) : List (Nat × List Value) := [(a0, [.int .i64 a1.1.un.1, .int .i64 a1.1.un.2.1.un.1, .int .i64 a1.1.un.2.1.un.2.1, .int .i64 a1.1.un.2.1.un.2.2.1, a2, .int .i64 a1.1.un.2.2.1, .int .i64 a1.1.un.2.2.2.1, a3])]
noncomputable def GL  : Option Bool := (DM ([100, 115, 116, 32, 58, 61, 32, 51, 59, 32, 112, 111, 114, 116, 32, 58, 61, 32, 49, 32, 124, 32, 100, 114, 111, 112] : List UInt8)).bind fun x1 => (if x1.2.2 = 0 then (if x1.2.1 = 0 then (FG (Tr28.of (x1.1.un.1, Tr25.of (x1.1.un.2.1.un.1, x1.1.un.2.1.un.2.1, x1.1.un.2.1.un.2.2.1, x1.1.un.2.1.un.2.2.2), x1.1.un.2.2.1, x1.1.un.2.2.2.1, x1.1.un.2.2.2.2))).bind fun x3 => (if x3 = ([40, 100, 115, 116, 32, 58, 61, 32, 51, 59, 32, 112, 111, 114, 116, 32, 58, 61, 32, 49, 41, 32, 124, 32, 100, 114, 111, 112] : List UInt8) then (if x1.1.un.1 = 4 then some (decide ((x1.1.un.2.2.2.2.length : Int) = 2)) else some false) else some false) else some false) else some false).bind fun x2 => some x2
theorem O7 (Y : Nat → Prop) (w0 : World)   (r : Bool) (H : GL  = some r) (hG : Gk [] w0) :
    Calls Tryd.prog 6 #[] w0 fun e w' => e = .returned (.bool r) ∧ Below w0.heap.size w0 w' := by
 refine enter Tryd.func6 Aa Tryd.ntmps6 Aa fun a F => ?_
 have W := Stw.start Y w0
 unfold GL at H
 refine Ak (Ab ?_)
 refine ls F W Aa (Ag F Aa).q fun a w F W => ?_
 refine Ae (Ac (Ak (Ab ?_)))
 obtain ⟨x1, h1, H⟩ := Aq H
 refine A2 (Ml := []) (Zl := []) (M := []) (Z := []) (β := Value × Value) (rv := fun x => .tuple #[.agg #[.int .i64 x1.1.un.1, .int .i64 x1.1.un.2.1.un.1, .int .i64 x1.1.un.2.1.un.2.1, .int .i64 x1.1.un.2.1.un.2.2.1, x.1, .int .i64 x1.1.un.2.2.1, .int .i64 x1.1.un.2.2.2.1, x.2], .int .i64 x1.2.1, .int .i64 x1.2.2]) (MM := fun x => []) (ZZ := fun x => [AU x.1 AR x1.1.un.2.1.un.2.2.2, AU x.2 BD x1.1.un.2.2.2.2]) F W H7 Aa Aa (fun hL => JC _ w ([100, 115, 116, 32, 58, 61, 32, 51, 59, 32, 112, 111, 114, 116, 32, 58, 61, 32, 49, 32, 124, 32, 100, 114, 111, 112] : List UInt8) _ h1) fun x a w F W => ?_
 obtain ⟨v1, v2⟩ := x
 have W : Stw ⟨Y, [], w0⟩ [] [AU v1 AR x1.1.un.2.1.un.2.2.2, AU v2 BD x1.1.un.2.2.2.2] w := W
 refine ls F W Aa (Ah F Aa).q fun a w F W => ?_
 refine ls F W Aa (B3 (v := Value.agg #[.int .i64 x1.1.un.1, .int .i64 x1.1.un.2.1.un.1, .int .i64 x1.1.un.2.1.un.2.1, .int .i64 x1.1.un.2.1.un.2.2.1, v1, .int .i64 x1.1.un.2.2.1, .int .i64 x1.1.un.2.2.2.1, v2]) F Aa Aa).q fun a w F W => ?_
 refine ls F W Aa (B3 (v := Value.int .i64 x1.2.1) F Aa Aa).q fun a w F W => ?_
 refine ls F W Aa (B3 (v := Value.int .i64 x1.2.2) F Aa Aa).q fun a w F W => ?_
 refine Bi (cs := (BM)) F W Aa Lh Aa fun b1 a w F W => ?_
 refine AL (vs := (IE x1 v1 v2)) (M' := (Ts b1 x1 v1 v2)) 0 F W Aa Aa Aa FJ Aa Aa Aa (Ai Aa (Ai Aa (Ai Aa (Ai Aa (Ai (W.oneF (k := 0) Aa) (Ai Aa (Ai Aa (Ai (W.oneF (k := 1) Aa) Bp)))))))) Aa fun w W => ?_
 iterate 2 refine ls F W Aa (Ag F Aa).q fun a w F W => ?_
 refine Ae (Ac ?_)
 obtain ⟨o1, G1, K1⟩ := Aq H
 refine A1 (fun a w => ∃ x2 : Bool, some (x2) = some o1 ∧ Fr 31 [] [(0, .bool x2)] a ∧ Stw ⟨Y, [], w0⟩ (Ts b1 x1 v1 v2) [AU v1 AR x1.1.un.2.1.un.2.2.2, AU v2 BD x1.1.un.2.2.2.2] w) ?_ ?_
 ·
  have H := G1
  clear G1 K1
  refine Ab ?_
  refine ls F W Aa (Ah F Aa).q fun a w F W => ?_
  refine ls F W Aa (Bd F Aa Aa).q fun a w F W => ?_
  refine ls F W Aa (Ah F Aa).q fun a w F W => ?_
  rcases Bool.eq_false_or_eq_true (decide (x1.2.2 = 0)) with hb | hb
  ·
   have H := AW (Bw hb) H
   rw [hb] at F
   clear hb
   refine Au F W (Ad F Aa Aa Aa Aa) Aa (Al Aa) (Ah F Aa).q fun a w F W => ?_
   refine Au F W (Ad F Aa Aa Aa Aa) Aa (Al Aa) (Bd F Aa Aa).q fun a w F W => ?_
   refine ls F W Aa (As F Aa Aa Aa).q fun a w F W => ?_
   refine ls F W Aa (Ah F Aa).q fun a w F W => ?_
   rcases Bool.eq_false_or_eq_true (decide (x1.2.1 = 0)) with hb | hb
   ·
    have H := AW (Bw hb) H
    rw [hb] at F
    clear hb
    refine Au F W (Ad F Aa Aa Aa Aa) Aa (Al Aa) (Av (v := Value.agg #[.int .i64 x1.1.un.1, .int .i64 x1.1.un.2.1.un.1, .int .i64 x1.1.un.2.1.un.2.1, .int .i64 x1.1.un.2.1.un.2.2.1, v1, .int .i64 x1.1.un.2.2.1, .int .i64 x1.1.un.2.2.2.1, v2]) 0 F Aa Aa FJ Aa).q fun a w F W => ?_
    refine Jc (Ad F Aa Aa Aa Aa) ?_
    obtain ⟨x3, h2, H⟩ := Aq H
    refine ls F W Aa (A0 (v := Value.string (bs x3)) F U9 Aa (fun w W => JB any w (v1) (v2) (Tr28.of (x1.1.un.1, Tr25.of (x1.1.un.2.1.un.1, x1.1.un.2.1.un.2.1, x1.1.un.2.1.un.2.2.1, x1.1.un.2.1.un.2.2.2), x1.1.un.2.2.1, x1.1.un.2.2.2.1, x1.1.un.2.2.2.2)) _ h2 (((Jm 0 Aa) : DZ _ _ _ _ _ _) w W).nx (((Jm 1 Aa) : DZ _ _ _ _ _ _) w W).nx (hG.go0 W))) fun a w F W => ?_
    refine Au F W (Ad F Aa Aa Aa Aa) Aa (Al Aa) (Lb (l := x3) (m := ([40, 100, 115, 116, 32, 58, 61, 32, 51, 59, 32, 112, 111, 114, 116, 32, 58, 61, 32, 49, 41, 32, 124, 32, 100, 114, 111, 112] : List UInt8)) F Aa Aa).q fun a w F W => ?_
    refine ls F W Aa (As F Aa Aa Aa).q fun a w F W => ?_
    refine ls F W Aa (Ah F Aa).q fun a w F W => ?_
    rcases Bool.eq_false_or_eq_true (decide (x3 = ([40, 100, 115, 116, 32, 58, 61, 32, 51, 59, 32, 112, 111, 114, 116, 32, 58, 61, 32, 49, 41, 32, 124, 32, 100, 114, 111, 112] : List UInt8))) with hb | hb
    ·
     have H := AW (Bw hb) H
     rw [hb] at F
     clear hb
     refine Au F W (Ad F Aa Aa Aa Aa) Aa (Al Aa) (Aj Hl Aa Aa Aa T3 F Aa 0 Aa).q fun a w F W => ?_
     refine Au F W (Ad F Aa Aa Aa Aa) Aa (Al Aa) (Av (v := Value.int .i64 x1.1.un.1) 0 F Aa Aa T3 Aa).q fun a w F W => ?_
     refine Au F W (Ad F Aa Aa Aa Aa) Aa (Al Aa) (Bd F Aa Aa).q fun a w F W => ?_
     refine ls F W Aa (As F Aa Aa Aa).q fun a w F W => ?_
     refine ls F W Aa (Ah F Aa).q fun a w F W => ?_
     rcases Bool.eq_false_or_eq_true (decide (x1.1.un.1 = 4)) with hb | hb
     ·
      have H := AW (Bw hb) H
      rw [hb] at F
      clear hb
      refine Au F W (Ad F Aa Aa Aa Aa) Aa (Al Aa) (Aj Hl Aa Aa Aa PL F Aa 7 Aa).q fun a w F W => ?_
      refine Au F W (Ad F Aa Aa Aa Aa) Aa (Al Aa) (Av (v := v2) 0 F Aa Aa PL Aa).q fun a w F W => ?_
      refine Au F W (Ad F Aa Aa Aa Aa) Aa (Al Aa) (D7 (r := BD) (l := x1.1.un.2.2.2.2) Rz Aa F Aa (Jm 1 Aa)).q fun a w F W => ?_
      refine Au F W (Ad F Aa Aa Aa Aa) Aa (Al Aa) (Bd F Aa Aa).q fun a w F W => ?_
      refine ls F W Aa (As F Aa Aa Aa).q fun a w F W => ?_
      refine ls F W Aa (Ag F Aa).q fun a w F W => ?_
      refine Ae (Ac ?_)
      have W := W.frontZ (i := 1) Aa Aa
      have W := W.frontZ (i := 1) Aa Aa
      exact ⟨_, H, F.re ⟨rfl, trivial⟩, W⟩
     have H := AY (Bx hb) H
     rw [hb] at F
     clear hb
     iterate 4 refine Cd F Aa Aa Aa Aa Aa Aa Aa fun a F => ?_
     refine ls F W Aa (Ap F Aa Aa Aa).q fun a w F W => ?_
     refine ls F W Aa (Ag F Aa).q fun a w F W => ?_
     refine Ae (Ac ?_)
     have W := W.frontZ (i := 1) Aa Aa
     have W := W.frontZ (i := 1) Aa Aa
     exact ⟨_, H, F.re ⟨rfl, trivial⟩, W⟩
    have H := AY (Bx hb) H
    rw [hb] at F
    clear hb
    iterate 3 refine Cd F Aa Aa Aa Aa Aa Aa Aa fun a F => ?_
    refine ls F W Aa (Ap F Aa Aa Aa).q fun a w F W => ?_
    refine ls F W Aa (Ah F Aa).q fun a w F W => ?_
    iterate 4 refine Cd F Aa Aa Aa Aa Aa Aa Aa fun a F => ?_
    refine ls F W Aa (Ap F Aa Aa Aa).q fun a w F W => ?_
    refine ls F W Aa (Ag F Aa).q fun a w F W => ?_
    refine Ae (Ac ?_)
    have W := W.frontZ (i := 1) Aa Aa
    have W := W.frontZ (i := 1) Aa Aa
    exact ⟨_, H, F.re ⟨rfl, trivial⟩, W⟩
   have H := AY (Bx hb) H
   rw [hb] at F
   clear hb
   iterate 3 refine Cd F Aa Aa Aa Aa Aa Aa Aa fun a F => ?_
   refine ls F W Aa (Ap F Aa Aa Aa).q fun a w F W => ?_
   refine ls F W Aa (Ah F Aa).q fun a w F W => ?_
   iterate 3 refine Cd F Aa Aa Aa Aa Aa Aa Aa fun a F => ?_
   refine ls F W Aa (Ap F Aa Aa Aa).q fun a w F W => ?_
   refine ls F W Aa (Ah F Aa).q fun a w F W => ?_
   iterate 4 refine Cd F Aa Aa Aa Aa Aa Aa Aa fun a F => ?_
   refine ls F W Aa (Ap F Aa Aa Aa).q fun a w F W => ?_
   refine ls F W Aa (Ag F Aa).q fun a w F W => ?_
   refine Ae (Ac ?_)
   have W := W.frontZ (i := 1) Aa Aa
   have W := W.frontZ (i := 1) Aa Aa
   exact ⟨_, H, F.re ⟨rfl, trivial⟩, W⟩
  have H := AY (Bx hb) H
  rw [hb] at F
  clear hb
  iterate 2 refine Cd F Aa Aa Aa Aa Aa Aa Aa fun a F => ?_
  refine ls F W Aa (Ap F Aa Aa Aa).q fun a w F W => ?_
  refine ls F W Aa (Ah F Aa).q fun a w F W => ?_
  iterate 3 refine Cd F Aa Aa Aa Aa Aa Aa Aa fun a F => ?_
  refine ls F W Aa (Ap F Aa Aa Aa).q fun a w F W => ?_
  refine ls F W Aa (Ah F Aa).q fun a w F W => ?_
  iterate 3 refine Cd F Aa Aa Aa Aa Aa Aa Aa fun a F => ?_
  refine ls F W Aa (Ap F Aa Aa Aa).q fun a w F W => ?_
  refine ls F W Aa (Ah F Aa).q fun a w F W => ?_
  iterate 4 refine Cd F Aa Aa Aa Aa Aa Aa Aa fun a F => ?_
  refine ls F W Aa (Ap F Aa Aa Aa).q fun a w F W => ?_
  refine ls F W Aa (Ag F Aa).q fun a w F W => ?_
  refine Ae (Ac ?_)
  have W := W.frontZ (i := 1) Aa Aa
  have W := W.frontZ (i := 1) Aa Aa
  exact ⟨_, H, F.re ⟨rfl, trivial⟩, W⟩
 rintro a w ⟨x2, hj, F, W⟩
 have hj := AK hj
 subst hj
 have H := K1
 clear G1 K1
 refine Ax ?_
 have H := AK H
 subst H
 refine AG (.inl Aa) F W Aa (AD F Aa) ?_
 exact ⟨rfl, W.done⟩
theorem H6 : Has Tryd.prog 6 := ⟨fun args w => An Tryd.func6 rfl (by decide) args w⟩
theorem UW : (Tryd.prog.info? 37).bind (·.zero) = some (.agg #[.int .i64 0, .int .i64 0, .int .i64 0, .int .i64 0, .slice none 0 0, .int .i64 0, .int .i64 0, .slice none 0 0]) := by kernel_rfl
theorem Uo : Has Tryd.prog 40 := ⟨fun args w => An Tryd.func40 rfl (by decide) args w⟩
noncomputable def Fu (fRec : Int → Option (List UInt8)) (p0 : Int) : Option (List UInt8) := (if p0 < 0 then (if (-10) < p0 then (fRec (DP (0 - p0))).bind fun x1 => (DQ ([45] : List UInt8) x1).bind fun x2 => some x2 else (fRec (DP (0 - (DP (Int.tdiv p0 10))))).bind fun x3 => (DQ ([45] : List UInt8) x3).bind fun x4 => (fRec (DP (0 - (Int.tmod p0 10)))).bind fun x5 => (DQ x4 x5).bind fun x6 => some x6) else (if p0 < 10 then (GR ([48, 49, 50, 51, 52, 53, 54, 55, 56, 57] : List UInt8) p0 (DP (p0 + 1))).bind fun x7 => some x7 else (fRec (DP (Int.tdiv p0 10))).bind fun x8 => (GR ([48, 49, 50, 51, 52, 53, 54, 55, 56, 57] : List UInt8) (Int.tmod p0 10) (DP ((Int.tmod p0 10) + 1))).bind fun x9 => (DQ x8 x9).bind fun x10 => some x10))
noncomputable def Fa : Nat → Int → Option (List UInt8)
  | 0 => fun _ => none
  | n + 1 => Fu (Fa n)
noncomputable def FB (p0 : Int) : Option (List UInt8) := FY fun n => Fa n p0
theorem LU (fRec : Int → Option (List UInt8)) (ih : ∀ (Y : Nat → Prop) (w0 : World)  (p0 : Int) (r : List UInt8) (H : fRec p0 = some r) , Calls Tryd.prog 40 #[.int .i64 p0] w0 fun e w' => e = .returned (.string (bs r)) ∧ Below w0.heap.size w0 w') (Y : Nat → Prop) (w0 : World)  (p0 : Int) (r : List UInt8) (H : Fu fRec p0 = some r)  :
    Calls Tryd.prog 40 #[.int .i64 p0] w0 fun e w' => e = .returned (.string (bs r)) ∧ Below w0.heap.size w0 w' := by
 refine enter Tryd.func40 Aa Tryd.ntmps40 Aa fun a F => ?_
 have W := Stw.start Y w0
 unfold Fu at H
 refine Ak (Ab ?_)
 refine ls F W Aa (Ag (v := Value.string (bs ([] : List UInt8))) F Aa).q fun a w F W => ?_
 refine Ae (Ac (Ak (Ak (Ab ?_))))
 refine ls F W Aa (Ah F Aa).q fun a w F W => ?_
 refine ls F W Aa (Co F Aa Aa).q fun a w F W => ?_
 refine Ae (Ac ?_)
 refine Az F Aa (fun hb => ?_) fun hb => ?_
 ·
  have H := AW (Bw hb) H
  rw [hb] at F
  clear hb
  refine Ak (Ak (Ab ?_))
  refine ls F W Aa (Ah F Aa).q fun a w F W => ?_
  refine ls F W Aa (C2 F Aa Aa).q fun a w F W => ?_
  refine Ae (Ac ?_)
  refine Az F Aa (fun hb => ?_) fun hb => ?_
  ·
   have H := AW (Bw hb) H
   rw [hb] at F
   clear hb
   refine Ak (Ab ?_)
   refine ls F W Aa (Ah F Aa).q fun a w F W => ?_
   refine ls F W Aa (Qv F Aa Aa Aa).q fun a w F W => ?_
   obtain ⟨x1, h1, H⟩ := Aq H
   refine ls F W Aa (A0 (v := Value.string (bs x1)) F Uo Aa (fun w W => ih any w (DP (0 - p0)) _ h1)) fun a w F W => ?_
   obtain ⟨x2, h2, H⟩ := Aq H
   refine ls F W Aa (Cw (l := ([45] : List UInt8)) (m := x1) F Aa Aa h2).q fun a w F W => ?_
   refine ls F W Aa (Ag F Aa).q fun a w F W => ?_
   refine Ae (Ac (Ax ?_))
   iterate 2 refine AO ?_
   have H := AK H
   subst H
   refine AG (.inl Aa) F W Aa (AD F Aa) ?_
   exact ⟨rfl, W.done⟩
  have H := AY (Bx hb) H
  rw [hb] at F
  clear hb
  refine AA (Ac (Ak (Ab ?_)))
  refine ls F W Aa (Ah F Aa).q fun a w F W => ?_
  refine ls F W Aa (TQ F Aa Aa (by decide) Aa).q fun a w F W => ?_
  refine ls F W Aa (Qv F Aa Aa Aa).q fun a w F W => ?_
  obtain ⟨x3, h3, H⟩ := Aq H
  refine ls F W Aa (A0 (v := Value.string (bs x3)) F Uo Aa (fun w W => ih any w (DP (0 - (DP (Int.tdiv p0 10)))) _ h3)) fun a w F W => ?_
  obtain ⟨x4, h4, H⟩ := Aq H
  refine ls F W Aa (Cw (l := ([45] : List UInt8)) (m := x3) F Aa Aa h4).q fun a w F W => ?_
  refine ls F W Aa (Ah F Aa).q fun a w F W => ?_
  refine ls F W Aa (Sx F Aa Aa (by decide) Aa).q fun a w F W => ?_
  refine ls F W Aa (Qv F Aa Aa Aa).q fun a w F W => ?_
  obtain ⟨x5, h5, H⟩ := Aq H
  refine ls F W Aa (A0 (v := Value.string (bs x5)) F Uo Aa (fun w W => ih any w (DP (0 - (Int.tmod p0 10))) _ h5)) fun a w F W => ?_
  obtain ⟨x6, h6, H⟩ := Aq H
  refine ls F W Aa (Cw (l := x4) (m := x5) F Aa Aa h6).q fun a w F W => ?_
  refine ls F W Aa (Ag F Aa).q fun a w F W => ?_
  refine Ae (Ac (Ax (AO ?_)))
  have H := AK H
  subst H
  refine AG (.inl Aa) F W Aa (AD F Aa) ?_
  exact ⟨rfl, W.done⟩
 have H := AY (Bx hb) H
 rw [hb] at F
 clear hb
 refine AA (Ac (Ak (Ak (Ab ?_))))
 refine ls F W Aa (Ah F Aa).q fun a w F W => ?_
 refine ls F W Aa (Co F Aa Aa).q fun a w F W => ?_
 refine Ae (Ac ?_)
 refine Az F Aa (fun hb => ?_) fun hb => ?_
 ·
  have H := AW (Bw hb) H
  rw [hb] at F
  clear hb
  refine Ak (Ab ?_)
  iterate 2 refine ls F W Aa (Ah F Aa).q fun a w F W => ?_
  refine ls F W Aa (C5 F Aa Aa Aa).q fun a w F W => ?_
  obtain ⟨x7, h7, H⟩ := Aq H
  refine ls F W Aa (GN (l := ([48, 49, 50, 51, 52, 53, 54, 55, 56, 57] : List UInt8)) KB F Aa Aa Aa h7).q fun a w F W => ?_
  refine ls F W Aa (Ag F Aa).q fun a w F W => ?_
  refine Ae (Ac (Ax (AO ?_)))
  have H := AK H
  subst H
  refine AG (.inl Aa) F W Aa (AD F Aa) ?_
  exact ⟨rfl, W.done⟩
 have H := AY (Bx hb) H
 rw [hb] at F
 clear hb
 refine AA (Ac (Ak ?_))
 refine EQ W MO (by kernel_rfl) ?_
 refine qs F Aa (Ah F Aa).q fun a F => ?_
 refine qs F Aa (TQ F Aa Aa (by decide) Aa).q fun a F => ?_
 obtain ⟨x8, h8, H⟩ := Aq H
 refine qs F Aa (A0 (v := Value.string (bs x8)) F Uo Aa (fun w W => ih any w (DP (Int.tdiv p0 10)) _ h8)) fun a F => ?_
 refine qs F Aa (Ah F Aa).q fun a F => ?_
 refine qs F Aa (Sx F Aa Aa (by decide) Aa).q fun a F => ?_
 refine qs F Aa (Ah F Aa).q fun a F => ?_
 refine qs F Aa (Sx F Aa Aa (by decide) Aa).q fun a F => ?_
 refine qs F Aa (C5 F Aa Aa Aa).q fun a F => ?_
 obtain ⟨x9, h9, H⟩ := Aq H
 refine qs F Aa (GN (l := ([48, 49, 50, 51, 52, 53, 54, 55, 56, 57] : List UInt8)) KB F Aa Aa Aa h9).q fun a F => ?_
 obtain ⟨x10, h10, H⟩ := Aq H
 refine qs F Aa (Cw (l := x8) (m := x9) F Aa Aa h10).q fun a F => ?_
 refine qs F Aa (Ag F Aa).q fun a F => ?_
 refine Cr fun w W => ?_
 refine Ac (Ax ?_)
 have H := AK H
 subst H
 refine AG (.inl Aa) F W Aa (AD F Aa) ?_
 exact ⟨rfl, W.done⟩
theorem MZ : ∀ (n : Nat) (Y : Nat → Prop) (w0 : World)  (p0 : Int) (r : List UInt8) (H : Fa n p0 = some r) , Calls Tryd.prog 40 #[.int .i64 p0] w0 fun e w' => e = .returned (.string (bs r)) ∧ Below w0.heap.size w0 w' := by
  intro n
  induction n with
  | zero => intro Y w0  p0 r H; exact nomatch H
  | succ n ih => intro Y w0  p0 r H ; exact LU (Fa n) ih Y w0  p0 r H 
theorem Kv (Y : Nat → Prop) (w0 : World)  (p0 : Int) (r : List UInt8) (H : FB p0 = some r)  :
    Calls Tryd.prog 40 #[.int .i64 p0] w0 fun e w' => e = .returned (.string (bs r)) ∧ Below w0.heap.size w0 w' := by
  obtain ⟨n, H⟩ := BR H
  exact MZ n Y w0  p0 r H 
noncomputable def Gi (p0 : List UInt8) : Int → Option (Int ⊕ (Unit ⊕ Int))
  | x1 => (if x1 < 1000 then (FB x1).bind fun x2 => (if x2 = p0 then some (.inr (.inr x1)) else some (.inl (DP (x1 + 1)))) else some (.inr (.inl ())))
noncomputable def Im (p0 : List UInt8) : Option Int := KC (Br (Gi p0) 0) fun _ => some (-1)
theorem BX : type_of% Tryd.underlying37 := Tryd.underlying37
theorem VV : Bt Tryd.prog 37 [.int .i64 0, .int .i64 0, .int .i64 0, .int .i64 0, .slice none 0 0, .int .i64 0, .int .i64 0, .slice none 0 0] [(0, 1), (1, 4), (5, 1), (6, 1), (7, 1)] := ⟨⟨.agg #[.int .i64 0, .int .i64 0, .int .i64 0, .int .i64 0, .slice none 0 0, .int .i64 0, .int .i64 0, .slice none 0 0], by kernel_rfl, rfl⟩, ⟨_, BX, fun w => by kernel_rfl⟩⟩
theorem MR : Ty Tryd.prog 37 true 8 := ⟨by kernel_rfl, by kernel_rfl⟩
inductive Tr34 : Type where
  | mk : Int → Int → Int → (List Tr34) → Tr34
def Tr34.un : Tr34 → Int × Int × Int × List Tr34
  | .mk a0 a1 a2 a3 => (a0, a1, a2, a3)
abbrev Tr34.of (p : Int × Int × Int × List Tr34) : Tr34 := .mk p.1 p.2.1 p.2.2.1 p.2.2.2
def Tr34.cnt : Tr34 → Nat
  | .mk _ _ _ a3 => 1 + ((a3.map Tr34.cnt).sum)
inductive Tr37 : Type where
  | mk : Int → Tr34 → Int → Int → (List Tr37) → Tr37
def Tr37.un : Tr37 → Int × Tr34 × Int × Int × List Tr37
  | .mk a0 a1 a2 a3 a4 => (a0, a1, a2, a3, a4)
abbrev Tr37.of (p : Int × Tr34 × Int × Int × List Tr37) : Tr37 := .mk p.1 p.2.1 p.2.2.1 p.2.2.2.1 p.2.2.2.2
def Tr37.cnt : Tr37 → Nat
  | .mk _ a1 _ _ a4 => 1 + (a1.cnt + (a4.map Tr37.cnt).sum)
theorem Om : type_of% Tryd.underlying32 := Tryd.underlying32
theorem CJ : type_of% Tryd.underlying34 := Tryd.underlying34
theorem VU : Bt Tryd.prog 34 [.int .i64 0, .int .i64 0, .int .i64 0, .slice none 0 0] [(0, 1), (1, 1), (2, 1), (3, 1)] := ⟨⟨.agg #[.int .i64 0, .int .i64 0, .int .i64 0, .slice none 0 0], by kernel_rfl, rfl⟩, ⟨_, CJ, fun w => by kernel_rfl⟩⟩
theorem Vr : (Tryd.prog.info? 34).bind (·.zero) = some (.agg #[.int .i64 0, .int .i64 0, .int .i64 0, .slice none 0 0]) := by kernel_rfl
theorem IA : Ty Tryd.prog 34 true 4 := ⟨by kernel_rfl, by kernel_rfl⟩
abbrev T6 (r : Rp Tr34) : Rp (Int × Int × Int × List Tr34) := (Rp.pair (Rp.int .i64) (Rp.pair (Rp.int .i64) (Rp.pair (Rp.int .i64) (Rp.slice r))))
theorem RP : Kt T6 := (Kt.pair (Kt.const _) (Kt.pair (Kt.const _) (Kt.pair (Kt.const _) Kt.hole)))
abbrev CS : Rp Tr34 := Rp.knot T6 Tr34.un RP
theorem S8 {w : World} {A : Nat → Prop} {cs : List Value} {a : Tr34} : CS.rep w A cs a ↔ (T6 CS).rep w A cs a.un := GO RP
theorem St : Et Tryd.prog 32 34 4 48 := Et.of Om (by kernel_rfl) (by kernel_rfl) (by kernel_rfl) (by decide)
noncomputable def HZ (p0 : Int) : Option (List UInt8) := (ix ([([115, 114, 99] : List UInt8), ([100, 115, 116] : List UInt8), ([107, 105, 110, 100] : List UInt8), ([116, 97, 103] : List UInt8), ([112, 111, 114, 116] : List UInt8), ([115, 119, 105, 116, 99, 104] : List UInt8)] : List (List UInt8)) p0).bind fun x1 => some x1
theorem Mf (Y : Nat → Prop) (w0 : World)  (p0 : Int) (r : List UInt8) (H : HZ p0 = some r)  :
    Calls Tryd.prog 39 #[.int .i64 p0] w0 fun e w' => e = .returned (.string (bs r)) ∧ Below w0.heap.size w0 w' := by
 refine enter Tryd.func39 Aa Tryd.ntmps39 Aa fun a F => ?_
 have W := Stw.start Y w0
 unfold HZ at H
 refine Ak (Ab ?_)
 refine ls F W Aa (Ag (v := Value.string (bs ([] : List UInt8))) F Aa).q fun a w F W => ?_
 refine Ae (Ac (Ak (Ab ?_)))
 refine FN (z := Value.string (bs ([] : List UInt8))) (cs := [.string (bs ([115, 114, 99] : List UInt8)), .string (bs ([100, 115, 116] : List UInt8)), .string (bs ([107, 105, 110, 100] : List UInt8)), .string (bs ([116, 97, 103] : List UInt8)), .string (bs ([112, 111, 114, 116] : List UInt8)), .string (bs ([115, 119, 105, 116, 99, 104] : List UInt8))]) Rp.str ([([115, 114, 99] : List UInt8), ([100, 115, 116] : List UInt8), ([107, 105, 110, 100] : List UInt8), ([116, 97, 103] : List UInt8), ([112, 111, 114, 116] : List UInt8), ([115, 119, 105, 116, 99, 104] : List UInt8)] : List (List UInt8)) F W Aa Uj Z9 Aa Aa Aa Aa Aa Aa (Fl.str.repL _ _ ([([115, 114, 99] : List UInt8), ([100, 115, 116] : List UInt8), ([107, 105, 110, 100] : List UInt8), ([116, 97, 103] : List UInt8), ([112, 111, 114, 116] : List UInt8), ([115, 119, 105, 116, 99, 104] : List UInt8)] : List (List UInt8))) fun v1 a w F W => ?_
 refine ls F W Aa (Ah F Aa).q fun a w F W => ?_
 obtain ⟨x1, h1, H⟩ := Aq H
 refine ls F W Aa (Cg (r := Rp.str) Uj F Aa Aa (BP 0 Aa) h1).q fun a w F W => ?_
 refine ls F W Aa (BC (y := Value.string (bs x1)) (j := 0) (i := p0) F Aa Aa (BP 0 Aa) h1 Fl.str.to T9 Aa).q fun a w F W => ?_
 refine ls F W Aa (Ag F Aa).q fun a w F W => ?_
 refine Ae (Ac (Ax ?_))
 have H := AK H
 subst H
 refine AG (.inl Aa) F W Aa (AD F Aa) ?_
 exact ⟨rfl, W.done⟩
theorem VZ : Has Tryd.prog 39 := ⟨fun args w => An Tryd.func39 rfl (by decide) args w⟩
end Go.Proofs.YtlgjpoapclifbaaDoor
