/- The functions of layer 29, EF. Conditions: none. -/
import Derived.Test.YtlgjpoapclifbaaDoordA3
namespace Go.Proofs.YtlgjpoapclifbaaDoor
open Go Go.RowKit
set_option linter.unusedVariables false
set_option linter.unusedSimpArgs false
set_option maxRecDepth 20000
abbrev Jv (a0 : Tr28 × Int × Int) (a1 : Value) (a2 : Value) : List Value := [.int .i64 a0.1.un.1, .int .i64 a0.1.un.2.1.un.1, .int .i64 a0.1.un.2.1.un.2.1, .int .i64 a0.1.un.2.1.un.2.2.1, a1, .int .i64 a0.1.un.2.2.1, .int .i64 a0.1.un.2.2.2.1, a2]
abbrev OA (a0 : Nat) (a1 : Tr28 × Int × Int) (a2 : Value) (a3 : Value) : List (Nat × List Value) := [(a0, [.int .i64 a1.1.un.1, .int .i64 a1.1.un.2.1.un.1, .int .i64 a1.1.un.2.1.un.2.1, .int .i64 a1.1.un.2.1.un.2.2.1, a2, .int .i64 a1.1.un.2.2.1, .int .i64 a1.1.un.2.2.2.1, a3])]
noncomputable def EN  : Option Bool := (B0 ([100, 115, 116, 32, 58, 61, 32, 51, 59, 32, 112, 111, 114, 116, 32, 58, 61, 32, 49, 32, 124, 32, 100, 114, 111, 112] : List UInt8)).bind fun x1 => (if x1.2.2 = 0 then (if x1.2.1 = 0 then (Fv (Tr28.of (x1.1.un.1, Tr25.of (x1.1.un.2.1.un.1, x1.1.un.2.1.un.2.1, x1.1.un.2.1.un.2.2.1, x1.1.un.2.1.un.2.2.2), x1.1.un.2.2.1, x1.1.un.2.2.2.1, x1.1.un.2.2.2.2))).bind fun x3 => (if x3 = ([40, 100, 115, 116, 32, 58, 61, 32, 51, 59, 32, 112, 111, 114, 116, 32, 58, 61, 32, 49, 41, 32, 124, 32, 100, 114, 111, 112] : List UInt8) then (if x1.1.un.1 = 4 then some (decide ((x1.1.un.2.2.2.2.length : Int) = 2)) else some false) else some false) else some false) else some false).bind fun x2 => some x2
theorem Hk (Y : Nat → Prop) (w0 : World)   (r : Bool) (H : EN  = some r) (hG : Gk [] w0) :
    Calls Tryd.prog 6 #[] w0 fun e w' => e = .returned (.bool r) ∧ Below w0.heap.size w0 w' := by
 refine enter Tryd.func6 Aa Tryd.ntmps6 Aa fun a F => ?_
 have W := Stw.start Y w0
 unfold EN at H
 refine Ah (Ab ?_)
 refine ls F W Aa (Ag F Aa).q fun a w F W => ?_
 refine Ae (Ac (Ah (Ab ?_)))
 obtain ⟨x1, h1, H⟩ := Aq H
 refine Bp (Ml := []) (Zl := []) (M := []) (Z := []) (β := Value × Value) (rv := fun x => .tuple #[.agg #[.int .i64 x1.1.un.1, .int .i64 x1.1.un.2.1.un.1, .int .i64 x1.1.un.2.1.un.2.1, .int .i64 x1.1.un.2.1.un.2.2.1, x.1, .int .i64 x1.1.un.2.2.1, .int .i64 x1.1.un.2.2.2.1, x.2], .int .i64 x1.2.1, .int .i64 x1.2.2]) (MM := fun x => []) (ZZ := fun x => [A4 x.1 A6 x1.1.un.2.1.un.2.2.2, A4 x.2 BJ x1.1.un.2.2.2.2]) F W H7 Aa Aa (fun hL => F7 _ w ([100, 115, 116, 32, 58, 61, 32, 51, 59, 32, 112, 111, 114, 116, 32, 58, 61, 32, 49, 32, 124, 32, 100, 114, 111, 112] : List UInt8) _ h1) fun x a w F W => ?_
 obtain ⟨v1, v2⟩ := x
 have W : Stw ⟨Y, [], w0⟩ [] [A4 v1 A6 x1.1.un.2.1.un.2.2.2, A4 v2 BJ x1.1.un.2.2.2.2] w := W
 refine ls F W Aa (Ai F Aa).q fun a w F W => ?_
 refine ls F W Aa (B9 (v := Value.agg #[.int .i64 x1.1.un.1, .int .i64 x1.1.un.2.1.un.1, .int .i64 x1.1.un.2.1.un.2.1, .int .i64 x1.1.un.2.1.un.2.2.1, v1, .int .i64 x1.1.un.2.2.1, .int .i64 x1.1.un.2.2.2.1, v2]) F Aa Aa).q fun a w F W => ?_
 refine ls F W Aa (B9 (v := Value.int .i64 x1.2.1) F Aa Aa).q fun a w F W => ?_
 refine ls F W Aa (B9 (v := Value.int .i64 x1.2.2) F Aa Aa).q fun a w F W => ?_
 refine BA (cs := (BU)) F W Aa JT Aa fun b1 a w F W => ?_
 refine AP (vs := (Jv x1 v1 v2)) (M' := (OA b1 x1 v1 v2)) 0 F W Aa Aa Aa D1 Aa Aa Aa (Af Aa (Af Aa (Af Aa (Af Aa (Af (W.oneF (k := 0) Aa) (Af Aa (Af Aa (Af (W.oneF (k := 1) Aa) BC)))))))) Aa fun w W => ?_
 iterate 2 refine ls F W Aa (Ag F Aa).q fun a w F W => ?_
 refine Ae (Ac ?_)
 obtain ⟨o1, G1, K1⟩ := Aq H
 refine BK (fun a w => ∃ x2 : Bool, some (x2) = some o1 ∧ Fr 31 [] [(0, .bool x2)] a ∧ Stw ⟨Y, [], w0⟩ (OA b1 x1 v1 v2) [A4 v1 A6 x1.1.un.2.1.un.2.2.2, A4 v2 BJ x1.1.un.2.2.2.2] w) ?_ ?_
 ·
  have H := G1
  clear G1 K1
  refine Ab ?_
  refine ls F W Aa (Ai F Aa).q fun a w F W => ?_
  refine ls F W Aa (Bw F Aa Aa).q fun a w F W => ?_
  refine ls F W Aa (Ai F Aa).q fun a w F W => ?_
  rcases Bool.eq_false_or_eq_true (decide (x1.2.2 = 0)) with hb | hb
  ·
   have H := Ba (BM hb) H
   rw [hb] at F
   clear hb
   refine Bn F W (Ak F Aa Aa Aa Aa) Aa (Ay Aa) (Ai F Aa).q fun a w F W => ?_
   refine Bn F W (Ak F Aa Aa Aa Aa) Aa (Ay Aa) (Bw F Aa Aa).q fun a w F W => ?_
   refine ls F W Aa (A2 F Aa Aa Aa).q fun a w F W => ?_
   refine ls F W Aa (Ai F Aa).q fun a w F W => ?_
   rcases Bool.eq_false_or_eq_true (decide (x1.2.1 = 0)) with hb | hb
   ·
    have H := Ba (BM hb) H
    rw [hb] at F
    clear hb
    refine Bn F W (Ak F Aa Aa Aa Aa) Aa (Ay Aa) (Aw (v := Value.agg #[.int .i64 x1.1.un.1, .int .i64 x1.1.un.2.1.un.1, .int .i64 x1.1.un.2.1.un.2.1, .int .i64 x1.1.un.2.1.un.2.2.1, v1, .int .i64 x1.1.un.2.2.1, .int .i64 x1.1.un.2.2.2.1, v2]) 0 F Aa Aa D1 Aa).q fun a w F W => ?_
    refine Kj (Ak F Aa Aa Aa Aa) ?_
    obtain ⟨x3, h2, H⟩ := Aq H
    refine ls F W Aa (Bx (v := Value.string (bs x3)) F TJ Aa (fun w W => Hu any w (v1) (v2) (Tr28.of (x1.1.un.1, Tr25.of (x1.1.un.2.1.un.1, x1.1.un.2.1.un.2.1, x1.1.un.2.1.un.2.2.1, x1.1.un.2.1.un.2.2.2), x1.1.un.2.2.1, x1.1.un.2.2.2.1, x1.1.un.2.2.2.2)) _ h2 (((DK 0 Aa) : EB _ _ _ _ _ _) w W).nx (((DK 1 Aa) : EB _ _ _ _ _ _) w W).nx (hG.go0 W))) fun a w F W => ?_
    refine Bn F W (Ak F Aa Aa Aa Aa) Aa (Ay Aa) (KT (l := x3) (m := ([40, 100, 115, 116, 32, 58, 61, 32, 51, 59, 32, 112, 111, 114, 116, 32, 58, 61, 32, 49, 41, 32, 124, 32, 100, 114, 111, 112] : List UInt8)) F Aa Aa).q fun a w F W => ?_
    refine ls F W Aa (A2 F Aa Aa Aa).q fun a w F W => ?_
    refine ls F W Aa (Ai F Aa).q fun a w F W => ?_
    rcases Bool.eq_false_or_eq_true (decide (x3 = ([40, 100, 115, 116, 32, 58, 61, 32, 51, 59, 32, 112, 111, 114, 116, 32, 58, 61, 32, 49, 41, 32, 124, 32, 100, 114, 111, 112] : List UInt8))) with hb | hb
    ·
     have H := Ba (BM hb) H
     rw [hb] at F
     clear hb
     refine Bn F W (Ak F Aa Aa Aa Aa) Aa (Ay Aa) (Al Dm Aa Aa Aa T3 F Aa 0 Aa).q fun a w F W => ?_
     refine Bn F W (Ak F Aa Aa Aa Aa) Aa (Ay Aa) (Aw (v := Value.int .i64 x1.1.un.1) 0 F Aa Aa T3 Aa).q fun a w F W => ?_
     refine Bn F W (Ak F Aa Aa Aa Aa) Aa (Ay Aa) (Bw F Aa Aa).q fun a w F W => ?_
     refine ls F W Aa (A2 F Aa Aa Aa).q fun a w F W => ?_
     refine ls F W Aa (Ai F Aa).q fun a w F W => ?_
     rcases Bool.eq_false_or_eq_true (decide (x1.1.un.1 = 4)) with hb | hb
     ·
      have H := Ba (BM hb) H
      rw [hb] at F
      clear hb
      refine Bn F W (Ak F Aa Aa Aa Aa) Aa (Ay Aa) (Al Dm Aa Aa Aa JM F Aa 7 Aa).q fun a w F W => ?_
      refine Bn F W (Ak F Aa Aa Aa Aa) Aa (Ay Aa) (Aw (v := v2) 0 F Aa Aa JM Aa).q fun a w F W => ?_
      refine Bn F W (Ak F Aa Aa Aa Aa) Aa (Ay Aa) (DC (r := BJ) (l := x1.1.un.2.2.2.2) IX Aa F Aa (DK 1 Aa)).q fun a w F W => ?_
      refine Bn F W (Ak F Aa Aa Aa Aa) Aa (Ay Aa) (Bw F Aa Aa).q fun a w F W => ?_
      refine ls F W Aa (A2 F Aa Aa Aa).q fun a w F W => ?_
      refine ls F W Aa (Ag F Aa).q fun a w F W => ?_
      refine Ae (Ac ?_)
      have W := W.frontZ (i := 1) Aa Aa
      have W := W.frontZ (i := 1) Aa Aa
      exact ⟨_, H, F.re ⟨rfl, trivial⟩, W⟩
     have H := Bc (BL hb) H
     rw [hb] at F
     clear hb
     iterate 4 refine EX F Aa Aa Aa Aa Aa Aa Aa fun a F => ?_
     refine ls F W Aa (Ax F Aa Aa Aa).q fun a w F W => ?_
     refine ls F W Aa (Ag F Aa).q fun a w F W => ?_
     refine Ae (Ac ?_)
     have W := W.frontZ (i := 1) Aa Aa
     have W := W.frontZ (i := 1) Aa Aa
     exact ⟨_, H, F.re ⟨rfl, trivial⟩, W⟩
    have H := Bc (BL hb) H
    rw [hb] at F
    clear hb
    iterate 3 refine EX F Aa Aa Aa Aa Aa Aa Aa fun a F => ?_
    refine ls F W Aa (Ax F Aa Aa Aa).q fun a w F W => ?_
    refine ls F W Aa (Ai F Aa).q fun a w F W => ?_
    iterate 4 refine EX F Aa Aa Aa Aa Aa Aa Aa fun a F => ?_
    refine ls F W Aa (Ax F Aa Aa Aa).q fun a w F W => ?_
    refine ls F W Aa (Ag F Aa).q fun a w F W => ?_
    refine Ae (Ac ?_)
    have W := W.frontZ (i := 1) Aa Aa
    have W := W.frontZ (i := 1) Aa Aa
    exact ⟨_, H, F.re ⟨rfl, trivial⟩, W⟩
   have H := Bc (BL hb) H
   rw [hb] at F
   clear hb
   iterate 3 refine EX F Aa Aa Aa Aa Aa Aa Aa fun a F => ?_
   refine ls F W Aa (Ax F Aa Aa Aa).q fun a w F W => ?_
   refine ls F W Aa (Ai F Aa).q fun a w F W => ?_
   iterate 3 refine EX F Aa Aa Aa Aa Aa Aa Aa fun a F => ?_
   refine ls F W Aa (Ax F Aa Aa Aa).q fun a w F W => ?_
   refine ls F W Aa (Ai F Aa).q fun a w F W => ?_
   iterate 4 refine EX F Aa Aa Aa Aa Aa Aa Aa fun a F => ?_
   refine ls F W Aa (Ax F Aa Aa Aa).q fun a w F W => ?_
   refine ls F W Aa (Ag F Aa).q fun a w F W => ?_
   refine Ae (Ac ?_)
   have W := W.frontZ (i := 1) Aa Aa
   have W := W.frontZ (i := 1) Aa Aa
   exact ⟨_, H, F.re ⟨rfl, trivial⟩, W⟩
  have H := Bc (BL hb) H
  rw [hb] at F
  clear hb
  iterate 2 refine EX F Aa Aa Aa Aa Aa Aa Aa fun a F => ?_
  refine ls F W Aa (Ax F Aa Aa Aa).q fun a w F W => ?_
  refine ls F W Aa (Ai F Aa).q fun a w F W => ?_
  iterate 3 refine EX F Aa Aa Aa Aa Aa Aa Aa fun a F => ?_
  refine ls F W Aa (Ax F Aa Aa Aa).q fun a w F W => ?_
  refine ls F W Aa (Ai F Aa).q fun a w F W => ?_
  iterate 3 refine EX F Aa Aa Aa Aa Aa Aa Aa fun a F => ?_
  refine ls F W Aa (Ax F Aa Aa Aa).q fun a w F W => ?_
  refine ls F W Aa (Ai F Aa).q fun a w F W => ?_
  iterate 4 refine EX F Aa Aa Aa Aa Aa Aa Aa fun a F => ?_
  refine ls F W Aa (Ax F Aa Aa Aa).q fun a w F W => ?_
  refine ls F W Aa (Ag F Aa).q fun a w F W => ?_
  refine Ae (Ac ?_)
  have W := W.frontZ (i := 1) Aa Aa
  have W := W.frontZ (i := 1) Aa Aa
  exact ⟨_, H, F.re ⟨rfl, trivial⟩, W⟩
 rintro a w ⟨x2, hj, F, W⟩
 have hj := AR hj
 subst hj
 have H := K1
 clear G1 K1
 refine Au ?_
 have H := AR H
 subst H
 refine AO (.inl Aa) F W Aa (AD F Aa) ?_
 exact ⟨rfl, W.done⟩
theorem H6 : Has Tryd.prog 6 := ⟨fun args w => Am Tryd.func6 rfl (by decide) args w⟩
noncomputable def Jz (fRec : Int → Option (List UInt8)) (p0 : Int) : Option (List UInt8) := (if p0 < 0 then (if (-10) < p0 then (fRec (CI (0 - p0))).bind fun x1 => (D0 ([45] : List UInt8) x1).bind fun x2 => some x2 else (fRec (CI (0 - (CI (Int.tdiv p0 10))))).bind fun x3 => (D0 ([45] : List UInt8) x3).bind fun x4 => (fRec (CI (0 - (Int.tmod p0 10)))).bind fun x5 => (D0 x4 x5).bind fun x6 => some x6) else (if p0 < 10 then (GP ([48, 49, 50, 51, 52, 53, 54, 55, 56, 57] : List UInt8) p0 (CI (p0 + 1))).bind fun x7 => some x7 else (fRec (CI (Int.tdiv p0 10))).bind fun x8 => (GP ([48, 49, 50, 51, 52, 53, 54, 55, 56, 57] : List UInt8) (Int.tmod p0 10) (CI ((Int.tmod p0 10) + 1))).bind fun x9 => (D0 x8 x9).bind fun x10 => some x10))
noncomputable def Iq : Nat → Int → Option (List UInt8)
  | 0 => fun _ => none
  | n + 1 => Jz (Iq n)
noncomputable def JG (p0 : Int) : Option (List UInt8) := Ge fun n => Iq n p0
noncomputable def F8 (p0 : List UInt8) : Int → Option (Int ⊕ (Unit ⊕ Int))
  | x1 => (if x1 < 1000 then (JG x1).bind fun x2 => (if x2 = p0 then some (.inr (.inr x1)) else some (.inl (CI (x1 + 1)))) else some (.inr (.inl ())))
noncomputable def Il (p0 : List UInt8) : Option Int := HX (Bo (F8 p0) 0) fun _ => some (-1)
inductive Tr34 : Type where
  | mk : Int → Int → Int → (List Tr34) → Tr34
def Tr34.un : Tr34 → Int × Int × Int × List Tr34
  | .mk a0 a1 a2 a3 => (a0, a1, a2, a3)
abbrev Tr34.of (p : Int × Int × Int × List Tr34) : Tr34 := .mk p.1 p.2.1 p.2.2.1 p.2.2.2
def Tr34.cnt : Tr34 → Nat
  | .mk _ _ _ a3 => 1 + ((a3.map Tr34.cnt).sum)
inductive Tr37 : Type where
  | mk : Int → Tr34 → Int → Int → (List Tr37) → Tr37
def Tr37.un : Tr37 → Int × Tr34 × Int × Int × List Tr37
  | .mk a0 a1 a2 a3 a4 => (a0, a1, a2, a3, a4)
abbrev Tr37.of (p : Int × Tr34 × Int × Int × List Tr37) : Tr37 := .mk p.1 p.2.1 p.2.2.1 p.2.2.2.1 p.2.2.2.2
def Tr37.cnt : Tr37 → Nat
  | .mk _ a1 _ _ a4 => 1 + (a1.cnt + (a4.map Tr37.cnt).sum)
noncomputable def Dd (p0 : List (Int × Int × List UInt8 × Int)) (p1 : Int) (p2 : List UInt8) : Option Bool := ((ix p0 p1).bind fun x2 => (if x2.1 = 1 then (ix p0 p1).bind fun x3 => some (decide (x3.2.2.1 = p2)) else (ix p0 p1).bind fun x4 => (if x4.1 = 3 then (ix p0 p1).bind fun x5 => some (decide (x5.2.2.1 = p2)) else some false))).bind fun x1 => some x1
noncomputable def Oj (p0 : Int) : Option (List UInt8) := (ix ([([115, 114, 99] : List UInt8), ([100, 115, 116] : List UInt8), ([107, 105, 110, 100] : List UInt8), ([116, 97, 103] : List UInt8), ([112, 111, 114, 116] : List UInt8), ([115, 119, 105, 116, 99, 104] : List UInt8)] : List (List UInt8)) p0).bind fun x1 => some x1
noncomputable def GA (p0 : List (Int × Int × List UInt8 × Int)) (p1 : Int) (p2 : Int) : Int → Option (Int ⊕ (Unit ⊕ Int))
  | x1 => (if x1 < p2 then (Oj x1).bind fun x2 => (Dd p0 p1 x2).bind fun x3 => (if x3 = true then some (.inr (.inr x1)) else some (.inl (CI (x1 + 1)))) else some (.inr (.inl ())))
noncomputable def Ky (p0 : List (Int × Int × List UInt8 × Int)) (p1 : Int) (p2 : Int) : Option Int := HX (Bo (GA p0 p1 p2) 0) fun _ => some (-1)
noncomputable def Fk (p0 : List (Int × Int × List UInt8 × Int)) (p1 : Int) (p2 : Int) (p3 : List UInt8) : Option (Int × Int × Int × Bool) := (Ky p0 p1 p2).bind fun x1 => (if x1 = (-1) then some (0, 0, p1, false) else (Dd p0 (CI (p1 + 1)) p3).bind fun x2 => (if (!x2) = true then some (0, 0, CI (p1 + 1), false) else (ix p0 (CI (p1 + 2))).bind fun x3 => (if x3.1 ≠ 2 then some (0, 0, CI (p1 + 2), false) else (ix p0 (CI (p1 + 2))).bind fun x4 => some (x1, x4.2.1, CI (p1 + 3), true))))
end Go.Proofs.YtlgjpoapclifbaaDoor
