/- The functions of layer 30, HQ. Conditions: none. -/
import Derived.Test.YtgoifghhcekahaaGreatDoordB6
namespace Go.Proofs.YtgoifghhcekahaaGreatDoor
noncomputable section
open Go Go.RowKit
set_option linter.unusedVariables false
set_option linter.unusedSimpArgs false
set_option maxRecDepth 20000
abbrev pz39 (p : Tr39) (v u : Value) : List Value := [Jint p.un.1, Jint p.un.2.1.un.1, Jint p.un.2.1.un.2.1, Jint p.un.2.1.un.2.2.1, v, Jint p.un.2.2.1, Jint p.un.2.2.2.1, u]
theorem aP : Has Tryz.prog 12 := BM Tryz.func12
def Gs (p0 : Tr31) (p1 : Int) : (Int × Int) → Option ((Int × Int) ⊕ Int)
  | (x2, x3) => (if x3 ≤ (CP p1) then ((Kh (Tr31.of (p0.un.1, Tr28.of (p0.un.2.1.un.1, p0.un.2.1.un.2.1, p0.un.2.1.un.2.2.1, p0.un.2.1.un.2.2.2), p0.un.2.2.1, p0.un.2.2.2.1, p0.un.2.2.2.2)) p1 x3).bind fun x5 => (if x5 = true then some (AJ (x2 + 1)) else some x2)).bind fun x4 => some (.inl (x4, AJ (x3 + 1))) else some (.inr x2))
def J3 (p0 : Tr31) (p1 : Int) : Option Int := (AB (Gs p0 p1) (0, 0)).bind fun x1 => some x1
theorem Sw (Y : Nat → Prop) (w0 : World) (v1 : Value) (v2 : Value) (p0 : Tr31) (p1 : Int) (r : Int) (H : J3 p0 p1 = some r) (h_v1 : Sl w0 (NX []) B0 v1 p0.un.2.1.un.2.2.2) (h_v2 : Sl w0 (NX []) Dw v2 p0.un.2.2.2.2) :
    ca_ 46 #[.agg #[Jint p0.un.1, Jint p0.un.2.1.un.1, Jint p0.un.2.1.un.2.1, Jint p0.un.2.1.un.2.2.1, v1, Jint p0.un.2.2.1, Jint p0.un.2.2.2.1, v2], Jint p1] w0 fun e w' => e = .returned (Jint r) ∧ Below w0.heap.size w0 w' := by
 refine enter Tryz.func46 Aa Tryz.ntmps46 Aa fun a W => ?_
 have F := Stw.start Y w0
 obtain ⟨v3, h1, h_v1⟩ := h_v1.ex CA
 obtain ⟨v4, h2, h_v2⟩ := h_v2.ex D3
 unfold J3 at H
 refine vc tk 2 W F fun a w W F => ?_
 refine BQ (cs := (EA p0 v1 v2)) W F Aa Aa Aa fun b1 a w W F => ?_
 refine Bo tk 8 W F fun a w W F => ?_
 obtain ⟨o1, G1, K1⟩ := Af H
 refine Ap (fun a w => ∃ x1 : Int, some (x1) = some o1 ∧ Fr 20 [] [(4, Jint 0), (5, Jint x1)] a ∧ sy Y w0 (Ft b1 p0 v1 v2) [] w) ?_ ?_
 ·
  have H := G1
  clear G1 K1
  refine vc tk 6 W F fun a w W F => ?_
  refine AQ H (fun s a w => Fr 20 [] [(1, Jint p1), (2, pp b1), (4, Jint 0), (5, Jint s.1), (6, Jint s.2)] a ∧ sy Y w0 (Ft b1 p0 v1 v2) [] w) ⟨W.ra Aa, F⟩ fun s o a w H L2 hR => ?_
  obtain ⟨x2, x3⟩ := s
  obtain ⟨W, F⟩ := hR
  have W : Fr 20 [] [(1, Jint p1), (2, pp b1), (4, Jint 0), (5, Jint x2), (6, Jint x3)] a := W
  have F : sy Y w0 (Ft b1 p0 v1 v2) [] w := F
  rw [Gs] at H
  refine vc tk 5 W F fun a w W F => ?_
  refine ls W F Aa (AA (v := Jint (CP p1)) W Y1 Aa (fun w F => Mh any w p1 _ Aa)) fun a w W F => ?_
  refine Bo tk 3 W F fun a w W F => ?_
  refine A1 W Aa H (fun W H => ?_) fun W H => ?_
  ·
   refine AD (Ab ?_)
   obtain ⟨o3, G3, K3⟩ := Af H
   refine Ap (fun a w => ∃ x4 : Int, some (x4) = some o3 ∧ Fr 20 [] [(1, Jint p1), (2, pp b1), (4, Jint 0), (5, Jint x4), (6, Jint x3)] a ∧ sy Y w0 (Ft b1 p0 v1 v2) [] w) ?_ ?_
   ·
    have H := G3
    clear G3 K3
    refine CT tk 6 [0] W F (ai fun a w W F => ?_)
    obtain ⟨x5, h3, H⟩ := Af H
    refine ls W F Aa (AA (v := Value.bool x5) W YL Aa (fun w F => Ka any w (v1) (v2) (Tr31.of (p0.un.1, Tr28.of (p0.un.2.1.un.1, p0.un.2.1.un.2.1, p0.un.2.1.un.2.2.1, p0.un.2.1.un.2.2.2), p0.un.2.2.1, p0.un.2.2.2.1, p0.un.2.2.2.2)) p1 x3 _ h3 (Cl (Al CA h1 (Ae h_v1)) F) (Cl (Al D3 h2 (Ae h_v2)) F))) fun a w W F => ?_
    refine Bo tk 2 W F fun a w W F => ?_
    refine Bi W Aa H (fun W H => ?_) fun W H => ?_
    ·
     refine vc tk 5 W F fun a w W F => ?_
     refine Az (Ab ?_)
     exact ⟨_, H, W.ra Aa, F⟩
    refine AD (Az (Ab ?_))
    exact ⟨_, H, W.ra Aa, F⟩
   rintro a w ⟨x4, hj, W, F⟩
   have hj := Ay hj
   subst hj
   have H := K3
   clear G3 K3
   refine vc tk 5 W F fun a w W F => ?_
   refine Ab ?_
   exact ⟨_, H, W.ra Aa, F⟩
  refine AN ?_
  iterate 2 refine A6 ?_
  refine AP (Ab ?_)
  have H := L2 _ H
  exact ⟨_, H, W.ra Aa, F⟩
 rintro a w ⟨x1, hj, W, F⟩
 have hj := Ay hj
 subst hj
 have H := K1
 clear G1 K1
 refine vc tk 6 W F fun a w W F => ?_
 refine Ah ?_
 have H := Ay H
 subst H
 refine Av (.inl Aa) W F Aa (Am W Aa) ?_
 exact ⟨rfl, F.done⟩
theorem bM : Has Tryz.prog 46 := BM Tryz.func46
def FZ (p0 : Tr31) : (Int × Int) → Option ((Int × Int) ⊕ Int)
  | (x2, x3) => (if x3 < 5 then ((J3 (Tr31.of (p0.un.1, Tr28.of (p0.un.2.1.un.1, p0.un.2.1.un.2.1, p0.un.2.1.un.2.2.1, p0.un.2.1.un.2.2.2), p0.un.2.2.1, p0.un.2.2.2.1, p0.un.2.2.2.2)) x3).bind fun x5 => (if 100000 < (AJ (x2 * (AJ (x5 + 1)))) then some 100000 else some (AJ (x2 * (AJ (x5 + 1)))))).bind fun x4 => some (.inl (x4, AJ (x3 + 1))) else some (.inr x2))
def Gq (p0 : Tr31) : Option Int := (AB (FZ p0) (1, 0)).bind fun x1 => some x1
theorem MG (Y : Nat → Prop) (w0 : World) (v1 : Value) (v2 : Value) (p0 : Tr31) (r : Int) (H : Gq p0 = some r) (h_v1 : Sl w0 (NX []) B0 v1 p0.un.2.1.un.2.2.2) (h_v2 : Sl w0 (NX []) Dw v2 p0.un.2.2.2.2) :
    ca_ 15 #[.agg #[Jint p0.un.1, Jint p0.un.2.1.un.1, Jint p0.un.2.1.un.2.1, Jint p0.un.2.1.un.2.2.1, v1, Jint p0.un.2.2.1, Jint p0.un.2.2.2.1, v2]] w0 fun e w' => e = .returned (Jint r) ∧ Below w0.heap.size w0 w' := by
 refine enter Tryz.func15 Aa Tryz.ntmps15 Aa fun a W => ?_
 have F := Stw.start Y w0
 obtain ⟨v3, h1, h_v1⟩ := h_v1.ex CA
 obtain ⟨v4, h2, h_v2⟩ := h_v2.ex D3
 unfold Gq at H
 refine vc tk 2 W F fun a w W F => ?_
 refine BQ (cs := (EA p0 v1 v2)) W F Aa Aa Aa fun b1 a w W F => ?_
 refine Bo tk 8 W F fun a w W F => ?_
 obtain ⟨o1, G1, K1⟩ := Af H
 refine Ap (fun a w => ∃ x1 : Int, some (x1) = some o1 ∧ Fr 18 [] [(2, Jint 0), (3, Jint x1)] a ∧ sy Y w0 (Ft b1 p0 v1 v2) [] w) ?_ ?_
 ·
  have H := G1
  clear G1 K1
  refine vc tk 6 W F fun a w W F => ?_
  refine AQ H (fun s a w => Fr 18 [] [(1, pp b1), (2, Jint 0), (3, Jint s.1), (4, Jint s.2)] a ∧ sy Y w0 (Ft b1 p0 v1 v2) [] w) ⟨W.ra Aa, F⟩ fun s o a w H L2 hR => ?_
  obtain ⟨x2, x3⟩ := s
  obtain ⟨W, F⟩ := hR
  have W : Fr 18 [] [(1, pp b1), (2, Jint 0), (3, Jint x2), (4, Jint x3)] a := W
  have F : sy Y w0 (Ft b1 p0 v1 v2) [] w := F
  rw [FZ] at H
  refine vc tk 7 W F fun a w W F => ?_
  refine A1 W Aa H (fun W H => ?_) fun W H => ?_
  ·
   refine AD (Ab ?_)
   obtain ⟨o3, G3, K3⟩ := Af H
   refine Ap (fun a w => ∃ x4 : Int, some (x4) = some o3 ∧ Fr 18 [] [(1, pp b1), (2, Jint 0), (3, Jint x4), (4, Jint x3)] a ∧ sy Y w0 (Ft b1 p0 v1 v2) [] w) ?_ ?_
   ·
    have H := G3
    clear G3 K3
    refine CT tk 6 [0] W F (ai fun a w W F => ?_)
    obtain ⟨x5, h3, H⟩ := Af H
    refine ls W F Aa (AA (v := Jint x5) W bM Aa (fun w F => Sw any w (v1) (v2) (Tr31.of (p0.un.1, Tr28.of (p0.un.2.1.un.1, p0.un.2.1.un.2.1, p0.un.2.1.un.2.2.1, p0.un.2.1.un.2.2.2), p0.un.2.2.1, p0.un.2.2.2.1, p0.un.2.2.2.2)) x3 _ h3 (Cl (Al CA h1 (Ae h_v1)) F) (Cl (Al D3 h2 (Ae h_v2)) F))) fun a w W F => ?_
    refine Bo tk 11 W F fun a w W F => ?_
    refine A1 W Aa H (fun W H => ?_) fun W H => ?_
    ·
     refine vc tk 3 W F fun a w W F => ?_
     refine Az (Ab ?_)
     exact ⟨_, H, W.ra Aa, F⟩
    refine AD (Az (Ab ?_))
    exact ⟨_, H, W.ra Aa, F⟩
   rintro a w ⟨x4, hj, W, F⟩
   have hj := Ay hj
   subst hj
   have H := K3
   clear G3 K3
   refine vc tk 5 W F fun a w W F => ?_
   refine Ab ?_
   exact ⟨_, H, W.ra Aa, F⟩
  refine AN ?_
  iterate 2 refine A6 ?_
  refine AP (Ab ?_)
  have H := L2 _ H
  exact ⟨_, H, W.ra Aa, F⟩
 rintro a w ⟨x1, hj, W, F⟩
 have hj := Ay hj
 subst hj
 have H := K1
 clear G1 K1
 refine vc tk 6 W F fun a w W F => ?_
 refine Ah ?_
 have H := Ay H
 subst H
 refine Av (.inl Aa) W F Aa (Am W Aa) ?_
 exact ⟨rfl, F.done⟩
theorem aN : Has Tryz.prog 15 := BM Tryz.func15
def Fh (p0 : Int × (List (Int × Int × Int × Int × Int × Int)) × (List (Int × Int))) (p1 : Tr31) : Int → Option (Int ⊕ (Unit ⊕ Int))
  | x3 => (if x3 < 8 then ((Kh (Tr31.of (p1.un.1, Tr28.of (p1.un.2.1.un.1, p1.un.2.1.un.2.1, p1.un.2.1.un.2.2.1, p1.un.2.1.un.2.2.2), p1.un.2.2.1, p1.un.2.2.2.1, p1.un.2.2.2.2)) 4 x3).bind fun x5 => (if x5 = true then (HG p0 x3).bind fun x6 => (if (!x6) = true then some true else (Kh (Tr31.of (p1.un.1, Tr28.of (p1.un.2.1.un.1, p1.un.2.1.un.2.1, p1.un.2.1.un.2.2.1, p1.un.2.1.un.2.2.2), p1.un.2.2.1, p1.un.2.2.2.1, p1.un.2.2.2.2)) 5 x3).bind fun x7 => (if x7 = true then some (decide (p0.1 ≤ x3)) else some false)) else (Kh (Tr31.of (p1.un.1, Tr28.of (p1.un.2.1.un.1, p1.un.2.1.un.2.1, p1.un.2.1.un.2.2.1, p1.un.2.1.un.2.2.2), p1.un.2.2.1, p1.un.2.2.2.1, p1.un.2.2.2.2)) 5 x3).bind fun x8 => (if x8 = true then some (decide (p0.1 ≤ x3)) else some false))).bind fun x4 => (if x4 = true then some (.inr (.inr 13)) else some (.inl (AJ (x3 + 1)))) else some (.inr (.inl ())))
def HH (p0 : Int × (List (Int × Int × Int × Int × Int × Int)) × (List (Int × Int))) (p1 : Tr31) : Option Int := (IK p0).bind fun x1 => (if (!x1) = true then some 2 else (HI (Tr31.of (p1.un.1, Tr28.of (p1.un.2.1.un.1, p1.un.2.1.un.2.1, p1.un.2.1.un.2.2.1, p1.un.2.1.un.2.2.2), p1.un.2.2.1, p1.un.2.2.2.1, p1.un.2.2.2.2))).bind fun x2 => (if (!x2) = true then some 17 else HA (AB (Fh p0 p1) 0) fun _ => (Gq (Tr31.of (p1.un.1, Tr28.of (p1.un.2.1.un.1, p1.un.2.1.un.2.1, p1.un.2.1.un.2.2.1, p1.un.2.1.un.2.2.2), p1.un.2.2.1, p1.un.2.2.2.1, p1.un.2.2.2.2))).bind fun x9 => (if 4096 < x9 then some 6 else some 0)))
theorem Q6 (Y : Nat → Prop) (w0 : World) (v1 : Value) (v2 : Value) (v3 : Value) (v4 : Value) (p0 : Int × (List (Int × Int × Int × Int × Int × Int)) × (List (Int × Int))) (p1 : Tr31) (r : Int) (H : HH p0 p1 = some r) (h_v1 : Sl w0 (NX []) IP v1 p0.2.1) (h_v2 : Sl w0 (NX []) Jj v2 p0.2.2) (h_v3 : Sl w0 (NX []) B0 v3 p1.un.2.1.un.2.2.2) (h_v4 : Sl w0 (NX []) Dw v4 p1.un.2.2.2.2) :
    ca_ 10 #[.agg #[Jint p0.1, v1, v2], .agg #[Jint p1.un.1, Jint p1.un.2.1.un.1, Jint p1.un.2.1.un.2.1, Jint p1.un.2.1.un.2.2.1, v3, Jint p1.un.2.2.1, Jint p1.un.2.2.2.1, v4]] w0 fun e w' => e = .returned (Jint r) ∧ Below w0.heap.size w0 w' := by
 refine enter Tryz.func10 Aa Tryz.ntmps10 Aa fun a W => ?_
 have F := Stw.start Y w0
 obtain ⟨v5, h1, h_v3⟩ := h_v3.ex CA
 obtain ⟨v6, h2, h_v4⟩ := h_v4.ex D3
 unfold HH at H
 refine vc tk 2 W F fun a w W F => ?_
 refine BQ (cs := [Jint p0.1, v1, v2]) W F Aa Aa Aa fun b1 a w W F => ?_
 refine BQ (cs := (EA p1 v3 v4)) W F Aa Aa Aa fun b2 a w W F => ?_
 refine Es tk 7 [1] W F (ai fun a w W F => ?_)
 obtain ⟨x1, h3, H⟩ := Af H
 refine ls W F Aa (AA (v := Value.bool x1) W cL Aa (fun w F => Rc any w (v1) (v2) p0 _ h3 (Cl (Ae h_v1) F) (Cl (Ae h_v2) F))) fun a w W F => ?_
 refine Bo tk 3 W F fun a w W F => ?_
 refine Bi W Aa H (fun W H => ?_) fun W H => ?_
 ·
  refine vc tk 5 W F fun a w W F => ?_
  refine Ah (Aw ?_)
  have H := Ay H
  subst H
  refine Av (.inl Aa) W F Aa (Am W Aa) ?_
  exact ⟨rfl, F.done⟩
 refine Hr tk 6 [0] W F (ai fun a w W F => ?_)
 obtain ⟨x2, h4, H⟩ := Af H
 refine ls W F Aa (AA (v := Value.bool x2) W Z7 Aa (fun w F => MQ any w (v3) (v4) (Tr31.of (p1.un.1, Tr28.of (p1.un.2.1.un.1, p1.un.2.1.un.2.1, p1.un.2.1.un.2.2.1, p1.un.2.1.un.2.2.2), p1.un.2.2.1, p1.un.2.2.2.1, p1.un.2.2.2.2)) _ h4 (Cl (Al CA h1 (Ae h_v3)) F) (Cl (Al D3 h2 (Ae h_v4)) F))) fun a w W F => ?_
 refine Bo tk 3 W F fun a w W F => ?_
 refine Bi W Aa H (fun W H => ?_) fun W H => ?_
 ·
  refine vc tk 5 W F fun a w W F => ?_
  refine Ah (Aw ?_)
  have H := Ay H
  subst H
  refine Av (.inl Aa) W F Aa (Am W Aa) ?_
  exact ⟨rfl, F.done⟩
 refine AD (Ab ?_)
 obtain ⟨o1, G1, K1, L1⟩ := Lh H
 refine Ap (fun a w => some (Sum.inl ()) = some o1 ∧ Fr 39 [] [(3, pp b2), (4, Jint 0)] a ∧ sy Y w0 (TZ b2 p1 v3 v4 b1 p0 v1 v2) [] w) ?_ ?_
 ·
  have H := G1
  clear G1 K1
  refine vc tk 6 W F fun a w W F => ?_
  have F := F.frontM (i := 1) Aa Aa
  have F := F.frontM (i := 1) Aa Aa
  refine AQ H (fun s a w => Fr 39 [] [(2, pp b1), (3, pp b2), (4, Jint 0), (5, Jint s)] a ∧ sy Y w0 (TZ b2 p1 v3 v4 b1 p0 v1 v2) [] w) ⟨W.ra Aa, F⟩ fun s o a w H L2 hR => ?_
  obtain ⟨x3, rfl⟩ : ∃ x, x = s := ⟨s, rfl⟩
  obtain ⟨W, F⟩ := hR
  have W : Fr 39 [] [(2, pp b1), (3, pp b2), (4, Jint 0), (5, Jint x3)] a := W
  have F : sy Y w0 (TZ b2 p1 v3 v4 b1 p0 v1 v2) [] w := F
  rw [Fh] at H
  refine vc tk 7 W F fun a w W F => ?_
  refine A1 W Aa H (fun W H => ?_) fun W H => ?_
  ·
   refine EX tk 4 W F fun a w W F => ?_
   obtain ⟨o3, G3, K3⟩ := Af H
   refine Ap (fun a w => ∃ x4 : Bool, some (x4) = some o3 ∧ Fr 39 [] [(2, pp b1), (3, pp b2), (4, Jint 0), (5, Jint x3), (35, .bool x4)] a ∧ sy Y w0 (TZ b2 p1 v3 v4 b1 p0 v1 v2) [] w) ?_ ?_
   ·
    have H := G3
    clear G3 K3
    refine CT tk 3 [0] W F (ai fun a w W F => ?_)
    obtain ⟨x5, h5, H⟩ := Af H
    refine ls W F Aa (AA (v := Value.bool x5) W YL Aa (fun w F => Ka any w (v3) (v4) (Tr31.of (p1.un.1, Tr28.of (p1.un.2.1.un.1, p1.un.2.1.un.2.1, p1.un.2.1.un.2.2.1, p1.un.2.1.un.2.2.2), p1.un.2.2.1, p1.un.2.2.2.1, p1.un.2.2.2.2)) 4 x3 _ h5 (Cl (Al CA h1 (Ae h_v3)) F) (Cl (Al D3 h2 (Ae h_v4)) F))) fun a w W F => ?_
    refine ls W F Aa (Ao W Aa).q fun a w W F => ?_
    rcases bxq x5 with hb | hb
    ·
     have H := BB hb H
     rw [hb] at W
     clear hb
     refine DU tk 2 [1] W F (ai fun a w W F => ?_)
     refine FU (Ad W Aa Aa Aa Aa) ?_
     obtain ⟨x6, h6, H⟩ := Af H
     refine ls W F Aa (AA (v := Value.bool x6) W aP Aa (fun w F => MB any w (v1) (v2) p0 x3 _ h6 (Cl (Ae h_v1) F) (Cl (Ae h_v2) F))) fun a w W F => ?_
     refine vl tk 3 W F fun a w W F => ?_
     rcases bxq (!x6) with hb | hb
     ·
      have H := BB hb H
      rw [hb] at W
      clear hb
      refine vl tk 11 W F fun a w W F => ?_
      refine Ab ?_
      have F := F.frontM (i := 1) Aa Aa
      have F := F.frontM (i := 1) Aa Aa
      exact ⟨_, H, W.ra Aa, F⟩
     have H := BC (by rw [hb]; decide) H
     rw [hb] at W
     clear hb
     refine DU tk 2 [0] W F (ai fun a w W F => ?_)
     refine FU (Ad W Aa Aa Aa Aa) ?_
     obtain ⟨x7, h7, H⟩ := Af H
     refine ls W F Aa (AA (v := Value.bool x7) W YL Aa (fun w F => Ka any w (v3) (v4) (Tr31.of (p1.un.1, Tr28.of (p1.un.2.1.un.1, p1.un.2.1.un.2.1, p1.un.2.1.un.2.2.1, p1.un.2.1.un.2.2.2), p1.un.2.2.1, p1.un.2.2.2.1, p1.un.2.2.2.2)) 5 x3 _ h7 (Cl (Al CA h1 (Ae h_v3)) F) (Cl (Al D3 h2 (Ae h_v4)) F))) fun a w W F => ?_
     refine Dy W F (Ad W Aa Aa Aa Aa) Aa (As Aa) (Ao W Aa).q fun a w W F => ?_
     rcases bxq x7 with hb | hb
     ·
      have H := BB hb H
      rw [hb] at W
      clear hb
      refine DU tk 7 [1] W F (ai fun a w W F => ?_)
      refine Ab ?_
      have F := F.frontM (i := 1) Aa Aa
      have F := F.frontM (i := 1) Aa Aa
      exact ⟨_, H, W.ra Aa, F⟩
     have H := BC (by rw [hb]; decide) H
     rw [hb] at W
     clear hb
     refine vl tk 7 W F fun a w W F => ?_
     refine Ab ?_
     have F := F.frontM (i := 1) Aa Aa
     have F := F.frontM (i := 1) Aa Aa
     exact ⟨_, H, W.ra Aa, F⟩
    have H := BC (by rw [hb]; decide) H
    rw [hb] at W
    clear hb
    refine DU tk 8 [0] W F (ai fun a w W F => ?_)
    refine FU (Ad W Aa Aa Aa Aa) ?_
    obtain ⟨x8, h8, H⟩ := Af H
    refine ls W F Aa (AA (v := Value.bool x8) W YL Aa (fun w F => Ka any w (v3) (v4) (Tr31.of (p1.un.1, Tr28.of (p1.un.2.1.un.1, p1.un.2.1.un.2.1, p1.un.2.1.un.2.2.1, p1.un.2.1.un.2.2.2), p1.un.2.2.1, p1.un.2.2.2.1, p1.un.2.2.2.2)) 5 x3 _ h8 (Cl (Al CA h1 (Ae h_v3)) F) (Cl (Al D3 h2 (Ae h_v4)) F))) fun a w W F => ?_
    refine Dy W F (Ad W Aa Aa Aa Aa) Aa (As Aa) (Ao W Aa).q fun a w W F => ?_
    rcases bxq x8 with hb | hb
    ·
     have H := BB hb H
     rw [hb] at W
     clear hb
     refine DU tk 7 [1] W F (ai fun a w W F => ?_)
     refine Ab ?_
     have F := F.frontM (i := 1) Aa Aa
     have F := F.frontM (i := 1) Aa Aa
     exact ⟨_, H, W.ra Aa, F⟩
    have H := BC (by rw [hb]; decide) H
    rw [hb] at W
    clear hb
    refine vl tk 7 W F fun a w W F => ?_
    refine Ab ?_
    have F := F.frontM (i := 1) Aa Aa
    have F := F.frontM (i := 1) Aa Aa
    exact ⟨_, H, W.ra Aa, F⟩
   rintro a w ⟨x4, hj, W, F⟩
   have hj := Ay hj
   subst hj
   have H := K3
   clear G3 K3
   refine Bi W Aa H (fun W H => ?_) fun W H => ?_
   ·
    refine vc tk 5 W F fun a w W F => ?_
    refine Ah (AC ?_)
    iterate 2 refine Aw ?_
    refine AC (Aw ?_)
    have H := L2 _ H
    have H := L1 _ H
    have H := Ay H
    subst H
    refine Av (.inl Aa) W F Aa (Am W Aa) ?_
    exact ⟨rfl, F.done⟩
   refine AD (Az ?_)
   refine vn tk 5 W F fun a w W F => ?_
   refine Ab ?_
   have F := F.frontM (i := 1) Aa Aa
   have F := F.frontM (i := 1) Aa Aa
   exact ⟨_, H, W.ra Aa, F⟩
  refine AN ?_
  iterate 2 refine A6 ?_
  refine AP (Ab ?_)
  have F := F.frontM (i := 1) Aa Aa
  have F := F.frontM (i := 1) Aa Aa
  have H := L2 _ H
  exact ⟨H, W.ra Aa, F⟩
 rintro a w ⟨hj, W, F⟩
 have H := K1 _ hj
 clear hj G1 K1 L1
 refine CT tk 4 [0] W F (ai fun a w W F => ?_)
 obtain ⟨x9, h9, H⟩ := Af H
 refine ls W F Aa (AA (v := Jint x9) W aN Aa (fun w F => MG any w (v3) (v4) (Tr31.of (p1.un.1, Tr28.of (p1.un.2.1.un.1, p1.un.2.1.un.2.1, p1.un.2.1.un.2.2.1, p1.un.2.1.un.2.2.2), p1.un.2.2.1, p1.un.2.2.2.1, p1.un.2.2.2.2)) _ h9 (Cl (Al CA h1 (Ae h_v3)) F) (Cl (Al D3 h2 (Ae h_v4)) F))) fun a w W F => ?_
 refine Bo tk 3 W F fun a w W F => ?_
 refine A1 W Aa H (fun W H => ?_) fun W H => ?_
 ·
  refine vc tk 5 W F fun a w W F => ?_
  refine Ah (Aw ?_)
  have H := Ay H
  subst H
  refine Av (.inl Aa) W F Aa (Am W Aa) ?_
  exact ⟨rfl, F.done⟩
 refine EX tk 7 W F fun a w W F => ?_
 refine Ah ?_
 have H := Ay H
 subst H
 refine Av (.inl Aa) W F Aa (Am W Aa) ?_
 exact ⟨rfl, F.done⟩
theorem bV : Has Tryz.prog 10 := BM Tryz.func10
theorem WP : (Tryz.prog.info? 31).bind (·.zero) = some (.agg #[Jint 0, Jint 0, Jint 0, Jint 0, .slice none 0 0, Jint 0, Jint 0, .slice none 0 0]) := by kernel_rfl
theorem VT : (Tryz.prog.info? 28).bind (·.zero) = some (.agg #[Jint 0, Jint 0, Jint 0, .slice none 0 0]) := by kernel_rfl
theorem Zn : Has Tryz.prog 24 := BM Tryz.func24
abbrev O3 (a0 : Nat) (a1 : Tr36) (a2 : Value) (a3 : Nat) (a4 : Nat) (a5 : Value) : List (Nat × List Value) := [(a0, [Jint a1.un.1, Jint a1.un.2.1, Jint a1.un.2.2.1, a2]), (a3, [Jint 0, Jint 0, Jint 0, .slice none 0 0]), (a4, [Jint a1.un.1, Jint a1.un.2.1, Jint a1.un.2.2.1, a5])]
def Dd (fRec : Tr36 → Option Tr28) (p0 : Tr36) : (Int × List Tr28) → Option ((Int × List Tr28) ⊕ (List Tr28))
  | (x2, x3) => (if x2 < (p0.un.2.2.2.length : Int) then (ix p0.un.2.2.2 x2).bind fun x4 => (fRec x4).bind fun x5 => (GP x3 ([x5] : List Tr28)).bind fun x6 => some (.inl (AJ (x2 + 1), x6)) else some (.inr x3))
def D4 (fRec : Tr36 → Option Tr28) (p0 : Tr36) : Option Tr28 := (AB (Dd fRec p0) (0, [])).bind fun x1 => some (Tr28.of (p0.un.1, p0.un.2.1, p0.un.2.2.1, x1))
def Dq : Nat → Tr36 → Option Tr28
  | 0 => fun _ => none
  | n + 1 => D4 (Dq n)
def Lc (p0 : Tr36) : Option Tr28 := FT fun n => Dq n p0
theorem NF (fRec : Tr36 → Option Tr28) (ih : ∀ (Y : Nat → Prop) (w0 : World) (v1 : Value) (p0 : Tr36) (r : Tr28) (H : fRec p0 = some r) (h_v1 : Sl w0 (NX []) Bm v1 p0.un.2.2.2), ca_ 24 #[.agg #[Jint p0.un.1, Jint p0.un.2.1, Jint p0.un.2.2.1, v1]] w0 fun e w' => ∃ x : Value, e = .returned (.agg #[Jint r.un.1, Jint r.un.2.1, Jint r.un.2.2.1, x]) ∧ sy Y w0 [] [row (x) 28 B0 r.un.2.2.2] w') (Y : Nat → Prop) (w0 : World) (v1 : Value) (p0 : Tr36) (r : Tr28) (H : D4 fRec p0 = some r) (h_v1 : Sl w0 (NX []) Bm v1 p0.un.2.2.2) :
    ca_ 24 #[.agg #[Jint p0.un.1, Jint p0.un.2.1, Jint p0.un.2.2.1, v1]] w0 fun e w' => ∃ x : Value, e = .returned (.agg #[Jint r.un.1, Jint r.un.2.1, Jint r.un.2.2.1, x]) ∧ sy Y w0 [] [row (x) 28 B0 r.un.2.2.2] w' := by
 refine enter Tryz.func24 Aa Tryz.ntmps24 Aa fun a W => ?_
 have F := Stw.start Y w0
 obtain ⟨v2, h1, h_v1⟩ := h_v1.ex BK
 unfold D4 at H
 refine vc tk 2 W F fun a w W F => ?_
 refine BQ (cs := (Hl p0 v1)) W F Aa Aa Aa fun b1 a w W F => ?_
 refine Bw (cs := (Is)) W F Aa VT Aa fun b2 a w W F => ?_
 refine Es tk 10 [1, 1, 1] W F (ai (ai (ai fun a w W F => ?_)))
 refine ls W F Aa (Cf (v := Value.agg #[Jint p0.un.1, Jint p0.un.2.1, Jint p0.un.2.2.1, .slice none 0 0]) Wy W Aa Aa Aa).q fun a w W F => ?_
 refine Bw (cs := (Is)) W F Aa VT Aa fun b3 a w W F => ?_
 refine CE 0 W F Aa Aa Aa I2 Aa Aa Aa fun w F => ?_
 refine F6 (Ab ?_)
 obtain ⟨o1, G1, K1⟩ := Af H
 refine Ap (fun a w => ∃ x1 : List Tr28, ∃ v3 : Value, some (x1) = some o1 ∧ Fr 31 [] [(2, pp b2), (3, pp b3)] a ∧ sy Y w0 (O3 b3 p0 v3 b2 b1 v1) [row v3 28 B0 x1] w) ?_ ?_
 ·
  have H := G1
  clear G1 K1
  refine vc tk 6 W F fun a w W F => ?_
  have F := F.nilRow 28 B0
  have F := F.frontM (i := 2) Aa Aa
  have F := F.frontM (i := 2) Aa Aa
  have F := F.frontM (i := 2) Aa Aa
  refine AQ H (fun s a w => ∃ v4 : Value, Fr 31 [] [(1, pp b1), (2, pp b2), (3, pp b3), (4, Jint s.1)] a ∧ sy Y w0 (O3 b3 p0 v4 b2 b1 v1) [row v4 28 B0 s.2] w) ⟨(Value.slice none 0 0), W.ra Aa, F⟩ fun s o a w H L2 hR => ?_
  obtain ⟨x2, x3⟩ := s
  obtain ⟨v4, W, F⟩ := hR
  have W : Fr 31 [] [(1, pp b1), (2, pp b2), (3, pp b3), (4, Jint x2)] a := W
  have F : sy Y w0 (O3 b3 p0 v4 b2 b1 v1) [row v4 28 B0 x3] w := F
  rw [Dd] at H
  refine CT tk 6 [2] W F (ai fun a w W F => ?_)
  refine ls W F Aa (Bz (r := Bm) (l := p0.un.2.2.2) IU Aa W Aa (Al BK h1 (Ae h_v1))).q fun a w W F => ?_
  refine Bo tk 3 W F fun a w W F => ?_
  refine A1 W Aa H (fun W H => ?_) fun W H => ?_
  ·
   refine EX tk 4 W F fun a w W F => ?_
   obtain ⟨v5, h2, F⟩ := F.exR CA
   refine Ef [(true, 0), (true, 1), (true, 2), (true, 3), (true, 4), (true, 5), (true, 6), (false, 7), (false, 8), (false, 9), (true, 10), (false, 11)] (CN ⟨Y, [], w0⟩ [(some 9, b3, [Jint p0.un.1, Jint p0.un.2.1, Jint p0.un.2.2.1, v4]), (some 7, b1, [Jint p0.un.1, Jint p0.un.2.1, Jint p0.un.2.2.1, v1])] []) (fun ch a d v w h => by cases d <;> exact h) MO (by kernel_rfl) F (fun w F => ⟨_, _, F, (all_cons (fun _ => (.head _)) (all_cons (fun _ => (.tail _ (.tail _ (.head _)))) Ak)), Ak⟩) fun w F => ?_
   refine A9 (R := []) W Aa Aa (yC fun M Z hN hZ => Aq Nc Aa Aa Aa VO W Aa 3 Aa) Aa Aa fun a W => ?_
   refine A9 (R := [9]) W Aa Aa (yC fun M Z hN hZ => Cx (cs := (Hl p0 v4)) (v := v4) W Aa (hN ((some 9), b3, (Hl p0 v4)) (.head _) Aa) VO Aa) (by kernel_rfl) Aa fun a W => ?_
   refine A9 (R := []) W Aa Aa (yC fun M Z hN hZ => Aq Mi Aa Aa Aa WH W Aa 3 Aa) Aa Aa fun a W => ?_
   refine A9 (R := [7, 6, 5]) W Aa Aa (yC fun M Z hN hZ => Cx (cs := (Hl p0 v1)) (v := v1) W Aa (hN ((some 7), b1, (Hl p0 v1)) (.tail _ (.head _)) Aa) WH Aa) (by kernel_rfl) Aa fun a W => ?_
   refine A9 (R := []) W Aa Aa (yC fun M Z hN hZ => Ao W Aa) Aa Aa fun a W => ?_
   obtain ⟨x4, h3, H⟩ := Af H
   obtain ⟨v6, h4, h5⟩ := CS h1 h3
   have h6 : He v6 = [Jint x4.un.1, Jint x4.un.2.1, Jint x4.un.2.2.1, (v6.2.2.2.1)] := congrArg (fun q : Tr36 => ([Jint q.un.1, Jint q.un.2.1, Jint q.un.2.2.1, (v6.2.2.2.1)] : List Value)) h5
   refine A9 (R := []) W Aa Aa (yC fun M Z hN hZ => Au (r := HE) PI W Aa Aa (Ae h_v1) h4) Aa Aa fun a W => ?_
   refine A9 (R := []) W Aa Aa (yC fun M Z hN hZ => Aj (y := Value.agg #[Jint x4.un.1, Jint x4.un.2.1, Jint x4.un.2.2.1, (v6.2.2.2.1)]) (j := 0) (i := x2) (enc := He) W Aa Aa (Ae h_v1) h4 Mp GN (by rw [h6]; rfl)) Aa Aa fun a W => ?_
   refine Dt Aa ?_
   obtain ⟨x5, h7, H⟩ := Af H
   refine AO (Ml := []) (Zl := []) (β := Value) (rv := fun x => .agg #[Jint x5.un.1, Jint x5.un.2.1, Jint x5.un.2.2.1, x]) (MM := fun x => []) (ZZ := fun x => [row x 28 B0 x5.un.2.2.2]) W F Zn Aa Aa (fun hL => ih _ w ((v6.2.2.2.1)) x4 _ h7 ((Bf (Ae h_v1) h4 (Ag.snd (Ag.snd (Ag.snd Ag.here))) (congrArg (fun q : Tr36 => q.un.2.2.2) h5)) w F).nx) fun x a w W F => ?_
   obtain ⟨v7, rfl⟩ : ∃ y, y = x := ⟨x, rfl⟩
   have F : sy Y w0 (O3 b3 p0 v4 b2 b1 v1) [row v7 28 B0 x5.un.2.2.2, row v4 28 Ia v5] w := F
   refine Bc (N2 := []) (NZ2 := []) (N3 := [(some 9, b3, [Jint p0.un.1, Jint p0.un.2.1, Jint p0.un.2.2.1, v4]), (some 7, b1, [Jint p0.un.1, Jint p0.un.2.1, Jint p0.un.2.2.1, v1])]) (NZ3 := []) F Aa Aa (all_cons (fun _ => (.head _)) (all_cons (fun h => An (by kernel_rfl) h) Ak)) Ak ?_
   refine Dt Aa ?_
   have F := F.freeze
   refine GT (z := Value.agg #[Jint 0, Jint 0, Jint 0, .slice none 0 0]) (cs := (Jp x5 v7)) B0 ([x5] : List Tr28) W F Aa Se VT Aa Aa Aa (AY Aa Aa Aa CQ) Aa Aa ⟨[Jint x5.un.1, Jint x5.un.2.1, Jint x5.un.2.2.1, v7], _, Aa, (RL.2 ⟨[Jint x5.un.1], [Jint x5.un.2.1, Jint x5.un.2.2.1, v7], Aa, Aa, ⟨[Jint x5.un.2.1], [Jint x5.un.2.2.1, v7], Aa, Aa, ⟨[Jint x5.un.2.2.1], [v7], Aa, Aa, ⟨_, Aa, (F.item (i := 0) Aa)⟩⟩⟩⟩), Aa⟩ fun v8 a w W F => ?_
   refine Bc (N2 := []) (NZ2 := []) (N3 := [(some 9, b3, [Jint p0.un.1, Jint p0.un.2.1, Jint p0.un.2.2.1, v4]), (some 7, b1, [Jint p0.un.1, Jint p0.un.2.1, Jint p0.un.2.2.1, v1])]) (NZ3 := []) F Aa Aa (all_cons (fun _ => (.head _)) (all_cons (fun h => An (by kernel_rfl) h) Ak)) Ak ?_
   refine Dt Aa ?_
   have F := F.frontZ (i := 2) Aa Aa
   have F := F.hideR CA h2
   obtain ⟨x6, h8, H⟩ := Af H
   refine DL (r := B0) (i := 0) W F Aa Se Aa Aa Aa Aa (EB F 1 Aa) h8 Aa fun v9 a w W F => ?_
   have F : sy Y w0 (O3 b3 p0 v4 b2 b1 v1) [row v9 28 B0 x6, row v8 28 B0 ([x5] : List Tr28), Ch v7 B0 x5.un.2.2.2] w := F
   refine Bc (N2 := []) (NZ2 := []) (N3 := [(some 9, b3, [Jint p0.un.1, Jint p0.un.2.1, Jint p0.un.2.2.1, v4]), (some 7, b1, [Jint p0.un.1, Jint p0.un.2.1, Jint p0.un.2.2.1, v1])]) (NZ3 := []) F Aa Aa (all_cons (fun h => An (by kernel_rfl) h) (all_cons (fun h => An (by kernel_rfl) h) Ak)) Ak ?_
   refine A9 (R := []) W Aa Aa (yC fun M Z hN hZ => Aq Nc Aa Aa Aa VO W Aa 3 Aa) Aa Aa fun a W => ?_
   refine Dt Aa ?_
   refine IV (M' := (O3 b3 p0 v9 b2 b1 v1)) 0 W F Aa Aa Aa VO (F.one (k := 0) Aa) Aa Aa fun w F => ?_
   refine Bc (N2 := []) (NZ2 := []) (N3 := [(some 9, b3, [Jint p0.un.1, Jint p0.un.2.1, Jint p0.un.2.2.1, v4]), (some 7, b1, [Jint p0.un.1, Jint p0.un.2.1, Jint p0.un.2.2.1, v1])]) (NZ3 := []) F Aa Aa (all_cons (fun h => An (by kernel_rfl) h) (all_cons (fun h => An (by kernel_rfl) h) Ak)) Ak ?_
   refine FL (Az ?_)
   refine vn tk 5 W F fun a w W F => ?_
   refine Ab ?_
   have F := F.frontM (i := 2) Aa Aa
   have F := F.frontM (i := 2) Aa Aa
   have F := F.frontM (i := 2) Aa Aa
   have F := F.sub (M' := (O3 b3 p0 v9 b2 b1 v1)) (Z' := [row v9 28 B0 x6]) sr (sc nl)
   exact ⟨_, H, (v9), W.ra Aa, F⟩
  refine AN ?_
  iterate 2 refine A6 ?_
  refine AP (Ab ?_)
  have F := F.frontM (i := 2) Aa Aa
  have F := F.frontM (i := 2) Aa Aa
  have F := F.frontM (i := 2) Aa Aa
  have H := L2 _ H
  exact ⟨_, (v4), H, W.ra Aa, F⟩
 rintro a w ⟨x1, v3, hj, W, F⟩
 have hj := Ay hj
 subst hj
 have H := K1
 clear G1 K1
 refine CT tk 3 [0] W F (ai fun a w W F => ?_)
 refine CE 1 W F Aa Aa Aa I2 Aa Aa (Ac Aa (Ac Aa (Ac Aa (Ac (F.one (k := 0) Aa) Bn)))) fun w F => ?_
 refine Bo tk 2 W F fun a w W F => ?_
 refine Ah ?_
 have H := Ay H
 subst H
 refine Av (.inl Aa) W F Aa (Cm 1 W Aa Aa I2 Aa) ?_
 have F := F.sub (M' := []) (Z' := [row v3 28 B0 x1]) nl sr
 exact ⟨(v3), Aa, F⟩
theorem Pq : ∀ (n : Nat) (Y : Nat → Prop) (w0 : World) (v1 : Value) (p0 : Tr36) (r : Tr28) (H : Dq n p0 = some r) (h_v1 : Sl w0 (NX []) Bm v1 p0.un.2.2.2), ca_ 24 #[.agg #[Jint p0.un.1, Jint p0.un.2.1, Jint p0.un.2.2.1, v1]] w0 fun e w' => ∃ x : Value, e = .returned (.agg #[Jint r.un.1, Jint r.un.2.1, Jint r.un.2.2.1, x]) ∧ sy Y w0 [] [row (x) 28 B0 r.un.2.2.2] w' := by
  intro n
  induction n with
  | zero => intro Y w0 v1 p0 r H; exact nomatch H
  | succ n ih => intro Y w0 v1 p0 r H h_v1; exact NF (Dq n) ih Y w0 v1 p0 r H h_v1
theorem Lt (Y : Nat → Prop) (w0 : World) (v1 : Value) (p0 : Tr36) (r : Tr28) (H : Lc p0 = some r) (h_v1 : Sl w0 (NX []) Bm v1 p0.un.2.2.2) :
    ca_ 24 #[.agg #[Jint p0.un.1, Jint p0.un.2.1, Jint p0.un.2.2.1, v1]] w0 fun e w' => ∃ x : Value, e = .returned (.agg #[Jint r.un.1, Jint r.un.2.1, Jint r.un.2.2.1, x]) ∧ sy Y w0 [] [row (x) 28 B0 r.un.2.2.2] w' := by
  obtain ⟨n, H⟩ := BP H
  exact Pq n Y w0 v1 p0 r H h_v1
theorem YG : Bt Tryz.prog 31 [Jint 0, Jint 0, Jint 0, Jint 0, .slice none 0 0, Jint 0, Jint 0, .slice none 0 0] [(0, 1), (1, 4), (5, 1), (6, 1), (7, 1)] := ⟨⟨.agg #[Jint 0, Jint 0, Jint 0, Jint 0, .slice none 0 0, Jint 0, Jint 0, .slice none 0 0], by kernel_rfl, rfl⟩, ⟨_, Ii, fun w => by kernel_rfl⟩⟩
theorem aU : Has Tryz.prog 17 := BM Tryz.func17
abbrev Yd (a0 : Nat) (a1 : Tr39) (a2 : Tr28) (a3 : Value) (a4 : Nat) (a5 : Nat) (a6 : Value) (a7 : Value) : List (Nat × List Value) := [(a0, [Jint a1.un.1, Jint a2.un.1, Jint a2.un.2.1, Jint a2.un.2.2.1, a3, Jint a1.un.2.2.1, Jint a1.un.2.2.2.1, .slice none 0 0]), (a4, [Jint 0, Jint 0, Jint 0, Jint 0, .slice none 0 0, Jint 0, Jint 0, .slice none 0 0]), (a5, [Jint a1.un.1, Jint a1.un.2.1.un.1, Jint a1.un.2.1.un.2.1, Jint a1.un.2.1.un.2.2.1, a6, Jint a1.un.2.2.1, Jint a1.un.2.2.2.1, a7])]
abbrev XX (a0 : Nat) (a1 : Nat) (a2 : Nat) (a3 : Tr39) (a4 : Value) (a5 : Value) : List (Nat × List Value) := [(a0, [Jint 0, Jint 0, Jint 0, Jint 0, .slice none 0 0, Jint 0, Jint 0, .slice none 0 0]), (a1, [Jint 0, Jint 0, Jint 0, Jint 0, .slice none 0 0, Jint 0, Jint 0, .slice none 0 0]), (a2, [Jint a3.un.1, Jint a3.un.2.1.un.1, Jint a3.un.2.1.un.2.1, Jint a3.un.2.1.un.2.2.1, a4, Jint a3.un.2.2.1, Jint a3.un.2.2.2.1, a5])]
abbrev Om (a0 : Nat) (a1 : Tr39) (a2 : Tr28) (a3 : Value) (a4 : Value) (a5 : Nat) (a6 : Nat) (a7 : Value) (a8 : Value) : List (Nat × List Value) := [(a0, [Jint a1.un.1, Jint a2.un.1, Jint a2.un.2.1, Jint a2.un.2.2.1, a3, Jint a1.un.2.2.1, Jint a1.un.2.2.2.1, a4]), (a5, [Jint 0, Jint 0, Jint 0, Jint 0, .slice none 0 0, Jint 0, Jint 0, .slice none 0 0]), (a6, [Jint a1.un.1, Jint a1.un.2.1.un.1, Jint a1.un.2.1.un.2.1, Jint a1.un.2.1.un.2.2.1, a7, Jint a1.un.2.2.1, Jint a1.un.2.2.2.1, a8])]
abbrev Wu (a0 : Tr39) (a1 : Tr28) (a2 : Value) (a3 : Value) : List Value := [Jint a0.un.1, Jint a1.un.1, Jint a1.un.2.1, Jint a1.un.2.2.1, a2, Jint a0.un.2.2.1, Jint a0.un.2.2.2.1, a3]
def Dm (fRec : Tr39 → Option Tr31) (p0 : Tr39) : (Int × List Tr31) → Option ((Int × List Tr31) ⊕ (List Tr31))
  | (x3, x4) => (if x3 < (p0.un.2.2.2.2.length : Int) then (ix p0.un.2.2.2.2 x3).bind fun x5 => (fRec (Tr39.of (x5.un.1, Tr36.of (x5.un.2.1.un.1, x5.un.2.1.un.2.1, x5.un.2.1.un.2.2.1, x5.un.2.1.un.2.2.2), x5.un.2.2.1, x5.un.2.2.2.1, x5.un.2.2.2.2))).bind fun x6 => (GP x4 ([Tr31.of (x6.un.1, Tr28.of (x6.un.2.1.un.1, x6.un.2.1.un.2.1, x6.un.2.1.un.2.2.1, x6.un.2.1.un.2.2.2), x6.un.2.2.1, x6.un.2.2.2.1, x6.un.2.2.2.2)] : List Tr31)).bind fun x7 => some (.inl (AJ (x3 + 1), x7)) else some (.inr x4))
def D6 (fRec : Tr39 → Option Tr31) (p0 : Tr39) : Option Tr31 := (Lc (Tr36.of (p0.un.2.1.un.1, p0.un.2.1.un.2.1, p0.un.2.1.un.2.2.1, p0.un.2.1.un.2.2.2))).bind fun x1 => (AB (Dm fRec p0) (0, [])).bind fun x2 => some (Tr31.of (p0.un.1, x1, p0.un.2.2.1, p0.un.2.2.2.1, x2))
def DB : Nat → Tr39 → Option Tr31
  | 0 => fun _ => none
  | n + 1 => D6 (DB n)
def KY (p0 : Tr39) : Option Tr31 := FT fun n => DB n p0
theorem OE (fRec : Tr39 → Option Tr31) (ih : ∀ (Y : Nat → Prop) (w0 : World) (v1 : Value) (v2 : Value) (p0 : Tr39) (r : Tr31) (H : fRec p0 = some r) (h_v1 : Sl w0 (NX []) Bm v1 p0.un.2.1.un.2.2.2) (h_v2 : Sl w0 (NX []) DF v2 p0.un.2.2.2.2), ca_ 17 #[.agg #[Jint p0.un.1, Jint p0.un.2.1.un.1, Jint p0.un.2.1.un.2.1, Jint p0.un.2.1.un.2.2.1, v1, Jint p0.un.2.2.1, Jint p0.un.2.2.2.1, v2]] w0 fun e w' => ∃ x : Value × Value, e = .returned (.agg #[Jint r.un.1, Jint r.un.2.1.un.1, Jint r.un.2.1.un.2.1, Jint r.un.2.1.un.2.2.1, x.1, Jint r.un.2.2.1, Jint r.un.2.2.2.1, x.2]) ∧ sy Y w0 [] [row (x.1) 28 B0 r.un.2.1.un.2.2.2, row (x.2) 31 Dw r.un.2.2.2.2] w') (Y : Nat → Prop) (w0 : World) (v1 : Value) (v2 : Value) (p0 : Tr39) (r : Tr31) (H : D6 fRec p0 = some r) (h_v1 : Sl w0 (NX []) Bm v1 p0.un.2.1.un.2.2.2) (h_v2 : Sl w0 (NX []) DF v2 p0.un.2.2.2.2) :
    ca_ 17 #[.agg #[Jint p0.un.1, Jint p0.un.2.1.un.1, Jint p0.un.2.1.un.2.1, Jint p0.un.2.1.un.2.2.1, v1, Jint p0.un.2.2.1, Jint p0.un.2.2.2.1, v2]] w0 fun e w' => ∃ x : Value × Value, e = .returned (.agg #[Jint r.un.1, Jint r.un.2.1.un.1, Jint r.un.2.1.un.2.1, Jint r.un.2.1.un.2.2.1, x.1, Jint r.un.2.2.1, Jint r.un.2.2.2.1, x.2]) ∧ sy Y w0 [] [row (x.1) 28 B0 r.un.2.1.un.2.2.2, row (x.2) 31 Dw r.un.2.2.2.2] w' := by
 refine enter Tryz.func17 Aa Tryz.ntmps17 Aa fun a W => ?_
 have F := Stw.start Y w0
 obtain ⟨v3, h1, h_v1⟩ := h_v1.ex BK
 obtain ⟨v4, h2, h_v2⟩ := h_v2.ex Er
 unfold D6 at H
 refine vc tk 2 W F fun a w W F => ?_
 refine BQ (cs := (C7 p0 v1 v2)) W F Aa Aa Aa fun b1 a w W F => ?_
 refine Bw (cs := (Gt)) W F Aa WP Aa fun b2 a w W F => ?_
 refine Bo tk 3 W F fun a w W F => ?_
 obtain ⟨x1, h3, H⟩ := Af H
 refine SZ (fun a w => ∃ b3 : Nat, ∃ v5 : Value, Fr 34 [] [(0, .agg #[Jint p0.un.1, Jint p0.un.2.1.un.1, Jint p0.un.2.1.un.2.1, Jint p0.un.2.1.un.2.2.1, v1, Jint p0.un.2.2.1, Jint p0.un.2.2.2.1, v2]), (1, pp b1), (2, pp b2), (3, pp b3), (5, pp b1), (6, Jint p0.un.1), (7, .pointer (some ⟨b1, 1, none⟩)), (8, .agg #[Jint p0.un.2.1.un.1, Jint p0.un.2.1.un.2.1, Jint p0.un.2.1.un.2.2.1, v1]), (9, .agg #[Jint x1.un.1, Jint x1.un.2.1, Jint x1.un.2.2.1, v5]), (10, .pointer (some ⟨b1, 5, none⟩)), (11, Jint p0.un.2.2.1), (12, .pointer (some ⟨b1, 6, none⟩)), (13, Jint p0.un.2.2.2.1), (14, .agg #[Jint p0.un.1, Jint x1.un.1, Jint x1.un.2.1, Jint x1.un.2.2.1, v5, Jint p0.un.2.2.1, Jint p0.un.2.2.2.1, .slice none 0 0])] a ∧ sy Y w0 (Yd b3 p0 x1 v5 b2 b1 v1 v2) [row v5 28 B0 x1.un.2.2.2] w) ?_ ?_
 ·
  refine Rx (PT.st 0 (PT.st 1 (PT.st 2 (PT.st 3 (PT.st 5 (PT.st 6 (PT.st 7 (PT.st 8 (PT.alt 4 (PT.st 9 (PT.alt 10 (PT.alt 11 PT.done PT.stop) PT.stop)) (PT.alt 10 (PT.alt 4 (PT.st 9 (PT.alt 11 PT.done PT.stop)) PT.stop) PT.stop)))))))))) (CN ⟨Y, [], w0⟩ [(some 11, b1, pz39 p0 v1 v2), (some 4, b1, pz39 p0 v1 v2)] []) (fun ch a d v w h => by cases d <;> exact h) MO (by kernel_rfl) F (fun w F => ⟨_, _, F, (all_cons (fun _ => (.tail _ (.head _))) (all_cons (fun _ => (.tail _ (.head _))) Ak)), Ak⟩) fun w F => ?_
  refine IC (R := []) W Aa Aa (yC fun M Z hN hZ => Aq Ih Aa Aa Aa T3 W Aa 0 Aa) Aa Aa fun a W => ?_
  refine IC (R := [11]) W Aa Aa (yC fun M Z hN hZ => Cx (cs := (C7 p0 v1 v2)) (v := Jint p0.un.1) W Aa (hN ((some 11), b1, (C7 p0 v1 v2)) (.head _) Aa) T3 Aa) (by kernel_rfl) Aa fun a W => ?_
  refine IC (R := []) W Aa Aa (yC fun M Z hN hZ => Aq Ih Aa Aa Aa GN W Aa 1 Aa) Aa Aa fun a W => ?_
  refine IC (R := [4]) W Aa Aa (yC fun M Z hN hZ => Cx (cs := (C7 p0 v1 v2)) (v := Value.agg #[Jint p0.un.2.1.un.1, Jint p0.un.2.1.un.2.1, Jint p0.un.2.1.un.2.2.1, v1]) W Aa (hN ((some 4), b1, (C7 p0 v1 v2)) (.tail _ (.head _)) Aa) GN Aa) (by kernel_rfl) Aa fun a W => ?_
  refine IC (R := []) W Aa Aa (yC fun M Z hN hZ => Aq Ih Aa Aa Aa T3 W Aa 5 Aa) Aa Aa fun a W => ?_
  refine IC (R := [11]) W Aa Aa (yC fun M Z hN hZ => Cx (cs := (C7 p0 v1 v2)) (v := Jint p0.un.2.2.1) W Aa (hN ((some 11), b1, (C7 p0 v1 v2)) (.head _) Aa) T3 Aa) (by kernel_rfl) Aa fun a W => ?_
  refine IC (R := []) W Aa Aa (yC fun M Z hN hZ => Aq Ih Aa Aa Aa T3 W Aa 6 Aa) Aa Aa fun a W => ?_
  refine IC (R := [11]) W Aa Aa (yC fun M Z hN hZ => Cx (cs := (C7 p0 v1 v2)) (v := Jint p0.un.2.2.2.1) W Aa (hN ((some 11), b1, (C7 p0 v1 v2)) (.head _) Aa) T3 Aa) (by kernel_rfl) Aa fun a W => ?_
  refine UL Aa ?_ ?_
  ·
   refine AO (Ml := []) (Zl := []) (β := Value) (rv := fun x => .agg #[Jint x1.un.1, Jint x1.un.2.1, Jint x1.un.2.2.1, x]) (MM := fun x => []) (ZZ := fun x => [row x 28 B0 x1.un.2.2.2]) W F Zn Aa Aa (fun hL => Lt _ w (v1) (Tr36.of (p0.un.2.1.un.1, p0.un.2.1.un.2.1, p0.un.2.1.un.2.2.1, p0.un.2.1.un.2.2.2)) _ h3 ((Al BK h1 (Ae h_v1)) w F).nx) fun x a w W F => ?_
   obtain ⟨v5, rfl⟩ : ∃ y, y = x := ⟨x, rfl⟩
   have F : sy Y w0 (U9 b2 b1 p0 v1 v2) [row v5 28 B0 x1.un.2.2.2] w := F
   refine Gb (N2 := []) (NZ2 := []) (N3 := [(some 11, b1, pz39 p0 v1 v2), (some 4, b1, pz39 p0 v1 v2)]) (NZ3 := []) F Aa Aa (all_cons (fun _ => (.tail _ (.head _))) (all_cons (fun h => An (by kernel_rfl) h) Ak)) Ak ?_
   refine IC (R := []) W Aa Aa (yC fun M Z hN hZ => Cf (v := Value.agg #[Jint p0.un.1, Jint x1.un.1, Jint x1.un.2.1, Jint x1.un.2.2.1, v5, Jint p0.un.2.2.1, Jint p0.un.2.2.2.1, .slice none 0 0]) YG W Aa (AY Aa Aa Aa (AY Aa Aa Aa (AY Aa Aa Aa (AY Aa Aa Aa CQ)))) Aa) Aa Aa fun a W => ?_
   refine MD Aa ?_
   refine Bw (cs := (Gt)) W F Aa WP Aa fun b3 a w W F => ?_
   refine Gb (N2 := []) (NZ2 := []) (N3 := [(some 11, b1, pz39 p0 v1 v2), (some 4, b1, pz39 p0 v1 v2)]) (NZ3 := []) F Aa Aa (all_cons (fun _ => (.tail _ (.tail _ (.head _)))) (all_cons (fun h => An (by kernel_rfl) h) Ak)) Ak ?_
   refine MD Aa ?_
   refine CE 0 W F Aa Aa Aa Ji Aa Aa (Ac Aa (Ac Aa (Ac Aa (Ac Aa (Ac (F.one (k := 0) Aa) (Ac Aa (Ac Aa (Ac Aa Bn)))))))) fun w F => ?_
   refine Gb (N2 := []) (NZ2 := []) (N3 := [(some 11, b1, pz39 p0 v1 v2), (some 4, b1, pz39 p0 v1 v2)]) (NZ3 := []) F Aa Aa (all_cons (fun h => An (by kernel_rfl) h) (all_cons (fun h => An (by kernel_rfl) h) Ak)) Ak ?_
   have F := F.frontM (i := 2) Aa Aa
   have F := F.frontM (i := 2) Aa Aa
   have F := F.frontM (i := 2) Aa Aa
   refine Qb ?_
   exact ⟨b3, v5, W.ra Aa, F⟩
  refine UL Aa ?_ ?_
  ·
   refine Bw (cs := (Gt)) W F Aa WP Aa fun b3 a w W F => ?_
   refine Gb (N2 := []) (NZ2 := []) (N3 := [(some 11, b1, pz39 p0 v1 v2), (some 4, b1, pz39 p0 v1 v2)]) (NZ3 := []) F Aa Aa (all_cons (fun _ => (.tail _ (.tail _ (.head _)))) (all_cons (fun _ => (.tail _ (.tail _ (.head _)))) Ak)) Ak ?_
   refine MD Aa ?_
   refine AO (Ml := []) (Zl := []) (β := Value) (rv := fun x => .agg #[Jint x1.un.1, Jint x1.un.2.1, Jint x1.un.2.2.1, x]) (MM := fun x => []) (ZZ := fun x => [row x 28 B0 x1.un.2.2.2]) W F Zn Aa Aa (fun hL => Lt _ w (v1) (Tr36.of (p0.un.2.1.un.1, p0.un.2.1.un.2.1, p0.un.2.1.un.2.2.1, p0.un.2.1.un.2.2.2)) _ h3 ((Al BK h1 (Ae h_v1)) w F).nx) fun x a w W F => ?_
   obtain ⟨v5, rfl⟩ : ∃ y, y = x := ⟨x, rfl⟩
   have F : sy Y w0 (XX b3 b2 b1 p0 v1 v2) [row v5 28 B0 x1.un.2.2.2] w := F
   refine Gb (N2 := []) (NZ2 := []) (N3 := [(some 11, b1, pz39 p0 v1 v2), (some 4, b1, pz39 p0 v1 v2)]) (NZ3 := []) F Aa Aa (all_cons (fun _ => (.tail _ (.tail _ (.head _)))) (all_cons (fun h => An (by kernel_rfl) h) Ak)) Ak ?_
   refine IC (R := []) W Aa Aa (yC fun M Z hN hZ => Cf (v := Value.agg #[Jint p0.un.1, Jint x1.un.1, Jint x1.un.2.1, Jint x1.un.2.2.1, v5, Jint p0.un.2.2.1, Jint p0.un.2.2.2.1, .slice none 0 0]) YG W Aa (AY Aa Aa Aa (AY Aa Aa Aa (AY Aa Aa Aa (AY Aa Aa Aa CQ)))) Aa) Aa Aa fun a W => ?_
   refine MD Aa ?_
   refine CE 0 W F Aa Aa Aa Ji Aa Aa (Ac Aa (Ac Aa (Ac Aa (Ac Aa (Ac (F.one (k := 0) Aa) (Ac Aa (Ac Aa (Ac Aa Bn)))))))) fun w F => ?_
   refine Gb (N2 := []) (NZ2 := []) (N3 := [(some 11, b1, pz39 p0 v1 v2), (some 4, b1, pz39 p0 v1 v2)]) (NZ3 := []) F Aa Aa (all_cons (fun h => An (by kernel_rfl) h) (all_cons (fun h => An (by kernel_rfl) h) Ak)) Ak ?_
   have F := F.frontM (i := 2) Aa Aa
   have F := F.frontM (i := 2) Aa Aa
   have F := F.frontM (i := 2) Aa Aa
   refine Qb ?_
   exact ⟨b3, v5, W.ra Aa, F⟩
  exact trivial
 rintro a w ⟨b3, v5, W, F⟩
 refine Ab ?_
 obtain ⟨o1, G1, K1⟩ := Af H
 refine Ap (fun a w => ∃ x2 : List Tr31, ∃ v6 : Value, some (x2) = some o1 ∧ Fr 34 [] [(2, pp b2), (3, pp b3)] a ∧ sy Y w0 (Om b3 p0 x1 v5 v6 b2 b1 v1 v2) [row v5 28 B0 x1.un.2.2.2, row v6 31 Dw x2] w) ?_ ?_
 ·
  have H := G1
  clear G1 K1
  refine vc tk 6 W F fun a w W F => ?_
  have F := F.nilRow 31 Dw
  have F := F.frontZ (i := 1) Aa Aa
  have F := F.frontM (i := 2) Aa Aa
  have F := F.frontM (i := 2) Aa Aa
  have F := F.frontM (i := 2) Aa Aa
  refine AQ H (fun s a w => ∃ v7 : Value, Fr 34 [] [(1, pp b1), (2, pp b2), (3, pp b3), (4, Jint s.1)] a ∧ sy Y w0 (Om b3 p0 x1 v5 v7 b2 b1 v1 v2) [row v5 28 B0 x1.un.2.2.2, row v7 31 Dw s.2] w) ⟨(Value.slice none 0 0), W.ra Aa, F⟩ fun s o a w H L2 hR => ?_
  obtain ⟨x3, x4⟩ := s
  obtain ⟨v7, W, F⟩ := hR
  have W : Fr 34 [] [(1, pp b1), (2, pp b2), (3, pp b3), (4, Jint x3)] a := W
  have F : sy Y w0 (Om b3 p0 x1 v5 v7 b2 b1 v1 v2) [row v5 28 B0 x1.un.2.2.2, row v7 31 Dw x4] w := F
  rw [Dm] at H
  refine CT tk 6 [2] W F (ai fun a w W F => ?_)
  refine ls W F Aa (Bz (r := DF) (l := p0.un.2.2.2.2) Km Aa W Aa (Al Er h2 (Ae h_v2))).q fun a w W F => ?_
  refine Bo tk 3 W F fun a w W F => ?_
  refine A1 W Aa H (fun W H => ?_) fun W H => ?_
  ·
   refine EX tk 4 W F fun a w W F => ?_
   obtain ⟨v8, h4, F⟩ := F.exR CA
   have F := F.frontZ (i := 1) Aa Aa
   obtain ⟨v9, h5, F⟩ := F.exR D3
   refine Ef [(true, 0), (true, 1), (true, 2), (true, 3), (true, 4), (true, 5), (true, 6), (false, 7), (false, 8), (false, 9), (true, 10), (false, 11)] (CN ⟨Y, [], w0⟩ [(some 9, b3, [Jint p0.un.1, Jint x1.un.1, Jint x1.un.2.1, Jint x1.un.2.2.1, v5, Jint p0.un.2.2.1, Jint p0.un.2.2.2.1, v7]), (some 7, b1, pz39 p0 v1 v2)] []) (fun ch a d v w h => by cases d <;> exact h) MO (by kernel_rfl) F (fun w F => ⟨_, _, F, (all_cons (fun _ => (.head _)) (all_cons (fun _ => (.tail _ (.tail _ (.head _)))) Ak)), Ak⟩) fun w F => ?_
   refine A9 (R := []) W Aa Aa (yC fun M Z hN hZ => Aq Ii Aa Aa Aa PE W Aa 7 Aa) Aa Aa fun a W => ?_
   refine A9 (R := [9]) W Aa Aa (yC fun M Z hN hZ => Cx (cs := (Wu p0 x1 v5 v7)) (v := v7) W Aa (hN ((some 9), b3, (Wu p0 x1 v5 v7)) (.head _) Aa) PE Aa) (by kernel_rfl) Aa fun a W => ?_
   refine A9 (R := []) W Aa Aa (yC fun M Z hN hZ => Aq Ih Aa Aa Aa UB W Aa 7 Aa) Aa Aa fun a W => ?_
   refine A9 (R := [7, 6, 5]) W Aa Aa (yC fun M Z hN hZ => Cx (cs := (C7 p0 v1 v2)) (v := v2) W Aa (hN ((some 7), b1, (C7 p0 v1 v2)) (.tail _ (.head _)) Aa) UB Aa) (by kernel_rfl) Aa fun a W => ?_
   refine A9 (R := []) W Aa Aa (yC fun M Z hN hZ => Ao W Aa) Aa Aa fun a W => ?_
   obtain ⟨x5, h6, H⟩ := Af H
   obtain ⟨v10, h7, h8⟩ := CS h2 h6
   have h9 : Ip v10 = [Jint x5.un.1, Jint x5.un.2.1.un.1, Jint x5.un.2.1.un.2.1, Jint x5.un.2.1.un.2.2.1, (v10.2.1.2.2.2.1), Jint x5.un.2.2.1, Jint x5.un.2.2.2.1, (v10.2.2.2.2.1)] := congrArg (fun q : Tr39 => ([Jint q.un.1, Jint q.un.2.1.un.1, Jint q.un.2.1.un.2.1, Jint q.un.2.1.un.2.2.1, (v10.2.1.2.2.2.1), Jint q.un.2.2.1, Jint q.un.2.2.2.1, (v10.2.2.2.2.1)] : List Value)) h8
   refine A9 (R := []) W Aa Aa (yC fun M Z hN hZ => Au (r := LM) Ta W Aa Aa (Ae h_v2) h7) Aa Aa fun a W => ?_
   refine A9 (R := []) W Aa Aa (yC fun M Z hN hZ => Aj (y := Value.agg #[Jint x5.un.1, Jint x5.un.2.1.un.1, Jint x5.un.2.1.un.2.1, Jint x5.un.2.1.un.2.2.1, (v10.2.1.2.2.2.1), Jint x5.un.2.2.1, Jint x5.un.2.2.2.1, (v10.2.2.2.2.1)]) (j := 0) (i := x3) (enc := Ip) W Aa Aa (Ae h_v2) h7 Pt I7 (by rw [h9]; rfl)) Aa Aa fun a W => ?_
   refine Dt Aa ?_
   obtain ⟨x6, h10, H⟩ := Af H
   refine AO (Ml := []) (Zl := []) (β := Value × Value) (rv := fun x => .agg #[Jint x6.un.1, Jint x6.un.2.1.un.1, Jint x6.un.2.1.un.2.1, Jint x6.un.2.1.un.2.2.1, x.1, Jint x6.un.2.2.1, Jint x6.un.2.2.2.1, x.2]) (MM := fun x => []) (ZZ := fun x => [row x.1 28 B0 x6.un.2.1.un.2.2.2, row x.2 31 Dw x6.un.2.2.2.2]) W F aU Aa Aa (fun hL => ih _ w ((v10.2.1.2.2.2.1)) ((v10.2.2.2.2.1)) (Tr39.of (x5.un.1, Tr36.of (x5.un.2.1.un.1, x5.un.2.1.un.2.1, x5.un.2.1.un.2.2.1, x5.un.2.1.un.2.2.2), x5.un.2.2.1, x5.un.2.2.2.1, x5.un.2.2.2.2)) _ h10 ((Bf (Ae h_v2) h7 (Ag.snd (Ag.fst (Ag.snd (Ag.snd (Ag.snd Ag.here))))) (congrArg (fun q : Tr39 => q.un.2.1.un.2.2.2) h8)) w F).nx ((Bf (Ae h_v2) h7 (Ag.snd (Ag.snd (Ag.snd (Ag.snd Ag.here)))) (congrArg (fun q : Tr39 => q.un.2.2.2.2) h8)) w F).nx) fun x a w W F => ?_
   obtain ⟨v11, v12⟩ := x
   have F : sy Y w0 (Om b3 p0 x1 v5 v7 b2 b1 v1 v2) [row v11 28 B0 x6.un.2.1.un.2.2.2, row v12 31 Dw x6.un.2.2.2.2, row v7 31 Jq v9, row v5 28 Ia v8] w := F
   refine Bc (N2 := []) (NZ2 := []) (N3 := [(some 9, b3, [Jint p0.un.1, Jint x1.un.1, Jint x1.un.2.1, Jint x1.un.2.2.1, v5, Jint p0.un.2.2.1, Jint p0.un.2.2.2.1, v7]), (some 7, b1, pz39 p0 v1 v2)]) (NZ3 := []) F Aa Aa (all_cons (fun _ => (.head _)) (all_cons (fun h => An (by kernel_rfl) h) Ak)) Ak ?_
   refine Dt Aa ?_
   have F := F.freeze
   have F := F.frontZ (i := 1) Aa Aa
   have F := F.freeze
   refine GT (z := Value.agg #[Jint 0, Jint 0, Jint 0, Jint 0, .slice none 0 0, Jint 0, Jint 0, .slice none 0 0]) (cs := (EA x6 v11 v12)) Dw ([Tr31.of (x6.un.1, Tr28.of (x6.un.2.1.un.1, x6.un.2.1.un.2.1, x6.un.2.1.un.2.2.1, x6.un.2.1.un.2.2.2), x6.un.2.2.1, x6.un.2.2.2.1, x6.un.2.2.2.2)] : List Tr31) W F Aa Qx WP Aa Aa Aa (AY Aa Aa Aa CQ) Aa Aa ⟨[Jint x6.un.1, Jint x6.un.2.1.un.1, Jint x6.un.2.1.un.2.1, Jint x6.un.2.1.un.2.2.1, v11, Jint x6.un.2.2.1, Jint x6.un.2.2.2.1, v12], _, Aa, (Ug.2 ⟨[Jint x6.un.1], [Jint x6.un.2.1.un.1, Jint x6.un.2.1.un.2.1, Jint x6.un.2.1.un.2.2.1, v11, Jint x6.un.2.2.1, Jint x6.un.2.2.2.1, v12], Aa, Aa, ⟨[Jint x6.un.2.1.un.1, Jint x6.un.2.1.un.2.1, Jint x6.un.2.1.un.2.2.1, v11], [Jint x6.un.2.2.1, Jint x6.un.2.2.2.1, v12], Aa, (RL.2 ⟨[Jint x6.un.2.1.un.1], [Jint x6.un.2.1.un.2.1, Jint x6.un.2.1.un.2.2.1, v11], Aa, Aa, ⟨[Jint x6.un.2.1.un.2.1], [Jint x6.un.2.1.un.2.2.1, v11], Aa, Aa, ⟨[Jint x6.un.2.1.un.2.2.1], [v11], Aa, Aa, ⟨_, Aa, (F.item (i := 1) Aa)⟩⟩⟩⟩), ⟨[Jint x6.un.2.2.1], [Jint x6.un.2.2.2.1, v12], Aa, Aa, ⟨[Jint x6.un.2.2.2.1], [v12], Aa, Aa, ⟨_, Aa, (F.item (i := 0) Aa)⟩⟩⟩⟩⟩), Aa⟩ fun v13 a w W F => ?_
   refine Bc (N2 := []) (NZ2 := []) (N3 := [(some 9, b3, [Jint p0.un.1, Jint x1.un.1, Jint x1.un.2.1, Jint x1.un.2.2.1, v5, Jint p0.un.2.2.1, Jint p0.un.2.2.2.1, v7]), (some 7, b1, pz39 p0 v1 v2)]) (NZ3 := []) F Aa Aa (all_cons (fun _ => (.head _)) (all_cons (fun h => An (by kernel_rfl) h) Ak)) Ak ?_
   refine Dt Aa ?_
   have F := F.frontZ (i := 3) Aa Aa
   have F := F.hideR D3 h5
   obtain ⟨x7, h11, H⟩ := Af H
   refine DL (r := Dw) (i := 0) W F Aa Qx Aa Aa Aa Aa (EB F 1 Aa) h11 Aa fun v14 a w W F => ?_
   have F : sy Y w0 (Om b3 p0 x1 v5 v7 b2 b1 v1 v2) [row v14 31 Dw x7, row v13 31 Dw ([Tr31.of (x6.un.1, Tr28.of (x6.un.2.1.un.1, x6.un.2.1.un.2.1, x6.un.2.1.un.2.2.1, x6.un.2.1.un.2.2.2), x6.un.2.2.1, x6.un.2.2.2.1, x6.un.2.2.2.2)] : List Tr31), Ch v12 Dw x6.un.2.2.2.2, Ch v11 B0 x6.un.2.1.un.2.2.2, row v5 28 Ia v8] w := F
   refine Bc (N2 := []) (NZ2 := []) (N3 := [(some 9, b3, [Jint p0.un.1, Jint x1.un.1, Jint x1.un.2.1, Jint x1.un.2.2.1, v5, Jint p0.un.2.2.1, Jint p0.un.2.2.2.1, v7]), (some 7, b1, pz39 p0 v1 v2)]) (NZ3 := []) F Aa Aa (all_cons (fun h => An (by kernel_rfl) h) (all_cons (fun h => An (by kernel_rfl) h) Ak)) Ak ?_
   refine A9 (R := []) W Aa Aa (yC fun M Z hN hZ => Aq Ii Aa Aa Aa PE W Aa 7 Aa) Aa Aa fun a W => ?_
   refine Dt Aa ?_
   refine IV (M' := (Om b3 p0 x1 v5 v14 b2 b1 v1 v2)) 0 W F Aa Aa Aa PE (F.one (k := 0) Aa) Aa Aa fun w F => ?_
   refine Bc (N2 := []) (NZ2 := []) (N3 := [(some 9, b3, [Jint p0.un.1, Jint x1.un.1, Jint x1.un.2.1, Jint x1.un.2.2.1, v5, Jint p0.un.2.2.1, Jint p0.un.2.2.2.1, v7]), (some 7, b1, pz39 p0 v1 v2)]) (NZ3 := []) F Aa Aa (all_cons (fun h => An (by kernel_rfl) h) (all_cons (fun h => An (by kernel_rfl) h) Ak)) Ak ?_
   refine FL (Az ?_)
   refine vn tk 5 W F fun a w W F => ?_
   refine Ab ?_
   have F := F.frontZ (i := 4) Aa Aa
   have F := F.hideR CA h4
   have F := F.frontZ (i := 1) Aa Aa
   have F := F.frontZ (i := 1) Aa Aa
   have F := F.frontM (i := 2) Aa Aa
   have F := F.frontM (i := 2) Aa Aa
   have F := F.frontM (i := 2) Aa Aa
   have F := F.sub (M' := (Om b3 p0 x1 v5 v14 b2 b1 v1 v2)) (Z' := [row v5 28 B0 x1.un.2.2.2, row v14 31 Dw x7]) sr (sc (sc nl))
   exact ⟨_, H, (v14), W.ra Aa, F⟩
  refine AN ?_
  iterate 2 refine A6 ?_
  refine AP (Ab ?_)
  have F := F.frontZ (i := 1) Aa Aa
  have F := F.frontZ (i := 1) Aa Aa
  have F := F.frontM (i := 2) Aa Aa
  have F := F.frontM (i := 2) Aa Aa
  have F := F.frontM (i := 2) Aa Aa
  have H := L2 _ H
  exact ⟨_, (v7), H, W.ra Aa, F⟩
 rintro a w ⟨x2, v6, hj, W, F⟩
 have hj := Ay hj
 subst hj
 have H := K1
 clear G1 K1
 refine CT tk 3 [0] W F (ai fun a w W F => ?_)
 refine CE 1 W F Aa Aa Aa Ji Aa Aa (Ac Aa (Ac Aa (Ac Aa (Ac Aa (Ac (F.one (k := 0) Aa) (Ac Aa (Ac Aa (Ac (F.one (k := 1) Aa) Bn)))))))) fun w F => ?_
 refine Bo tk 2 W F fun a w W F => ?_
 refine Ah ?_
 have H := Ay H
 subst H
 refine Av (.inl Aa) W F Aa (Cm 1 W Aa Aa Ji Aa) ?_
 have F := F.frontZ (i := 1) Aa Aa
 have F := F.frontZ (i := 1) Aa Aa
 have F := F.sub (M' := []) (Z' := [row v5 28 B0 x1.un.2.2.2, row v6 31 Dw x2]) nl sr
 exact ⟨((v5), (v6)), Aa, F⟩
theorem Pc : ∀ (n : Nat) (Y : Nat → Prop) (w0 : World) (v1 : Value) (v2 : Value) (p0 : Tr39) (r : Tr31) (H : DB n p0 = some r) (h_v1 : Sl w0 (NX []) Bm v1 p0.un.2.1.un.2.2.2) (h_v2 : Sl w0 (NX []) DF v2 p0.un.2.2.2.2), ca_ 17 #[.agg #[Jint p0.un.1, Jint p0.un.2.1.un.1, Jint p0.un.2.1.un.2.1, Jint p0.un.2.1.un.2.2.1, v1, Jint p0.un.2.2.1, Jint p0.un.2.2.2.1, v2]] w0 fun e w' => ∃ x : Value × Value, e = .returned (.agg #[Jint r.un.1, Jint r.un.2.1.un.1, Jint r.un.2.1.un.2.1, Jint r.un.2.1.un.2.2.1, x.1, Jint r.un.2.2.1, Jint r.un.2.2.2.1, x.2]) ∧ sy Y w0 [] [row (x.1) 28 B0 r.un.2.1.un.2.2.2, row (x.2) 31 Dw r.un.2.2.2.2] w' := by
  intro n
  induction n with
  | zero => intro Y w0 v1 v2 p0 r H; exact nomatch H
  | succ n ih => intro Y w0 v1 v2 p0 r H h_v1 h_v2; exact OE (DB n) ih Y w0 v1 v2 p0 r H h_v1 h_v2
theorem QJ (Y : Nat → Prop) (w0 : World) (v1 : Value) (v2 : Value) (p0 : Tr39) (r : Tr31) (H : KY p0 = some r) (h_v1 : Sl w0 (NX []) Bm v1 p0.un.2.1.un.2.2.2) (h_v2 : Sl w0 (NX []) DF v2 p0.un.2.2.2.2) :
    ca_ 17 #[.agg #[Jint p0.un.1, Jint p0.un.2.1.un.1, Jint p0.un.2.1.un.2.1, Jint p0.un.2.1.un.2.2.1, v1, Jint p0.un.2.2.1, Jint p0.un.2.2.2.1, v2]] w0 fun e w' => ∃ x : Value × Value, e = .returned (.agg #[Jint r.un.1, Jint r.un.2.1.un.1, Jint r.un.2.1.un.2.1, Jint r.un.2.1.un.2.2.1, x.1, Jint r.un.2.2.1, Jint r.un.2.2.2.1, x.2]) ∧ sy Y w0 [] [row (x.1) 28 B0 r.un.2.1.un.2.2.2, row (x.2) 31 Dw r.un.2.2.2.2] w' := by
  obtain ⟨n, H⟩ := BP H
  exact Pc n Y w0 v1 v2 p0 r H h_v1 h_v2
theorem YP : Has Tryz.prog 25 := BM Tryz.func25
abbrev KB (a0 : Nat) (a1 : Nat) (a2 : Tr28) (a3 : Value) : List (Nat × List Value) := [(a0, [Jint 0, Jint 0, Jint 0, .slice none 0 0]), (a1, [Jint a2.un.1, Jint a2.un.2.1, Jint a2.un.2.2.1, a3])]
abbrev WE (a0 : Nat) (a1 : Tr28) (a2 : Value) (a3 : Nat) (a4 : Nat) (a5 : Tr28) (a6 : Value) : List (Nat × List Value) := [(a0, [Jint a1.un.1, Jint a1.un.2.1, Jint a1.un.2.2.1, a2]), (a3, [Jint 0, Jint 0, Jint 0, .slice none 0 0]), (a4, [Jint a5.un.1, Jint a5.un.2.1, Jint a5.un.2.2.1, a6])]
def C4 (fRec : Tr28 → Int → Option Tr28) (p0 : Tr28) (p1 : Int) (x3 : Int) (x4 : Int) : (List Tr28 × Int) → Option ((List Tr28 × Int) ⊕ ((List Tr28) ⊕ Tr28))
  | (x6, x7) => (if x7 < (p0.un.2.2.2.length : Int) then HA ((ix p0.un.2.2.2 x7).bind fun x9 => (fRec x9 p1).bind fun x10 => (if x10.un.1 = x4 then some (.inr (.inr (.inr x10))) else (if x10.un.1 ≠ x3 then (GP x6 ([x10] : List Tr28)).bind fun x11 => some (.inl x11) else some (.inl x6)))) fun x8 => some (.inl (x8, AJ (x7 + 1))) else some (.inr (.inl x6)))
def FN (fRec : Tr28 → Int → Option Tr28) (p0 : Tr28) (p1 : Int) : Option Tr28 := (if (decide (p0.un.1 = 3) && decide (p0.un.2.1 = 5)) = true then (if p0.un.2.2.1 = p1 then some (Tr28.of (1, 0, 0, ([] : List Tr28))) else some (Tr28.of (2, 0, 0, ([] : List Tr28)))) else (if p0.un.1 < 4 then some p0 else (if p0.un.1 = 4 then (ix p0.un.2.2.2 0).bind fun x1 => (fRec x1 p1).bind fun x2 => (if (decide (x2.un.1 = 1) || decide (x2.un.1 = 2)) = true then some (Tr28.of (AJ (3 - x2.un.1), 0, 0, ([] : List Tr28))) else some (Tr28.of (4, 0, 0, ([x2] : List Tr28)))) else (if p0.un.1 = 6 then some (2, 1) else some (1, 2)).bind fun (x3, x4) => HA (AB (C4 fRec p0 p1 x3 x4) ([], 0)) fun x5 => (if (x5.length : Int) = 0 then some (Tr28.of (x3, 0, 0, ([] : List Tr28))) else (if (x5.length : Int) = 1 then (ix x5 0).bind fun x12 => some x12 else some (Tr28.of (p0.un.1, 0, 0, x5)))))))
def ER : Nat → Tr28 → Int → Option Tr28
  | 0 => fun _ _ => none
  | n + 1 => FN (ER n)
def Ns (p0 : Tr28) (p1 : Int) : Option Tr28 := FT fun n => ER n p0 p1
theorem RA (fRec : Tr28 → Int → Option Tr28) (ih : ∀ (Y : Nat → Prop) (w0 : World) (v1 : Value) (p0 : Tr28) (p1 : Int) (r : Tr28) (H : fRec p0 p1 = some r) (s_v1 : Sl w0 Y B0 v1 p0.un.2.2.2), ca_ 25 #[.agg #[Jint p0.un.1, Jint p0.un.2.1, Jint p0.un.2.2.1, v1], Jint p1] w0 fun e w' => ∃ x : Value, e = .returned (.agg #[Jint r.un.1, Jint r.un.2.1, Jint r.un.2.2.1, x]) ∧ sy Y w0 [] [Ch (x) B0 r.un.2.2.2] w') (Y : Nat → Prop) (w0 : World) (v1 : Value) (p0 : Tr28) (p1 : Int) (r : Tr28) (H : FN fRec p0 p1 = some r) (s_v1 : Sl w0 Y B0 v1 p0.un.2.2.2) :
    ca_ 25 #[.agg #[Jint p0.un.1, Jint p0.un.2.1, Jint p0.un.2.2.1, v1], Jint p1] w0 fun e w' => ∃ x : Value, e = .returned (.agg #[Jint r.un.1, Jint r.un.2.1, Jint r.un.2.2.1, x]) ∧ sy Y w0 [] [Ch (x) B0 r.un.2.2.2] w' := by
 refine enter Tryz.func25 Aa Tryz.ntmps25 Aa fun a W => ?_
 have F := Stw.start Y w0
 obtain ⟨v2, h1, s_v1⟩ := s_v1.ex CA
 have h_v1 := F.nx s_v1
 unfold FN at H
 refine vc tk 2 W F fun a w W F => ?_
 refine BQ (cs := (Jp p0 v1)) W F Aa Aa Aa fun b1 a w W F => ?_
 refine Bw (cs := (Is)) W F Aa VT Aa fun b2 a w W F => ?_
 refine Bo tk 3 W F fun a w W F => ?_
 refine Ap (fun a w => Fr 98 [] [(1, Jint p1), (2, pp b1), (4, pp b2), (18, .bool (decide (p0.un.1 = 3) && decide (p0.un.2.1 = 5)))] a ∧ sy Y w0 (KB b2 b1 p0 v1) [] w) ?_ ?_
 ·
  refine CT tk 5 [1] W F (ai fun a w W F => ?_)
  rcases bxq (decide (p0.un.1 = 3)) with hb0 | hb0
  ·
   rw [hb0] at W
   refine DU tk 5 [1] W F (ai fun a w W F => ?_)
   refine Ab ?_
   exact ⟨W.re ⟨rfl, Aa, Aa, (CL (by try rw [hb0]; all_goals simp only [CM])), trivial⟩, F⟩
  rw [hb0] at W
  refine vl tk 5 W F fun a w W F => ?_
  refine Ab ?_
  exact ⟨W.re ⟨rfl, Aa, Aa, (CL (by try rw [hb0]; all_goals simp only [CM])), trivial⟩, F⟩
 rintro a w ⟨W, F⟩
 refine Bi W Aa H (fun W H => ?_) fun W H => ?_
 ·
  refine CT tk 9 [1] W F (ai fun a w W F => ?_)
  refine A1 W Aa H (fun W H => ?_) fun W H => ?_
  ·
   refine vc tk 2 W F fun a w W F => ?_
   refine ls W F Aa (Cf (v := Value.agg #[Jint 1, Jint 0, Jint 0, .slice none 0 0]) Wy W Aa Aa Aa).q fun a w W F => ?_
   refine CE 0 W F Aa Aa Aa I2 Aa Aa Aa fun w F => ?_
   refine Bo tk 2 W F fun a w W F => ?_
   refine Ah ?_
   iterate 2 refine Aw ?_
   have H := Ay H
   subst H
   refine Av (.inl Aa) W F Aa (Cm 0 W Aa Aa I2 Aa) ?_
   have F := F.note (Sl.nil (r := B0))
   have F := F.sub (M' := []) (Z' := [Ch (Value.slice none 0 0) B0 ([])]) nl sr
   exact ⟨(Value.slice none 0 0), Aa, F⟩
  refine EX tk 4 W F fun a w W F => ?_
  refine ls W F Aa (Cf (v := Value.agg #[Jint 2, Jint 0, Jint 0, .slice none 0 0]) Wy W Aa Aa Aa).q fun a w W F => ?_
  refine CE 0 W F Aa Aa Aa I2 Aa Aa Aa fun w F => ?_
  refine Bo tk 2 W F fun a w W F => ?_
  refine Ah (Aw ?_)
  have H := Ay H
  subst H
  refine Av (.inl Aa) W F Aa (Cm 0 W Aa Aa I2 Aa) ?_
  have F := F.note (Sl.nil (r := B0))
  have F := F.sub (M' := []) (Z' := [Ch (Value.slice none 0 0) B0 ([])]) nl sr
  exact ⟨(Value.slice none 0 0), Aa, F⟩
 refine Hr tk 10 [1] W F (ai fun a w W F => ?_)
 refine A1 W Aa H (fun W H => ?_) fun W H => ?_
 ·
  refine CT tk 3 [1] W F (ai fun a w W F => ?_)
  refine CE 0 W F Aa Aa Aa I2 Aa Aa (Ac Aa (Ac Aa (Ac Aa (Ac h_v1.one Bn)))) fun w F => ?_
  refine Bo tk 2 W F fun a w W F => ?_
  refine Ah (Aw ?_)
  have H := Ay H
  subst H
  refine Av (.inl Aa) W F Aa (Cm 0 W Aa Aa I2 Aa) ?_
  have F := F.note (Sl.hide CA h1 (F.old s_v1))
  have F := F.sub (M' := []) (Z' := [Ch v1 B0 p0.un.2.2.2]) nl sr
  exact ⟨(v1), Aa, F⟩
 refine Hr tk 10 [1] W F (ai fun a w W F => ?_)
 refine A1 W Aa H (fun W H => ?_) fun W H => ?_
 ·
  refine CT tk 4 [1] W F (ai fun a w W F => ?_)
  obtain ⟨x1, h2, H⟩ := Af H
  obtain ⟨v3, h3, h4⟩ := CS h1 h2
  have h5 : HZ v3 = [Jint x1.un.1, Jint x1.un.2.1, Jint x1.un.2.2.1, (v3.2.2.2.1)] := congrArg (fun q : Tr28 => ([Jint q.un.1, Jint q.un.2.1, Jint q.un.2.2.1, (v3.2.2.2.1)] : List Value)) h4
  refine ls W F Aa (Au (r := Ia) Se W Aa Aa (Ae h_v1) h3).q fun a w W F => ?_
  refine ls W F Aa (Aj (y := Value.agg #[Jint x1.un.1, Jint x1.un.2.1, Jint x1.un.2.2.1, (v3.2.2.2.1)]) (j := 0) (i := 0) (enc := HZ) W Aa Aa (Ae h_v1) h3 Oi I2 (by rw [h5]; rfl)).q fun a w W F => ?_
  refine ls W F Aa (Ao W Aa).q fun a w W F => ?_
  obtain ⟨x2, h6, H⟩ := Af H
  refine AO (Ml := []) (Zl := []) (β := Value) (rv := fun x => .agg #[Jint x2.un.1, Jint x2.un.2.1, Jint x2.un.2.2.1, x]) (MM := fun x => []) (ZZ := fun x => [Ch x B0 x2.un.2.2.2]) W F YP Aa Aa (fun hL => ih _ w ((v3.2.2.2.1)) x1 p1 _ h6 (Sl.at_ (F.old s_v1) h3 (Ag.snd (Ag.snd (Ag.snd Ag.here))) (congrArg (fun q : Tr28 => q.un.2.2.2) h4))) fun x a w W F => ?_
  obtain ⟨v4, rfl⟩ : ∃ y, y = x := ⟨x, rfl⟩
  have F : sy Y w0 (KB b2 b1 p0 v1) [Ch v4 B0 x2.un.2.2.2] w := F
  refine Bw (cs := (Is)) W F Aa VT Aa fun b3 a w W F => ?_
  refine CE 0 W F Aa Aa Aa I2 Aa Aa (Ac Aa (Ac Aa (Ac Aa (Ac (F.oneF (k := 0) Aa) Bn)))) fun w F => ?_
  refine Bo tk 3 W F fun a w W F => ?_
  refine Ap (fun a w => Fr 98 [] [(1, Jint p1), (2, pp b1), (4, pp b2), (5, pp b3), (45, .bool (decide (x2.un.1 = 1) || decide (x2.un.1 = 2)))] a ∧ sy Y w0 (WE b3 x2 v4 b2 b1 p0 v1) [Ch v4 B0 x2.un.2.2.2] w) ?_ ?_
  ·
   refine CT tk 5 [0] W F (ai fun a w W F => ?_)
   rcases bxq (decide (x2.un.1 = 1)) with hb0 | hb0
   ·
    rw [hb0] at W
    refine vl tk 5 W F fun a w W F => ?_
    refine Ab ?_
    exact ⟨W.re ⟨rfl, Aa, Aa, Aa, (CL (by try rw [hb0]; all_goals simp only [CM])), trivial⟩, F⟩
   rw [hb0] at W
   refine DU tk 5 [0] W F (ai fun a w W F => ?_)
   refine Ab ?_
   exact ⟨W.re ⟨rfl, Aa, Aa, Aa, (CL (by try rw [hb0]; all_goals simp only [CM])), trivial⟩, F⟩
  rintro a w ⟨W, F⟩
  refine Bi W Aa H (fun W H => ?_) fun W H => ?_
  ·
   refine CT tk 5 [0] W F (ai fun a w W F => ?_)
   refine ls W F Aa (Cf (v := Value.agg #[Jint (AJ (3 - x2.un.1)), Jint 0, Jint 0, .slice none 0 0]) Wy W Aa Aa Aa).q fun a w W F => ?_
   refine CE 1 W F Aa Aa Aa I2 Aa Aa Aa fun w F => ?_
   refine Bo tk 2 W F fun a w W F => ?_
   refine Ah ?_
   iterate 2 refine Aw ?_
   have H := Ay H
   subst H
   refine Av (.inl Aa) W F Aa (Cm 1 W Aa Aa I2 Aa) ?_
   have F := F.note (Sl.nil (r := B0))
   have F := F.sub (M' := []) (Z' := [Ch (Value.slice none 0 0) B0 ([])]) nl (sc nl)
   exact ⟨(Value.slice none 0 0), Aa, F⟩
  refine Hr tk 5 [0] W F (ai fun a w W F => ?_)
  refine GT (z := Value.agg #[Jint 0, Jint 0, Jint 0, .slice none 0 0]) (cs := (Jp x2 v4)) B0 ([x2] : List Tr28) W F Aa Se VT Aa Aa Aa (AY Aa Aa Aa CQ) Aa Aa ⟨[Jint x2.un.1, Jint x2.un.2.1, Jint x2.un.2.2.1, v4], _, Aa, (RL.2 ⟨[Jint x2.un.1], [Jint x2.un.2.1, Jint x2.un.2.2.1, v4], Aa, Aa, ⟨[Jint x2.un.2.1], [Jint x2.un.2.2.1, v4], Aa, Aa, ⟨[Jint x2.un.2.2.1], [v4], Aa, Aa, ⟨_, Aa, (F.item (i := 0) Aa)⟩⟩⟩⟩), Aa⟩ fun v5 a w W F => ?_
  refine ls W F Aa (Cf (v := Value.agg #[Jint 4, Jint 0, Jint 0, v5]) Wy W Aa (AY Aa Aa Aa (AY Aa (GW (F.one (k := 0) Aa)) Aa CQ)) Aa).q fun a w W F => ?_
  refine CE 1 W F Aa Aa Aa I2 Aa Aa (Ac Aa (Ac Aa (Ac Aa (Ac (F.one (k := 0) Aa) Bn)))) fun w F => ?_
  refine Bo tk 2 W F fun a w W F => ?_
  refine Ah (Aw ?_)
  have H := Ay H
  subst H
  refine Av (.inl Aa) W F Aa (Cm 1 W Aa Aa I2 Aa) ?_
  have F := F.freeze
  have F := F.sub (M' := []) (Z' := [Ch v5 B0 ([x2] : List Tr28)]) nl (sc nl)
  exact ⟨(v5), Aa, F⟩
 refine EX tk 8 W F fun a w W F => ?_
 obtain ⟨o1, G1, K1⟩ := Af H
 refine Ap (fun a w => ∃ x3 : Int, ∃ x4 : Int, some ((x3, x4)) = some o1 ∧ Fr 98 [] [(1, Jint p1), (2, pp b1), (4, pp b2), (6, Jint x3), (7, Jint x4)] a ∧ sy Y w0 (KB b2 b1 p0 v1) [] w) ?_ ?_
 ·
  have H := G1
  clear G1 K1
  refine CT tk 7 [1] W F (ai fun a w W F => ?_)
  refine A1 W Aa H (fun W H => ?_) fun W H => ?_
  ·
   refine vc tk 4 W F fun a w W F => ?_
   refine Ab ?_
   have F := F.frontM (i := 1) Aa Aa
   have F := F.frontM (i := 1) Aa Aa
   exact ⟨_, _, H, W.ra Aa, F⟩
  refine AD (Ab ?_)
  have F := F.frontM (i := 1) Aa Aa
  have F := F.frontM (i := 1) Aa Aa
  exact ⟨_, _, H, W.ra Aa, F⟩
 rintro a w ⟨x3, x4, hj, W, F⟩
 have hj := Ay hj
 subst hj
 have H := K1
 clear G1 K1
 refine vc tk 5 W F fun a w W F => ?_
 obtain ⟨o2, G2, K2, L2⟩ := Lh H
 refine Ap (fun a w => ∃ x5 : List Tr28, ∃ v6 : Value, some (Sum.inl x5) = some o2 ∧ Fr 98 [] [(2, pp b1), (4, pp b2), (6, Jint x3), (8, v6)] a ∧ sy Y w0 (KB b2 b1 p0 v1) [row v6 28 B0 x5] w) ?_ ?_
 ·
  have H := G2
  clear G2 K2
  refine vc tk 6 W F fun a w W F => ?_
  have F := F.nilRow 28 B0
  have F := F.frontM (i := 1) Aa Aa
  have F := F.frontM (i := 1) Aa Aa
  refine AQ H (fun s a w => ∃ v7 : Value, Fr 98 [] [(1, Jint p1), (2, pp b1), (4, pp b2), (6, Jint x3), (7, Jint x4), (8, v7), (9, Jint s.2)] a ∧ sy Y w0 (KB b2 b1 p0 v1) [row v7 28 B0 s.1] w) ⟨(Value.slice none 0 0), W.ra Aa, F⟩ fun s o a w H L3 hR => ?_
  obtain ⟨x6, x7⟩ := s
  obtain ⟨v7, W, F⟩ := hR
  have W : Fr 98 [] [(1, Jint p1), (2, pp b1), (4, pp b2), (6, Jint x3), (7, Jint x4), (8, v7), (9, Jint x7)] a := W
  have F : sy Y w0 (KB b2 b1 p0 v1) [row v7 28 B0 x6] w := F
  rw [C4] at H
  refine CT tk 6 [1] W F (ai fun a w W F => ?_)
  refine ls W F Aa (Bz (r := B0) (l := p0.un.2.2.2) Nk Aa W Aa (Al CA h1 (Ae h_v1))).q fun a w W F => ?_
  refine Bo tk 3 W F fun a w W F => ?_
  refine A1 W Aa H (fun W H => ?_) fun W H => ?_
  ·
   refine AD (Ab ?_)
   obtain ⟨o4, G4, K4, L4⟩ := Lh H
   refine Ap (fun a w => ∃ x8 : List Tr28, ∃ v8 : Value, some (Sum.inl x8) = some o4 ∧ Fr 98 [] [(1, Jint p1), (2, pp b1), (4, pp b2), (6, Jint x3), (7, Jint x4), (8, v8), (9, Jint x7)] a ∧ sy Y w0 (KB b2 b1 p0 v1) [row v8 28 B0 x8] w) ?_ ?_
   ·
    have H := G4
    clear G4 K4
    refine vc tk 2 W F fun a w W F => ?_
    obtain ⟨v9, h7, F⟩ := F.exR CA
    refine CT tk 4 [1] W F (ai fun a w W F => ?_)
    obtain ⟨x9, h8, H⟩ := Af H
    obtain ⟨v10, h9, h10⟩ := CS h1 h8
    have h11 : HZ v10 = [Jint x9.un.1, Jint x9.un.2.1, Jint x9.un.2.2.1, (v10.2.2.2.1)] := congrArg (fun q : Tr28 => ([Jint q.un.1, Jint q.un.2.1, Jint q.un.2.2.1, (v10.2.2.2.1)] : List Value)) h10
    refine ls W F Aa (Au (r := Ia) Se W Aa Aa (Ae h_v1) h9).q fun a w W F => ?_
    refine ls W F Aa (Aj (y := Value.agg #[Jint x9.un.1, Jint x9.un.2.1, Jint x9.un.2.2.1, (v10.2.2.2.1)]) (j := 0) (i := x7) (enc := HZ) W Aa Aa (Ae h_v1) h9 Oi I2 (by rw [h11]; rfl)).q fun a w W F => ?_
    refine ls W F Aa (Ao W Aa).q fun a w W F => ?_
    obtain ⟨x10, h12, H⟩ := Af H
    refine AO (Ml := []) (Zl := []) (β := Value) (rv := fun x => .agg #[Jint x10.un.1, Jint x10.un.2.1, Jint x10.un.2.2.1, x]) (MM := fun x => []) (ZZ := fun x => [Ch x B0 x10.un.2.2.2]) W F YP Aa Aa (fun hL => ih _ w ((v10.2.2.2.1)) x9 p1 _ h12 (Sl.at_ (F.old s_v1) h9 (Ag.snd (Ag.snd (Ag.snd Ag.here))) (congrArg (fun q : Tr28 => q.un.2.2.2) h10))) fun x a w W F => ?_
    obtain ⟨v11, rfl⟩ : ∃ y, y = x := ⟨x, rfl⟩
    have F : sy Y w0 (KB b2 b1 p0 v1) [Ch v11 B0 x10.un.2.2.2, row v7 28 Ia v9] w := F
    refine Bw (cs := (Is)) W F Aa VT Aa fun b4 a w W F => ?_
    refine CE 0 W F Aa Aa Aa I2 Aa Aa (Ac Aa (Ac Aa (Ac Aa (Ac (F.oneF (k := 0) Aa) Bn)))) fun w F => ?_
    refine Es tk 11 [0] W F (ai fun a w W F => ?_)
    refine A1 W Aa H (fun W H => ?_) fun W H => ?_
    ·
     refine CT tk 3 [0] W F (ai fun a w W F => ?_)
     refine CE 1 W F Aa Aa Aa I2 Aa Aa (Ac Aa (Ac Aa (Ac Aa (Ac (F.oneF (k := 0) Aa) Bn)))) fun w F => ?_
     refine Bo tk 2 W F fun a w W F => ?_
     refine Ah (Aw (AC ?_))
     iterate 2 refine Aw ?_
     refine AC (Aw ?_)
     have H := L4 _ H
     have H := L3 _ H
     have H := L2 _ H
     have H := Ay H
     subst H
     refine Av (.inl Aa) W F Aa (Cm 1 W Aa Aa I2 Aa) ?_
     have F := F.sub (M' := []) (Z' := [Ch v11 B0 x10.un.2.2.2]) nl (sc nl)
     exact ⟨(v11), Aa, F⟩
    refine Hr tk 10 [0] W F (ai fun a w W F => ?_)
    refine A1 W Aa H (fun W H => ?_) fun W H => ?_
    ·
     refine CT tk 3 [0] W F (ai fun a w W F => ?_)
     refine GT (z := Value.agg #[Jint 0, Jint 0, Jint 0, .slice none 0 0]) (cs := (Jp x10 v11)) B0 ([x10] : List Tr28) W F Aa Se VT Aa Aa Aa (AY Aa Aa Aa CQ) Aa Aa ⟨[Jint x10.un.1, Jint x10.un.2.1, Jint x10.un.2.2.1, v11], _, Aa, (RL.2 ⟨[Jint x10.un.1], [Jint x10.un.2.1, Jint x10.un.2.2.1, v11], Aa, Aa, ⟨[Jint x10.un.2.1], [Jint x10.un.2.2.1, v11], Aa, Aa, ⟨[Jint x10.un.2.2.1], [v11], Aa, Aa, ⟨_, Aa, (F.item (i := 0) Aa)⟩⟩⟩⟩), Aa⟩ fun v12 a w W F => ?_
     have F := F.frontZ (i := 2) Aa Aa
     have F := F.hideR CA h7
     obtain ⟨x11, h13, H⟩ := Af H
     refine DL (r := B0) (i := 0) W F Aa Se Aa Aa Aa Aa (EB F 1 Aa) h13 Aa fun v13 a w W F => ?_
     have F : sy Y w0 (WE b4 x10 v11 b2 b1 p0 v1) [row v13 28 B0 x11, row v12 28 B0 ([x10] : List Tr28), Ch v11 B0 x10.un.2.2.2] w := F
     refine vl tk 2 W F fun a w W F => ?_
     refine Az (Ab ?_)
     have F := F.frontM (i := 2) Aa Aa
     have F := F.frontM (i := 2) Aa Aa
     have F := F.sub (M' := (KB b2 b1 p0 v1)) (Z' := [row v13 28 B0 x11]) (sc (sc nl)) (sc nl)
     exact ⟨_, (v13), H, W.ra Aa, F⟩
    refine AD (Az (Ab ?_))
    have F := F.frontZ (i := 1) Aa Aa
    have F := F.hideR CA h7
    have F := F.frontM (i := 2) Aa Aa
    have F := F.frontM (i := 2) Aa Aa
    have F := F.sub (M' := (KB b2 b1 p0 v1)) (Z' := [row v7 28 B0 x6]) (sc (sc nl)) (sc nl)
    exact ⟨_, (v7), H, W.ra Aa, F⟩
   rintro a w ⟨x8, v8, hj, W, F⟩
   have H := K4 _ hj
   clear hj G4 K4 L4
   refine vc tk 5 W F fun a w W F => ?_
   refine Ab ?_
   have F := F.frontM (i := 1) Aa Aa
   have F := F.frontM (i := 1) Aa Aa
   exact ⟨_, H, (v8), W.ra Aa, F⟩
  refine AN ?_
  iterate 2 refine A6 ?_
  refine AP (Ab ?_)
  have F := F.frontM (i := 1) Aa Aa
  have F := F.frontM (i := 1) Aa Aa
  have H := L3 _ H
  exact ⟨_, (v7), H, W.ra Aa, F⟩
 rintro a w ⟨x5, v6, hj, W, F⟩
 have H := K2 _ hj
 clear hj G2 K2 L2
 refine vc tk 4 W F fun a w W F => ?_
 refine ls W F Aa (Bz (r := B0) (l := x5) Nk Aa W Aa (Ai 0 Aa)).q fun a w W F => ?_
 refine Bo tk 3 W F fun a w W F => ?_
 refine A1 W Aa H (fun W H => ?_) fun W H => ?_
 ·
  refine vc tk 3 W F fun a w W F => ?_
  refine ls W F Aa (Cf (v := Value.agg #[Jint x3, Jint 0, Jint 0, .slice none 0 0]) Wy W Aa Aa Aa).q fun a w W F => ?_
  refine CE 0 W F Aa Aa Aa I2 Aa Aa Aa fun w F => ?_
  refine Bo tk 2 W F fun a w W F => ?_
  refine Ah (Aw ?_)
  have H := Ay H
  subst H
  refine Av (.inl Aa) W F Aa (Cm 0 W Aa Aa I2 Aa) ?_
  have F := F.note (Sl.nil (r := B0))
  have F := F.sub (M' := []) (Z' := [Ch (Value.slice none 0 0) B0 ([])]) nl (sc nl)
  exact ⟨(Value.slice none 0 0), Aa, F⟩
 refine EX tk 6 W F fun a w W F => ?_
 refine ls W F Aa (Bz (r := B0) (l := x5) Nk Aa W Aa (Ai 0 Aa)).q fun a w W F => ?_
 refine Bo tk 3 W F fun a w W F => ?_
 refine A1 W Aa H (fun W H => ?_) fun W H => ?_
 ·
  refine FG ?_
  obtain ⟨v14, h14, F⟩ := F.exR CA
  refine vc tk 2 W F fun a w W F => ?_
  obtain ⟨x12, h15, H⟩ := Af H
  obtain ⟨v15, h16, h17⟩ := CS h14 h15
  have h18 : HZ v15 = [Jint x12.un.1, Jint x12.un.2.1, Jint x12.un.2.2.1, (v15.2.2.2.1)] := congrArg (fun q : Tr28 => ([Jint q.un.1, Jint q.un.2.1, Jint q.un.2.2.1, (v15.2.2.2.1)] : List Value)) h17
  refine ls W F Aa (Au (r := Ia) Se W Aa Aa (Ai 0 Aa) h16).q fun a w W F => ?_
  refine ls W F Aa (Aj (y := Value.agg #[Jint x12.un.1, Jint x12.un.2.1, Jint x12.un.2.2.1, (v15.2.2.2.1)]) (j := 0) (i := 0) (enc := HZ) W Aa Aa (Ai 0 Aa) h16 Oi I2 (by rw [h18]; rfl)).q fun a w W F => ?_
  have F := F.note (F.rowAt (k := 0) Aa h16 (Ag.snd (Ag.snd (Ag.snd Ag.here))) (congrArg (fun q : Tr28 => q.un.2.2.2) h17))
  refine CE 0 W F Aa Aa Aa I2 Aa Aa (Ac Aa (Ac Aa (Ac Aa (Ac (F.oneF (k := 0) Aa) Bn)))) fun w F => ?_
  refine Bo tk 2 W F fun a w W F => ?_
  refine Ah (Aw ?_)
  have H := Ay H
  subst H
  refine Av (.inl Aa) W F Aa (Cm 0 W Aa Aa I2 Aa) ?_
  have F := F.sub (M' := []) (Z' := [Ch (v15.2.2.2.1) B0 x12.un.2.2.2]) nl (sc nl)
  exact ⟨((v15.2.2.2.1)), Aa, F⟩
 refine Hr tk 7 [1] W F (ai fun a w W F => ?_)
 refine ls W F Aa (Cf (v := Value.agg #[Jint p0.un.1, Jint 0, Jint 0, v6]) Wy W Aa (AY Aa Aa Aa (AY Aa (GW (F.one (k := 0) Aa)) Aa CQ)) Aa).q fun a w W F => ?_
 refine CE 0 W F Aa Aa Aa I2 Aa Aa (Ac Aa (Ac Aa (Ac Aa (Ac (F.one (k := 0) Aa) Bn)))) fun w F => ?_
 refine Bo tk 2 W F fun a w W F => ?_
 refine Ah ?_
 have H := Ay H
 subst H
 refine Av (.inl Aa) W F Aa (Cm 0 W Aa Aa I2 Aa) ?_
 have F := F.freeze
 have F := F.sub (M' := []) (Z' := [Ch v6 B0 x5]) nl sr
 exact ⟨(v6), Aa, F⟩
theorem Sq : ∀ (n : Nat) (Y : Nat → Prop) (w0 : World) (v1 : Value) (p0 : Tr28) (p1 : Int) (r : Tr28) (H : ER n p0 p1 = some r) (s_v1 : Sl w0 Y B0 v1 p0.un.2.2.2), ca_ 25 #[.agg #[Jint p0.un.1, Jint p0.un.2.1, Jint p0.un.2.2.1, v1], Jint p1] w0 fun e w' => ∃ x : Value, e = .returned (.agg #[Jint r.un.1, Jint r.un.2.1, Jint r.un.2.2.1, x]) ∧ sy Y w0 [] [Ch (x) B0 r.un.2.2.2] w' := by
  intro n
  induction n with
  | zero => intro Y w0 v1 p0 p1 r H; exact nomatch H
  | succ n ih => intro Y w0 v1 p0 p1 r H s_v1; exact RA (ER n) ih Y w0 v1 p0 p1 r H s_v1
theorem PJ (Y : Nat → Prop) (w0 : World) (v1 : Value) (p0 : Tr28) (p1 : Int) (r : Tr28) (H : Ns p0 p1 = some r) (s_v1 : Sl w0 Y B0 v1 p0.un.2.2.2) :
    ca_ 25 #[.agg #[Jint p0.un.1, Jint p0.un.2.1, Jint p0.un.2.2.1, v1], Jint p1] w0 fun e w' => ∃ x : Value, e = .returned (.agg #[Jint r.un.1, Jint r.un.2.1, Jint r.un.2.2.1, x]) ∧ sy Y w0 [] [Ch (x) B0 r.un.2.2.2] w' := by
  obtain ⟨n, H⟩ := BP H
  exact Sq n Y w0 v1 p0 p1 r H s_v1
end
end Go.Proofs.YtgoifghhcekahaaGreatDoor
