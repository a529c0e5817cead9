/- The functions of CtlCheck, Hu. Conditions: none. -/
import Derived.Test.YtbiekjhlijdjbaaGreatbA2
set_option linter.unusedVariables false
set_option linter.unusedSimpArgs false
open Go Go.RowKit
namespace Go.Proofs.YtbiekjhlijdjbaaGreat
noncomputable section
set_option maxRecDepth 20000
set_option maxHeartbeats 1600000
theorem H6 : Has Tryz.prog 6 := Bj Tryz.func6
def Eu (p0 : Int × (List (Int × Int × Int × Int × Int × Int)) × (List (Int × Int))) (p1 : Int) (p2 : Int) : (Int × Int) → Option ((Int × Int) ⊕ Int)
  | (x2,x3) => (if x3 < (p0.2.1.length : Int) then ((ix p0.2.1 x3).bind fun x5 => (if (decide (x5.1 = p1) && decide (x5.2.1 = p2)) = true then some (w64 (x2 + 1)) else some x2).bind fun x6 => (if (decide (x5.2.2.1 = p1) && decide (x5.2.2.2.1 = p2)) = true then some (w64 (x6 + 1)) else some x6)).bind fun x4 => some (.inl (x4,w64 (x3 + 1))) else some (.inr x2))
def El (p0 : Int × (List (Int × Int × Int × Int × Int × Int)) × (List (Int × Int))) (p1 : Int) (p2 : Int) : (Int × Int) → Option ((Int × Int) ⊕ Int)
  | (x8,x9) => (if x9 < (p0.2.2.length : Int) then (((ix p0.2.2 x9).bind fun x12 => (if x12.1 = p1 then (ix p0.2.2 x9).bind fun x13 => some (decide (x13.2 = p2)) else some false)).bind fun x11 => (if x11 = true then some (w64 (x8 + 1)) else some x8)).bind fun x10 => some (.inl (x10,w64 (x9 + 1))) else some (.inr x8))
def Fw (p0 : Int × (List (Int × Int × Int × Int × Int × Int)) × (List (Int × Int))) (p1 : Int) (p2 : Int) : Option Bool := (Am (Eu p0 p1 p2) (0,0)).bind fun x1 => (Am (El p0 p1 p2) (x1,0)).bind fun x7 => some (decide (0 ≤ p1) && (decide (p1 < p0.1) && (decide (0 ≤ p2) && (decide (p2 ≤ 7) && decide (x7 = 1)))))
theorem IC (Y : Nat → Prop) (w0 : World) (v1 : Value) (v2 : Value) (p0 : Int × (List (Int × Int × Int × Int × Int × Int)) × (List (Int × Int))) (p1 : Int) (p2 : Int) (r : Bool) (H : Fw p0 p1 p2 = some r) (h_v1 : Sl w0 (NX []) B8 v1 p0.2.1) (h_v2 : Sl w0 (NX []) Cc v2 p0.2.2) :
    Calls Tryz.prog 60 #[.agg #[.int .i64 p0.1,v1,v2],.int .i64 p1,.int .i64 p2] w0 fun e w' => e = .returned (.bool r) ∧ Below w0.heap.size w0 w' := by
 refine enter Tryz.func60 rfl Tryz.ntmps60 rfl (fun a hF => ?_)
 have hW := Stw.start Y w0
 unfold Fw at H
 refine vc tk 2 hF hW fun a w hF hW => ?_
 refine Cv (cs := [.int .i64 p0.1,v1,v2]) hF hW rfl rfl rfl (fun b1 a w hF hW => ?_)
 refine Bc tk 8 hF hW fun a w hF hW => ?_
 obtain ⟨o1,G1,K1⟩ := Ad H
 refine Aj (fun a w => ∃ x1 : Int,some (x1) = some o1 ∧ Fr 94 [] [(1,.int .i64 p1),(2,.int .i64 p2),(3,.pointer (some ⟨b1,0,none⟩)),(6,.bool false),(7,.int .i64 x1)] a ∧ Stw ⟨Y,[],w0⟩ [(b1,[.int .i64 p0.1,v1,v2])] [] w) ?_ ?_
 ·
  have H := G1
  clear G1 K1
  refine vc tk 6 hF hW fun a w hF hW => ?_
  refine AD H (fun s a w => Fr 94 [] [(1,.int .i64 p1),(2,.int .i64 p2),(3,.pointer (some ⟨b1,0,none⟩)),(6,.bool false),(7,.int .i64 s.1),(8,.int .i64 s.2)] a ∧ Stw ⟨Y,[],w0⟩ [(b1,[.int .i64 p0.1,v1,v2])] [] w) ⟨hF.ra rfl,hW⟩ (fun s o a w H L2 hR => ?_)
  obtain ⟨x2,x3⟩ := s
  obtain ⟨hF,hW⟩ := hR
  have hF : Fr 94 [] [(1,.int .i64 p1),(2,.int .i64 p2),(3,.pointer (some ⟨b1,0,none⟩)),(6,.bool false),(7,.int .i64 x2),(8,.int .i64 x3)] a := hF
  have hW : Stw ⟨Y,[],w0⟩ [(b1,[.int .i64 p0.1,v1,v2])] [] w := hW
  rw [Eu] at H
  refine D7 tk 6 [0] hF hW (ai fun a w hF hW => ?_)
  refine ls hF hW rfl ((AK (r := B8) (l := p0.2.1) JB rfl hF rfl (Ab h_v1)).q) (fun a w hF hW => ?_)
  refine Bc tk 3 hF hW fun a w hF hW => ?_
  refine AG hF rfl H (fun hF H => ?_) (fun hF H => ?_)
  ·
   refine Ay ?_
   refine Aa ?_
   obtain ⟨o3,G3,K3⟩ := Ad H
   refine Aj (fun a w => ∃ x4 : Int,some (x4) = some o3 ∧ Fr 94 [] [(1,.int .i64 p1),(2,.int .i64 p2),(3,.pointer (some ⟨b1,0,none⟩)),(6,.bool false),(7,.int .i64 x4),(8,.int .i64 x3)] a ∧ Stw ⟨Y,[],w0⟩ [(b1,[.int .i64 p0.1,v1,v2])] [] w) ?_ ?_
   ·
    have H := G3
    clear G3 K3
    refine D7 tk 6 [0] hF hW (ai fun a w hF hW => ?_)
    obtain ⟨x5,h1,H⟩ := Ad H
    refine ls hF hW rfl ((Ai (r := B8) Wb hF rfl rfl (Ab h_v1) h1).q) (fun a w hF hW => ?_)
    refine ls hF hW rfl ((Af (y := Value.agg #[.int .i64 x5.1,.int .i64 x5.2.1,.int .i64 x5.2.2.1,.int .i64 x5.2.2.2.1,.int .i64 x5.2.2.2.2.1,.int .i64 x5.2.2.2.2.2]) (j := 0) (i := x3) hF rfl rfl (Ab h_v1) h1 Pf.to Lv rfl).q) (fun a w hF hW => ?_)
    refine Ck (cs := [.int .i64 0,.int .i64 0,.int .i64 0,.int .i64 0,.int .i64 0,.int .i64 0]) hF hW rfl Tn rfl (fun b2 a w hF hW => ?_)
    refine Iw 0 hF hW rfl rfl rfl Lv rfl rfl rfl (fun w hW => ?_)
    refine D1 (Aa ?_)
    obtain ⟨o4,G4,K4⟩ := Ad H
    refine Aj (fun a w => ∃ x6 : Int,some (x6) = some o4 ∧ Fr 94 [] [(1,.int .i64 p1),(2,.int .i64 p2),(3,.pointer (some ⟨b1,0,none⟩)),(6,.bool false),(7,.int .i64 x6),(8,.int .i64 x3),(9,.pointer (some ⟨b2,0,none⟩))] a ∧ Stw ⟨Y,[],w0⟩ [(b2,[.int .i64 x5.1,.int .i64 x5.2.1,.int .i64 x5.2.2.1,.int .i64 x5.2.2.2.1,.int .i64 x5.2.2.2.2.1,.int .i64 x5.2.2.2.2.2]),(b1,[.int .i64 p0.1,v1,v2])] [] w) ?_ ?_
    ·
     have H := G4
     clear G4 K4
     refine Aj (fun a w => Fr 94 [] [(1,.int .i64 p1),(2,.int .i64 p2),(3,.pointer (some ⟨b1,0,none⟩)),(6,.bool false),(7,.int .i64 x2),(8,.int .i64 x3),(9,.pointer (some ⟨b2,0,none⟩)),(32,.bool (decide (x5.1 = p1) && decide (x5.2.1 = p2)))] a ∧ Stw ⟨Y,[],w0⟩ [(b2,[.int .i64 x5.1,.int .i64 x5.2.1,.int .i64 x5.2.2.1,.int .i64 x5.2.2.2.1,.int .i64 x5.2.2.2.2.1,.int .i64 x5.2.2.2.2.2]),(b1,[.int .i64 p0.1,v1,v2])] [] w) ?_ ?_
     ·
      refine D7 tk 6 [0] hF hW (ai fun a w hF hW => ?_)
      rcases bxq (decide (x5.1 = p1)) with hb0 | hb0
      ·
       rw [hb0] at hF
       refine Eb tk 6 [0] hF hW (ai fun a w hF hW => ?_)
       refine Aa ?_
       exact ⟨hF.re ⟨rfl,rfl,rfl,rfl,rfl,rfl,rfl,(Di (by try rw [hb0]; all_goals simp only [Dl])),trivial⟩,hW⟩
      ·
       rw [hb0] at hF
       refine vl tk 6 hF hW fun a w hF hW => ?_
       refine Aa ?_
       exact ⟨hF.re ⟨rfl,rfl,rfl,rfl,rfl,rfl,rfl,(Di (by try rw [hb0]; all_goals simp only [Dl])),trivial⟩,hW⟩
     rintro a w ⟨hF,hW⟩
     refine BA hF rfl H (fun hF H => ?_) (fun hF H => ?_)
     ·
      refine vc tk 5 hF hW fun a w hF hW => ?_
      refine Aa ?_
      have hW := hW.frontM (i := 1) rfl rfl
      have hW := hW.frontM (i := 1) rfl rfl
      exact ⟨_,H,hF.ra rfl,hW⟩
     ·
      refine Ay ?_
      refine Aa ?_
      have hW := hW.frontM (i := 1) rfl rfl
      have hW := hW.frontM (i := 1) rfl rfl
      exact ⟨_,H,hF.ra rfl,hW⟩
    rintro a w ⟨x6,hj,hF,hW⟩
    have hj := Option.some.inj hj
    subst hj
    have H := K4
    clear G4 K4
    refine Aj (fun a w => Fr 94 [] [(1,.int .i64 p1),(2,.int .i64 p2),(3,.pointer (some ⟨b1,0,none⟩)),(6,.bool false),(7,.int .i64 x6),(8,.int .i64 x3),(44,.bool (decide (x5.2.2.1 = p1) && decide (x5.2.2.2.1 = p2)))] a ∧ Stw ⟨Y,[],w0⟩ [(b2,[.int .i64 x5.1,.int .i64 x5.2.1,.int .i64 x5.2.2.1,.int .i64 x5.2.2.2.1,.int .i64 x5.2.2.2.2.1,.int .i64 x5.2.2.2.2.2]),(b1,[.int .i64 p0.1,v1,v2])] [] w) ?_ ?_
    ·
     refine D7 tk 6 [0] hF hW (ai fun a w hF hW => ?_)
     rcases bxq (decide (x5.2.2.1 = p1)) with hb0 | hb0
     ·
      rw [hb0] at hF
      refine Eb tk 6 [0] hF hW (ai fun a w hF hW => ?_)
      refine Aa ?_
      exact ⟨hF.re ⟨rfl,rfl,rfl,rfl,rfl,rfl,(Di (by try rw [hb0]; all_goals simp only [Dl])),trivial⟩,hW⟩
     ·
      rw [hb0] at hF
      refine vl tk 6 hF hW fun a w hF hW => ?_
      refine Aa ?_
      exact ⟨hF.re ⟨rfl,rfl,rfl,rfl,rfl,rfl,(Di (by try rw [hb0]; all_goals simp only [Dl])),trivial⟩,hW⟩
    rintro a w ⟨hF,hW⟩
    refine BA hF rfl H (fun hF H => ?_) (fun hF H => ?_)
    ·
     refine vc tk 5 hF hW fun a w hF hW => ?_
     refine An ?_
     refine Aa ?_
     have hW := hW.frontM (i := 1) rfl rfl
     have hW := hW.sub (M' := [(b1,[.int .i64 p0.1,v1,v2])]) (Z' := []) (List.Sublist.cons_cons _ (List.nil_sublist _)) (List.Sublist.refl _)
     exact ⟨_,H,hF.ra rfl,hW⟩
    ·
     refine Ay ?_
     refine An ?_
     refine Aa ?_
     have hW := hW.frontM (i := 1) rfl rfl
     have hW := hW.sub (M' := [(b1,[.int .i64 p0.1,v1,v2])]) (Z' := []) (List.Sublist.cons_cons _ (List.nil_sublist _)) (List.Sublist.refl _)
     exact ⟨_,H,hF.ra rfl,hW⟩
   rintro a w ⟨x4,hj,hF,hW⟩
   have hj := Option.some.inj hj
   subst hj
   have H := K3
   clear G3 K3
   refine vc tk 5 hF hW fun a w hF hW => ?_
   refine Aa ?_
   exact ⟨_,H,hF.ra rfl,hW⟩
  ·
   refine AE ?_
   iterate 2 refine AQ ?_
   refine AF ?_
   refine Aa ?_
   have H := L2 _ H
   exact ⟨_,H,hF.ra rfl,hW⟩
 rintro a w ⟨x1,hj,hF,hW⟩
 have hj := Option.some.inj hj
 subst hj
 have H := K1
 clear G1 K1
 obtain ⟨o5,G5,K5⟩ := Ad H
 refine Aj (fun a w => ∃ x7 : Int,some (x7) = some o5 ∧ Fr 94 [] [(1,.int .i64 p1),(2,.int .i64 p2),(3,.pointer (some ⟨b1,0,none⟩)),(6,.bool false),(7,.int .i64 x7)] a ∧ Stw ⟨Y,[],w0⟩ [(b1,[.int .i64 p0.1,v1,v2])] [] w) ?_ ?_
 ·
  have H := G5
  clear G5 K5
  refine vc tk 6 hF hW fun a w hF hW => ?_
  refine AD H (fun s a w => Fr 94 [] [(1,.int .i64 p1),(2,.int .i64 p2),(3,.pointer (some ⟨b1,0,none⟩)),(6,.bool false),(7,.int .i64 s.1),(10,.int .i64 s.2)] a ∧ Stw ⟨Y,[],w0⟩ [(b1,[.int .i64 p0.1,v1,v2])] [] w) ⟨hF.ra rfl,hW⟩ (fun s o a w H L6 hR => ?_)
  obtain ⟨x8,x9⟩ := s
  obtain ⟨hF,hW⟩ := hR
  have hF : Fr 94 [] [(1,.int .i64 p1),(2,.int .i64 p2),(3,.pointer (some ⟨b1,0,none⟩)),(6,.bool false),(7,.int .i64 x8),(10,.int .i64 x9)] a := hF
  have hW : Stw ⟨Y,[],w0⟩ [(b1,[.int .i64 p0.1,v1,v2])] [] w := hW
  rw [El] at H
  refine D7 tk 6 [0] hF hW (ai fun a w hF hW => ?_)
  refine ls hF hW rfl ((AK (r := Cc) (l := p0.2.2) JG rfl hF rfl (Ab h_v2)).q) (fun a w hF hW => ?_)
  refine Bc tk 3 hF hW fun a w hF hW => ?_
  refine AG hF rfl H (fun hF H => ?_) (fun hF H => ?_)
  ·
   refine Ay ?_
   refine Aa ?_
   obtain ⟨o7,G7,K7⟩ := Ad H
   refine Aj (fun a w => ∃ x10 : Int,some (x10) = some o7 ∧ Fr 94 [] [(1,.int .i64 p1),(2,.int .i64 p2),(3,.pointer (some ⟨b1,0,none⟩)),(6,.bool false),(7,.int .i64 x10),(10,.int .i64 x9)] a ∧ Stw ⟨Y,[],w0⟩ [(b1,[.int .i64 p0.1,v1,v2])] [] w) ?_ ?_
   ·
    have H := G7
    clear G7 K7
    refine EI ?_
    obtain ⟨o8,G8,K8⟩ := Ad H
    refine Aj (fun a w => ∃ x11 : Bool,some (x11) = some o8 ∧ Fr 94 [] [(1,.int .i64 p1),(2,.int .i64 p2),(3,.pointer (some ⟨b1,0,none⟩)),(6,.bool false),(7,.int .i64 x8),(10,.int .i64 x9),(71,.bool x11)] a ∧ Stw ⟨Y,[],w0⟩ [(b1,[.int .i64 p0.1,v1,v2])] [] w) ?_ ?_
    ·
     have H := G8
     clear G8 K8
     refine D7 tk 4 [0] hF hW (ai fun a w hF hW => ?_)
     obtain ⟨x12,h2,H⟩ := Ad H
     refine ls hF hW rfl ((Ai (r := Cc) UE hF rfl rfl (Ab h_v2) h2).q) (fun a w hF hW => ?_)
     refine ls hF hW rfl ((Au JY rfl rfl rfl T3 hF rfl (Dt v2 + (x9).toNat * 2) rfl).q) (fun a w hF hW => ?_)
     refine ls hF hW rfl ((Af (y := Value.int .i64 x12.1) (j := 0) (i := x9) hF rfl rfl (Ab h_v2) h2 Nz.to T3 rfl).q) (fun a w hF hW => ?_)
     refine vl tk 3 hF hW fun a w hF hW => ?_
     rcases bxq (decide (x12.1 = p1)) with hb | hb
     ·
      have H := BP (of_decide_eq_true hb) H
      rw [hb] at hF
      clear hb
      refine Eb tk 3 [0] hF hW (ai fun a w hF hW => ?_)
      obtain ⟨x13,h3,H⟩ := Ad H
      refine BC hF hW (Ac hF rfl rfl rfl rfl) rfl (ze rfl) ((Ai (r := Cc) UE hF rfl rfl (Ab h_v2) h3).q) (fun a w hF hW => ?_)
      refine BC hF hW (Ac hF rfl rfl rfl rfl) rfl (ze rfl) ((Au JY rfl rfl rfl T3 hF rfl (Dt v2 + (x9).toNat * 2 + 1) rfl).q) (fun a w hF hW => ?_)
      refine BC hF hW (Ac hF rfl rfl rfl rfl) rfl (ze rfl) ((Af (y := Value.int .i64 x13.2) (j := 1) (i := x9) hF rfl rfl (Ab h_v2) h3 Nz.to T3 rfl).q) (fun a w hF hW => ?_)
      refine vl tk 4 hF hW fun a w hF hW => ?_
      refine Aa ?_
      exact ⟨_,H,hF.ra rfl,hW⟩
     ·
      have H := BQ (of_decide_eq_false hb) H
      rw [hb] at hF
      clear hb
      refine vl tk 10 hF hW fun a w hF hW => ?_
      refine Aa ?_
      exact ⟨_,H,hF.ra rfl,hW⟩
    rintro a w ⟨x11,hj,hF,hW⟩
    have hj := Option.some.inj hj
    subst hj
    have H := K8
    clear G8 K8
    refine BA hF rfl H (fun hF H => ?_) (fun hF H => ?_)
    ·
     refine vc tk 5 hF hW fun a w hF hW => ?_
     refine An ?_
     refine Aa ?_
     exact ⟨_,H,hF.ra rfl,hW⟩
    ·
     refine Ay ?_
     refine An ?_
     refine Aa ?_
     exact ⟨_,H,hF.ra rfl,hW⟩
   rintro a w ⟨x10,hj,hF,hW⟩
   have hj := Option.some.inj hj
   subst hj
   have H := K7
   clear G7 K7
   refine vc tk 5 hF hW fun a w hF hW => ?_
   refine Aa ?_
   exact ⟨_,H,hF.ra rfl,hW⟩
  ·
   refine AE ?_
   iterate 2 refine AQ ?_
   refine AF ?_
   refine Aa ?_
   have H := L6 _ H
   exact ⟨_,H,hF.ra rfl,hW⟩
 rintro a w ⟨x7,hj,hF,hW⟩
 have hj := Option.some.inj hj
 subst hj
 have H := K5
 clear G5 K5
 refine Aj (fun a w => Fr 94 [] [(6,.bool (decide (0 ≤ p1) && (decide (p1 < p0.1) && (decide (0 ≤ p2) && (decide (p2 ≤ 7) && decide (x7 = 1))))))] a ∧ Stw ⟨Y,[],w0⟩ [(b1,[.int .i64 p0.1,v1,v2])] [] w) ?_ ?_
 ·
  refine vc tk 4 hF hW fun a w hF hW => ?_
  rcases bxq (decide (0 ≤ p1)) with hb0 | hb0
  ·
   rw [hb0] at hF
   refine Eb tk 6 [0] hF hW (ai fun a w hF hW => ?_)
   rcases bxq (decide (p1 < p0.1)) with hb1 | hb1
   ·
    rw [hb1] at hF
    refine vl tk 4 hF hW fun a w hF hW => ?_
    rcases bxq (decide (0 ≤ p2)) with hb2 | hb2
    ·
     rw [hb2] at hF
     refine vl tk 4 hF hW fun a w hF hW => ?_
     rcases bxq (decide (p2 ≤ 7)) with hb3 | hb3
     ·
      rw [hb3] at hF
      refine vl tk 5 hF hW fun a w hF hW => ?_
      refine Aa ?_
      exact ⟨hF.re ⟨(Di (by try rw [hb1]; try rw [hb0]; try rw [hb2]; try rw [hb3]; all_goals simp only [Dl])),trivial⟩,hW⟩
     ·
      rw [hb3] at hF
      refine vl tk 5 hF hW fun a w hF hW => ?_
      refine Aa ?_
      exact ⟨hF.re ⟨(Di (by try rw [hb1]; try rw [hb0]; try rw [hb2]; try rw [hb3]; all_goals simp only [Dl])),trivial⟩,hW⟩
    ·
     rw [hb2] at hF
     refine vl tk 9 hF hW fun a w hF hW => ?_
     refine Aa ?_
     exact ⟨hF.re ⟨(Di (by try rw [hb1]; try rw [hb0]; try rw [hb2]; all_goals simp only [Dl])),trivial⟩,hW⟩
   ·
    rw [hb1] at hF
    refine vl tk 13 hF hW fun a w hF hW => ?_
    refine Aa ?_
    exact ⟨hF.re ⟨(Di (by try rw [hb1]; try rw [hb0]; all_goals simp only [Dl])),trivial⟩,hW⟩
  ·
   rw [hb0] at hF
   refine vl tk 19 hF hW fun a w hF hW => ?_
   refine Aa ?_
   exact ⟨hF.re ⟨(Di (by try rw [hb0]; all_goals simp only [Dl])),trivial⟩,hW⟩
 rintro a w ⟨hF,hW⟩
 refine Ah ?_
 have H := Option.some.inj H
 subst H
 refine Aw (.inl rfl) hF hW rfl (Ag hF rfl) ?_
 exact ⟨rfl,hW.done⟩
theorem b8 : Has Tryz.prog 60 := Bj Tryz.func60
def EF (p0 : Int × (List (Int × Int × Int × Int × Int × Int)) × (List (Int × Int))) : Int → Option (Int ⊕ (Unit ⊕ Bool))
  | x1 => (if x1 < (p0.2.1.length : Int) then (ix p0.2.1 x1).bind fun x2 => (if x2.1 = x2.2.2.1 then some true else (if x2.2.2.2.2.1 < 1 then some true else (if x2.2.2.2.2.2 < x2.2.2.2.2.1 then some true else (if 1000 < x2.2.2.2.2.2 then some true else (Fw p0 x2.1 x2.2.1).bind fun x4 => (if (!x4) = true then some true else (Fw p0 x2.2.2.1 x2.2.2.2.1).bind fun x5 => some (!x5)))))).bind fun x3 => (if x3 = true then some (.inr (.inr false)) else some (.inl (w64 (x1 + 1)))) else some (.inr (.inl ())))
def EE (p0 : Int × (List (Int × Int × Int × Int × Int × Int)) × (List (Int × Int))) : Int → Option (Int ⊕ (Unit ⊕ Bool))
  | x6 => (if x6 < (p0.2.2.length : Int) then (ix p0.2.2 x6).bind fun x7 => (ix p0.2.2 x6).bind fun x8 => (Fw p0 x7.1 x8.2).bind fun x9 => (if (!x9) = true then some (.inr (.inr false)) else some (.inl (w64 (x6 + 1)))) else some (.inr (.inl ())))
def Fi (p0 : Int × (List (Int × Int × Int × Int × Int × Int)) × (List (Int × Int))) : Option Bool := (if (decide (p0.1 < 1) || (decide (8 < p0.1) || (decide (24 < (p0.2.1.length : Int)) || decide (8 < (p0.2.2.length : Int))))) = true then some false else GU (Am (EF p0) 0) fun _ => GU (Am (EE p0) 0) fun _ => some true)
theorem JR (Y : Nat → Prop) (w0 : World) (v1 : Value) (v2 : Value) (p0 : Int × (List (Int × Int × Int × Int × Int × Int)) × (List (Int × Int))) (r : Bool) (H : Fi p0 = some r) (h_v1 : Sl w0 (NX []) B8 v1 p0.2.1) (h_v2 : Sl w0 (NX []) Cc v2 p0.2.2) :
    Calls Tryz.prog 27 #[.agg #[.int .i64 p0.1,v1,v2]] w0 fun e w' => e = .returned (.bool r) ∧ Below w0.heap.size w0 w' := by
 refine enter Tryz.func27 rfl Tryz.ntmps27 rfl (fun a hF => ?_)
 have hW := Stw.start Y w0
 unfold Fi at H
 refine vc tk 2 hF hW fun a w hF hW => ?_
 refine Cv (cs := [.int .i64 p0.1,v1,v2]) hF hW rfl rfl rfl (fun b1 a w hF hW => ?_)
 refine Bc tk 4 hF hW fun a w hF hW => ?_
 refine Aj (fun a w => Fr 100 [] [(1,.pointer (some ⟨b1,0,none⟩)),(2,.bool false),(25,.bool (decide (p0.1 < 1) || (decide (8 < p0.1) || (decide (24 < (p0.2.1.length : Int)) || decide (8 < (p0.2.2.length : Int))))))] a ∧ Stw ⟨Y,[],w0⟩ [(b1,[.int .i64 p0.1,v1,v2])] [] w) ?_ ?_
 ·
  refine D7 tk 5 [0] hF hW (ai fun a w hF hW => ?_)
  rcases bxq (decide (p0.1 < 1)) with hb0 | hb0
  ·
   rw [hb0] at hF
   refine vl tk 17 hF hW fun a w hF hW => ?_
   refine Aa ?_
   exact ⟨hF.re ⟨rfl,rfl,(Di (by try rw [hb0]; all_goals simp only [Dl])),trivial⟩,hW⟩
  ·
   rw [hb0] at hF
   refine Eb tk 5 [0] hF hW (ai fun a w hF hW => ?_)
   rcases bxq (decide (8 < p0.1)) with hb1 | hb1
   ·
    rw [hb1] at hF
    refine vl tk 12 hF hW fun a w hF hW => ?_
    refine Aa ?_
    exact ⟨hF.re ⟨rfl,rfl,(Di (by try rw [hb0]; try rw [hb1]; all_goals simp only [Dl])),trivial⟩,hW⟩
   ·
    rw [hb1] at hF
    refine Eb tk 2 [0] hF hW (ai fun a w hF hW => ?_)
    refine BC hF hW (Ac hF rfl rfl rfl rfl) rfl (ze rfl) ((AK (r := B8) (l := p0.2.1) JB rfl hF rfl (Ab h_v1)).q) (fun a w hF hW => ?_)
    refine vl tk 3 hF hW fun a w hF hW => ?_
    rcases bxq (decide (24 < (p0.2.1.length : Int))) with hb2 | hb2
    ·
     rw [hb2] at hF
     refine vl tk 6 hF hW fun a w hF hW => ?_
     refine Aa ?_
     exact ⟨hF.re ⟨rfl,rfl,(Di (by try rw [hb2]; try rw [hb0]; try rw [hb1]; all_goals simp only [Dl])),trivial⟩,hW⟩
    ·
     rw [hb2] at hF
     refine Eb tk 2 [0] hF hW (ai fun a w hF hW => ?_)
     refine BC hF hW (Ac hF rfl rfl rfl rfl) rfl (ze rfl) ((AK (r := Cc) (l := p0.2.2) JG rfl hF rfl (Ab h_v2)).q) (fun a w hF hW => ?_)
     refine vl tk 3 hF hW fun a w hF hW => ?_
     refine Aa ?_
     exact ⟨hF.re ⟨rfl,rfl,(Di (by try rw [hb2]; try rw [hb0]; try rw [hb1]; all_goals simp only [Dl])),trivial⟩,hW⟩
 rintro a w ⟨hF,hW⟩
 refine BA hF rfl H (fun hF H => ?_) (fun hF H => ?_)
 ·
  refine vc tk 5 hF hW fun a w hF hW => ?_
  refine Ah ?_
  refine Ak ?_
  have H := Option.some.inj H
  subst H
  refine Aw (.inl rfl) hF hW rfl (Ag hF rfl) ?_
  exact ⟨rfl,hW.done⟩
 ·
  refine Ay ?_
  refine Aa ?_
  obtain ⟨o1,G1,K1,L1⟩ := KC H
  refine Aj (fun a w => some (Sum.inl ()) = some o1 ∧ Fr 100 [] [(1,.pointer (some ⟨b1,0,none⟩)),(2,.bool false)] a ∧ Stw ⟨Y,[],w0⟩ [(b1,[.int .i64 p0.1,v1,v2])] [] w) ?_ ?_
  ·
   have H := G1
   clear G1 K1
   refine vc tk 6 hF hW fun a w hF hW => ?_
   refine AD H (fun s a w => Fr 100 [] [(1,.pointer (some ⟨b1,0,none⟩)),(2,.bool false),(3,.int .i64 s)] a ∧ Stw ⟨Y,[],w0⟩ [(b1,[.int .i64 p0.1,v1,v2])] [] w) ⟨hF.ra rfl,hW⟩ (fun s o a w H L2 hR => ?_)
   obtain ⟨x1,rfl⟩ : ∃ x,x = s := ⟨s,rfl⟩
   obtain ⟨hF,hW⟩ := hR
   have hF : Fr 100 [] [(1,.pointer (some ⟨b1,0,none⟩)),(2,.bool false),(3,.int .i64 x1)] a := hF
   have hW : Stw ⟨Y,[],w0⟩ [(b1,[.int .i64 p0.1,v1,v2])] [] w := hW
   rw [EF] at H
   refine D7 tk 6 [0] hF hW (ai fun a w hF hW => ?_)
   refine ls hF hW rfl ((AK (r := B8) (l := p0.2.1) JB rfl hF rfl (Ab h_v1)).q) (fun a w hF hW => ?_)
   refine Bc tk 3 hF hW fun a w hF hW => ?_
   refine AG hF rfl H (fun hF H => ?_) (fun hF H => ?_)
   ·
    refine LT tk 9 [0] hF hW (ai fun a w hF hW => ?_)
    obtain ⟨x2,h1,H⟩ := Ad H
    refine ls hF hW rfl ((Ai (r := B8) Wb hF rfl rfl (Ab h_v1) h1).q) (fun a w hF hW => ?_)
    refine ls hF hW rfl ((Af (y := Value.agg #[.int .i64 x2.1,.int .i64 x2.2.1,.int .i64 x2.2.2.1,.int .i64 x2.2.2.2.1,.int .i64 x2.2.2.2.2.1,.int .i64 x2.2.2.2.2.2]) (j := 0) (i := x1) hF rfl rfl (Ab h_v1) h1 Pf.to Lv rfl).q) (fun a w hF hW => ?_)
    refine Ck (cs := [.int .i64 0,.int .i64 0,.int .i64 0,.int .i64 0,.int .i64 0,.int .i64 0]) hF hW rfl Tn rfl (fun b2 a w hF hW => ?_)
    refine Iw 0 hF hW rfl rfl rfl Lv rfl rfl rfl (fun w hW => ?_)
    refine D1 (Aa ?_)
    obtain ⟨o3,G3,K3⟩ := Ad H
    refine Aj (fun a w => ∃ x3 : Bool,some (x3) = some o3 ∧ Fr 100 [] [(1,.pointer (some ⟨b1,0,none⟩)),(2,.bool false),(3,.int .i64 x1),(77,.bool x3)] a ∧ Stw ⟨Y,[],w0⟩ [(b2,[.int .i64 x2.1,.int .i64 x2.2.1,.int .i64 x2.2.2.1,.int .i64 x2.2.2.2.1,.int .i64 x2.2.2.2.2.1,.int .i64 x2.2.2.2.2.2]),(b1,[.int .i64 p0.1,v1,v2])] [] w) ?_ ?_
    ·
     have H := G3
     clear G3 K3
     refine D7 tk 7 [0,0] hF hW (ai (ai fun a w hF hW => ?_))
     rcases bxq (decide (x2.1 = x2.2.2.1)) with hb | hb
     ·
      have H := BP (of_decide_eq_true hb) H
      rw [hb] at hF
      clear hb
      refine vl tk 35 hF hW fun a w hF hW => ?_
      refine Aa ?_
      have hW := hW.frontM (i := 1) rfl rfl
      have hW := hW.frontM (i := 1) rfl rfl
      exact ⟨_,H,hF.ra rfl,hW⟩
     ·
      have H := BQ (of_decide_eq_false hb) H
      rw [hb] at hF
      clear hb
      refine Eb tk 5 [0] hF hW (ai fun a w hF hW => ?_)
      rcases bxq (decide (x2.2.2.2.2.1 < 1)) with hb | hb
      ·
       have H := BP (of_decide_eq_true hb) H
       rw [hb] at hF
       clear hb
       refine vl tk 30 hF hW fun a w hF hW => ?_
       refine Aa ?_
       have hW := hW.frontM (i := 1) rfl rfl
       have hW := hW.frontM (i := 1) rfl rfl
       exact ⟨_,H,hF.ra rfl,hW⟩
      ·
       have H := BQ (of_decide_eq_false hb) H
       rw [hb] at hF
       clear hb
       refine Eb tk 7 [0,0] hF hW (ai (ai fun a w hF hW => ?_))
       rcases bxq (decide (x2.2.2.2.2.2 < x2.2.2.2.2.1)) with hb | hb
       ·
        have H := BP (of_decide_eq_true hb) H
        rw [hb] at hF
        clear hb
        refine vl tk 23 hF hW fun a w hF hW => ?_
        refine Aa ?_
        have hW := hW.frontM (i := 1) rfl rfl
        have hW := hW.frontM (i := 1) rfl rfl
        exact ⟨_,H,hF.ra rfl,hW⟩
       ·
        have H := BQ (of_decide_eq_false hb) H
        rw [hb] at hF
        clear hb
        refine Eb tk 5 [0] hF hW (ai fun a w hF hW => ?_)
        rcases bxq (decide (1000 < x2.2.2.2.2.2)) with hb | hb
        ·
         have H := BP (of_decide_eq_true hb) H
         rw [hb] at hF
         clear hb
         refine vl tk 18 hF hW fun a w hF hW => ?_
         refine Aa ?_
         have hW := hW.frontM (i := 1) rfl rfl
         have hW := hW.frontM (i := 1) rfl rfl
         exact ⟨_,H,hF.ra rfl,hW⟩
        ·
         have H := BQ (of_decide_eq_false hb) H
         rw [hb] at hF
         clear hb
         refine Eb tk 5 [1,0,0] hF hW (ai (ai (ai fun a w hF hW => ?_)))
         refine Fq (Ac hF rfl rfl rfl rfl) ?_
         obtain ⟨x4,h2,H⟩ := Ad H
         refine ls hF hW rfl (Av (v := Value.bool x4) hF b8 rfl (fun w hW => IC any w (v1) (v2) p0 x2.1 x2.2.1 _ h2 (D3 (Ab h_v1) hW) (D3 (Ab h_v2) hW))) (fun a w hF hW => ?_)
         refine vl tk 3 hF hW fun a w hF hW => ?_
         rcases bxq (!x4) with hb | hb
         ·
          have H := BP hb H
          rw [hb] at hF
          clear hb
          refine vl tk 9 hF hW fun a w hF hW => ?_
          refine Aa ?_
          have hW := hW.frontM (i := 1) rfl rfl
          have hW := hW.frontM (i := 1) rfl rfl
          exact ⟨_,H,hF.ra rfl,hW⟩
         ·
          have H := BQ (by rw [hb]; decide) H
          rw [hb] at hF
          clear hb
          refine Eb tk 5 [1,0,0] hF hW (ai (ai (ai fun a w hF hW => ?_)))
          refine Fq (Ac hF rfl rfl rfl rfl) ?_
          obtain ⟨x5,h3,H⟩ := Ad H
          refine ls hF hW rfl (Av (v := Value.bool x5) hF b8 rfl (fun w hW => IC any w (v1) (v2) p0 x2.2.2.1 x2.2.2.2.1 _ h3 (D3 (Ab h_v1) hW) (D3 (Ab h_v2) hW))) (fun a w hF hW => ?_)
          refine vl tk 3 hF hW fun a w hF hW => ?_
          refine Aa ?_
          have hW := hW.frontM (i := 1) rfl rfl
          have hW := hW.frontM (i := 1) rfl rfl
          exact ⟨_,H,hF.ra rfl,hW⟩
    rintro a w ⟨x3,hj,hF,hW⟩
    have hj := Option.some.inj hj
    subst hj
    have H := K3
    clear G3 K3
    refine BA hF rfl H (fun hF H => ?_) (fun hF H => ?_)
    ·
     refine vc tk 5 hF hW fun a w hF hW => ?_
     refine Ah ?_
     refine Az ?_
     iterate 2 refine Ak ?_
     refine Az ?_
     refine Ak ?_
     have H := L2 _ H
     have H := L1 _ H
     have H := Option.some.inj H
     subst H
     refine Aw (.inl rfl) hF hW rfl (Ag hF rfl) ?_
     exact ⟨rfl,hW.done⟩
    ·
     refine Ay ?_
     refine An ?_
     refine vn tk 5 hF hW fun a w hF hW => ?_
     refine Aa ?_
     have hW := hW.frontM (i := 1) rfl rfl
     have hW := hW.sub (M' := [(b1,[.int .i64 p0.1,v1,v2])]) (Z' := []) (List.Sublist.cons_cons _ (List.nil_sublist _)) (List.Sublist.refl _)
     exact ⟨_,H,hF.ra rfl,hW⟩
   ·
    refine AE ?_
    iterate 2 refine AQ ?_
    refine AF ?_
    refine Aa ?_
    have H := L2 _ H
    exact ⟨H,hF.ra rfl,hW⟩
  rintro a w ⟨hj,hF,hW⟩
  have H := K1 _ hj
  clear hj G1 K1 L1
  obtain ⟨o4,G4,K4,L4⟩ := KC H
  refine Aj (fun a w => some (Sum.inl ()) = some o4 ∧ Fr 100 [] [(2,.bool false)] a ∧ Stw ⟨Y,[],w0⟩ [(b1,[.int .i64 p0.1,v1,v2])] [] w) ?_ ?_
  ·
   have H := G4
   clear G4 K4
   refine vc tk 6 hF hW fun a w hF hW => ?_
   refine AD H (fun s a w => Fr 100 [] [(1,.pointer (some ⟨b1,0,none⟩)),(2,.bool false),(5,.int .i64 s)] a ∧ Stw ⟨Y,[],w0⟩ [(b1,[.int .i64 p0.1,v1,v2])] [] w) ⟨hF.ra rfl,hW⟩ (fun s o a w H L5 hR => ?_)
   obtain ⟨x6,rfl⟩ : ∃ x,x = s := ⟨s,rfl⟩
   obtain ⟨hF,hW⟩ := hR
   have hF : Fr 100 [] [(1,.pointer (some ⟨b1,0,none⟩)),(2,.bool false),(5,.int .i64 x6)] a := hF
   have hW : Stw ⟨Y,[],w0⟩ [(b1,[.int .i64 p0.1,v1,v2])] [] w := hW
   rw [EE] at H
   refine D7 tk 6 [0] hF hW (ai fun a w hF hW => ?_)
   refine ls hF hW rfl ((AK (r := Cc) (l := p0.2.2) JG rfl hF rfl (Ab h_v2)).q) (fun a w hF hW => ?_)
   refine Bc tk 3 hF hW fun a w hF hW => ?_
   refine AG hF rfl H (fun hF H => ?_) (fun hF H => ?_)
   ·
    refine D2 tk 5 hF hW fun a w hF hW => ?_
    refine BV hW MO (by kernel_rfl) ?_
    refine qs hF rfl ((B5 (v := Value.agg #[.int .i64 p0.1,v1,v2]) 0 hF rfl rfl Ww rfl).q) (fun a hF => ?_)
    refine qs hF rfl ((Au SG rfl rfl rfl Zt hF rfl 2 rfl).q) (fun a hF => ?_)
    refine qs hF rfl ((B5 (v := v2) 0 hF rfl rfl Zt rfl).q) (fun a hF => ?_)
    refine qs hF rfl ((Al hF rfl).q) (fun a hF => ?_)
    obtain ⟨x7,h4,H⟩ := Ad H
    refine qs hF rfl ((Ai (r := Cc) UE hF rfl rfl (Ab h_v2) h4).q) (fun a hF => ?_)
    refine qs hF rfl ((Au JY rfl rfl rfl T3 hF rfl (Dt v2 + (x6).toNat * 2) rfl).q) (fun a hF => ?_)
    refine qs hF rfl ((Af (y := Value.int .i64 x7.1) (j := 0) (i := x6) hF rfl rfl (Ab h_v2) h4 Nz.to T3 rfl).q) (fun a hF => ?_)
    refine qs hF rfl ((Au SG rfl rfl rfl Zt hF rfl 2 rfl).q) (fun a hF => ?_)
    refine qs hF rfl ((B5 (v := v2) 0 hF rfl rfl Zt rfl).q) (fun a hF => ?_)
    refine qs hF rfl ((Al hF rfl).q) (fun a hF => ?_)
    obtain ⟨x8,h5,H⟩ := Ad H
    refine qs hF rfl ((Ai (r := Cc) UE hF rfl rfl (Ab h_v2) h5).q) (fun a hF => ?_)
    refine qs hF rfl ((Au JY rfl rfl rfl T3 hF rfl (Dt v2 + (x6).toNat * 2 + 1) rfl).q) (fun a hF => ?_)
    refine qs hF rfl ((Af (y := Value.int .i64 x8.2) (j := 1) (i := x6) hF rfl rfl (Ab h_v2) h5 Nz.to T3 rfl).q) (fun a hF => ?_)
    obtain ⟨x9,h6,H⟩ := Ad H
    refine qs hF rfl (Av (v := Value.bool x9) hF b8 rfl (fun w hW => IC any w (v1) (v2) p0 x7.1 x8.2 _ h6 (D3 (Ab h_v1) hW) (D3 (Ab h_v2) hW))) (fun a hF => ?_)
    refine qs hF rfl ((Ua hF rfl).q) (fun a hF => ?_)
    refine AX (fun w hW => ?_)
    refine Aa ?_
    refine BA hF rfl H (fun hF H => ?_) (fun hF H => ?_)
    ·
     refine vc tk 5 hF hW fun a w hF hW => ?_
     refine Ah ?_
     refine Az ?_
     iterate 2 refine Ak ?_
     refine Az ?_
     refine Ak ?_
     have H := L5 _ H
     have H := L4 _ H
     have H := Option.some.inj H
     subst H
     refine Aw (.inl rfl) hF hW rfl (Ag hF rfl) ?_
     exact ⟨rfl,hW.done⟩
    ·
     refine Ay ?_
     refine An ?_
     refine vn tk 5 hF hW fun a w hF hW => ?_
     refine Aa ?_
     exact ⟨_,H,hF.ra rfl,hW⟩
   ·
    refine AE ?_
    iterate 2 refine AQ ?_
    refine AF ?_
    refine Aa ?_
    have H := L5 _ H
    exact ⟨H,hF.ra rfl,hW⟩
  rintro a w ⟨hj,hF,hW⟩
  have H := K4 _ hj
  clear hj G4 K4 L4
  refine vc tk 5 hF hW fun a w hF hW => ?_
  refine Ah ?_
  have H := Option.some.inj H
  subst H
  refine Aw (.inl rfl) hF hW rfl (Ag hF rfl) ?_
  exact ⟨rfl,hW.done⟩
theorem eC : Has Tryz.prog 27 := Bj Tryz.func27
def Em (p0 : Int × (List (Int × Int × Int × Int × Int × Int)) × (List (Int × Int))) (p1 : Int) : (List Int × Int) → Option ((List Int × Int) ⊕ (List Int))
  | (x2,x3) => (if x3 < p0.1 then (if x3 = p1 then (app x2 ([0] : List Int)).bind fun x5 => some x5 else (app x2 ([(-1)] : List Int)).bind fun x6 => some x6).bind fun x4 => some (.inl (x4,w64 (x3 + 1))) else some (.inr x2))
def Ew (p0 : Int × (List (Int × Int × Int × Int × Int × Int)) × (List (Int × Int))) (x9 : Int) : (List Int × Int) → Option ((List Int × Int) ⊕ (List Int))
  | (x11,x12) => (if x12 < (p0.2.1.length : Int) then ((ix p0.2.1 x12).bind fun x14 => (ix p0.2.1 x12).bind fun x15 => (((ix x11 x14.1).bind fun x18 => (if x18 = x9 then (ix x11 x15.2.2.1).bind fun x19 => some (decide (x19 = (-1))) else some false)).bind fun x17 => (if x17 = true then (ix x11 x15.2.2.1).bind fun x20 => some (Ao x11 x15.2.2.1 (w64 (x9 + 1))) else some x11)).bind fun x16 => ((ix x16 x15.2.2.1).bind fun x22 => (if x22 = x9 then (ix x16 x14.1).bind fun x23 => some (decide (x23 = (-1))) else some false)).bind fun x21 => (if x21 = true then (ix x16 x14.1).bind fun x24 => some (Ao x16 x14.1 (w64 (x9 + 1))) else some x16)).bind fun x13 => some (.inl (x13,w64 (x12 + 1))) else some (.inr x11))
def Er (p0 : Int × (List (Int × Int × Int × Int × Int × Int)) × (List (Int × Int))) : (List Int × Int) → Option ((List Int × Int) ⊕ (List Int))
  | (x8,x9) => (if x9 < p0.1 then (Am (Ew p0 x9) (x8,0)).bind fun x10 => some (.inl (x10,w64 (x9 + 1))) else some (.inr x8))
def Ho (p0 : Int × (List (Int × Int × Int × Int × Int × Int)) × (List (Int × Int))) (p1 : Int) : Option (List Int) := (Am (Em p0 p1) ([],0)).bind fun x1 => (Am (Er p0) (x1,0)).bind fun x7 => some x7
theorem PS (Y : Nat → Prop) (w0 : World) (v1 : Value) (v2 : Value) (p0 : Int × (List (Int × Int × Int × Int × Int × Int)) × (List (Int × Int))) (p1 : Int) (r : List Int) (H : Ho p0 p1 = some r) (h_v1 : Sl w0 (NX []) B8 v1 p0.2.1) (h_v2 : Sl w0 (NX []) Cc v2 p0.2.2) :
    Calls Tryz.prog 61 #[.agg #[.int .i64 p0.1,v1,v2],.int .i64 p1] w0 fun e w' => ∃ x : Value,e = .returned (x) ∧ Stw ⟨Y,[],w0⟩ [] [row (x) 3 (Rp.int .i64) r] w' := by
 refine enter Tryz.func61 rfl Tryz.ntmps61 rfl (fun a hF => ?_)
 have hW := Stw.start Y w0
 unfold Ho at H
 refine vc tk 2 hF hW fun a w hF hW => ?_
 refine Cv (cs := [.int .i64 p0.1,v1,v2]) hF hW rfl rfl rfl (fun b1 a w hF hW => ?_)
 refine Bc tk 8 hF hW fun a w hF hW => ?_
 obtain ⟨o1,G1,K1⟩ := Ad H
 refine Aj (fun a w => ∃ x1 : List Int, ∃ v3 : Value,some (x1) = some o1 ∧ Fr 88 [] [(2,.pointer (some ⟨b1,0,none⟩)),(4,.slice none 0 0),(5,v3)] a ∧ Stw ⟨Y,[],w0⟩ [(b1,[.int .i64 p0.1,v1,v2])] [row v3 3 (Rp.int .i64) x1] w) ?_ ?_
 ·
  have H := G1
  clear G1 K1
  refine vc tk 6 hF hW fun a w hF hW => ?_
  have hW := hW.nilRow 3 (Rp.int .i64)
  refine AD H (fun s a w => ∃ v4 : Value,Fr 88 [] [(1,.int .i64 p1),(2,.pointer (some ⟨b1,0,none⟩)),(4,.slice none 0 0),(5,v4),(6,.int .i64 s.2)] a ∧ Stw ⟨Y,[],w0⟩ [(b1,[.int .i64 p0.1,v1,v2])] [row v4 3 (Rp.int .i64) s.1] w) ⟨(Value.slice none 0 0),hF.ra rfl,hW⟩ (fun s o a w H L2 hR => ?_)
  obtain ⟨x2,x3⟩ := s
  obtain ⟨v4,hF,hW⟩ := hR
  have hF : Fr 88 [] [(1,.int .i64 p1),(2,.pointer (some ⟨b1,0,none⟩)),(4,.slice none 0 0),(5,v4),(6,.int .i64 x3)] a := hF
  have hW : Stw ⟨Y,[],w0⟩ [(b1,[.int .i64 p0.1,v1,v2])] [row v4 3 (Rp.int .i64) x2] w := hW
  rw [Em] at H
  refine D7 tk 9 [0] hF hW (ai fun a w hF hW => ?_)
  refine AG hF rfl H (fun hF H => ?_) (fun hF H => ?_)
  ·
   refine Ay ?_
   refine Aa ?_
   obtain ⟨o3,G3,K3⟩ := Ad H
   refine Aj (fun a w => ∃ x4 : List Int, ∃ v5 : Value,some (x4) = some o3 ∧ Fr 88 [] [(1,.int .i64 p1),(2,.pointer (some ⟨b1,0,none⟩)),(4,.slice none 0 0),(5,v5),(6,.int .i64 x3)] a ∧ Stw ⟨Y,[],w0⟩ [(b1,[.int .i64 p0.1,v1,v2])] [row v5 3 (Rp.int .i64) x4] w) ?_ ?_
   ·
    have H := G3
    clear G3 K3
    refine vc tk 8 hF hW fun a w hF hW => ?_
    refine AG hF rfl H (fun hF H => ?_) (fun hF H => ?_)
    ·
     refine vc tk 2 hF hW fun a w hF hW => ?_
     refine CK (z := Value.int .i64 0) (cs := [.int .i64 0]) (Rp.int .i64) ([0] : List Int) hF hW rfl Do Z3 rfl rfl rfl rfl rfl rfl (Fl.int.repL _ _ ([0] : List Int)) (fun v6 a w hF hW => ?_)
     obtain ⟨x5,h1,H⟩ := Ad H
     refine BF (r := (Rp.int .i64)) (i := 1) hF hW rfl Do rfl rfl rfl rfl (BU hW 0 rfl) h1 rfl (fun v7 a w hF hW => ?_)
     have hW : Stw ⟨Y,[],w0⟩ [(b1,[.int .i64 p0.1,v1,v2])] [row v7 3 (Rp.int .i64) x5,row v6 3 (Rp.int .i64) ([0] : List Int)] w := hW
     refine vl tk 2 hF hW fun a w hF hW => ?_
     refine An ?_
     refine Aa ?_
     have hW := hW.sub (M' := [(b1,[.int .i64 p0.1,v1,v2])]) (Z' := [row v7 3 (Rp.int .i64) x5]) (List.Sublist.refl _) (List.Sublist.cons_cons _ (List.nil_sublist _))
     exact ⟨_,(v7),H,hF.ra rfl,hW⟩
    ·
     refine vc tk 2 hF hW fun a w hF hW => ?_
     refine CK (z := Value.int .i64 0) (cs := [.int .i64 (-1)]) (Rp.int .i64) ([(-1)] : List Int) hF hW rfl Do Z3 rfl rfl rfl rfl rfl rfl (Fl.int.repL _ _ ([(-1)] : List Int)) (fun v8 a w hF hW => ?_)
     obtain ⟨x6,h2,H⟩ := Ad H
     refine BF (r := (Rp.int .i64)) (i := 1) hF hW rfl Do rfl rfl rfl rfl (BU hW 0 rfl) h2 rfl (fun v9 a w hF hW => ?_)
     have hW : Stw ⟨Y,[],w0⟩ [(b1,[.int .i64 p0.1,v1,v2])] [row v9 3 (Rp.int .i64) x6,row v8 3 (Rp.int .i64) ([(-1)] : List Int)] w := hW
     refine vl tk 2 hF hW fun a w hF hW => ?_
     refine An ?_
     refine Aa ?_
     have hW := hW.sub (M' := [(b1,[.int .i64 p0.1,v1,v2])]) (Z' := [row v9 3 (Rp.int .i64) x6]) (List.Sublist.refl _) (List.Sublist.cons_cons _ (List.nil_sublist _))
     exact ⟨_,(v9),H,hF.ra rfl,hW⟩
   rintro a w ⟨x4,v5,hj,hF,hW⟩
   have hj := Option.some.inj hj
   subst hj
   have H := K3
   clear G3 K3
   refine vc tk 5 hF hW fun a w hF hW => ?_
   refine Aa ?_
   exact ⟨_,H,(v5),hF.ra rfl,hW⟩
  ·
   refine AE ?_
   iterate 2 refine AQ ?_
   refine AF ?_
   refine Aa ?_
   have H := L2 _ H
   exact ⟨_,(v4),H,hF.ra rfl,hW⟩
 rintro a w ⟨x1,v3,hj,hF,hW⟩
 have hj := Option.some.inj hj
 subst hj
 have H := K1
 clear G1 K1
 obtain ⟨o4,G4,K4⟩ := Ad H
 refine Aj (fun a w => ∃ x7 : List Int,some (x7) = some o4 ∧ Fr 88 [] [(4,.slice none 0 0),(5,v3)] a ∧ Stw ⟨Y,[],w0⟩ [(b1,[.int .i64 p0.1,v1,v2])] [row v3 3 (Rp.int .i64) x7] w) ?_ ?_
 ·
  have H := G4
  clear G4 K4
  refine vc tk 6 hF hW fun a w hF hW => ?_
  refine AD H (fun s a w => Fr 88 [] [(2,.pointer (some ⟨b1,0,none⟩)),(4,.slice none 0 0),(5,v3),(7,.int .i64 s.2)] a ∧ Stw ⟨Y,[],w0⟩ [(b1,[.int .i64 p0.1,v1,v2])] [row v3 3 (Rp.int .i64) s.1] w) ⟨hF.ra rfl,hW⟩ (fun s o a w H L5 hR => ?_)
  obtain ⟨x8,x9⟩ := s
  obtain ⟨hF,hW⟩ := hR
  have hF : Fr 88 [] [(2,.pointer (some ⟨b1,0,none⟩)),(4,.slice none 0 0),(5,v3),(7,.int .i64 x9)] a := hF
  have hW : Stw ⟨Y,[],w0⟩ [(b1,[.int .i64 p0.1,v1,v2])] [row v3 3 (Rp.int .i64) x8] w := hW
  rw [Er] at H
  refine D7 tk 9 [0] hF hW (ai fun a w hF hW => ?_)
  refine AG hF rfl H (fun hF H => ?_) (fun hF H => ?_)
  ·
   refine Ay ?_
   refine Aa ?_
   obtain ⟨o6,G6,K6⟩ := Ad H
   refine Aj (fun a w => ∃ x10 : List Int,some (x10) = some o6 ∧ Fr 88 [] [(2,.pointer (some ⟨b1,0,none⟩)),(4,.slice none 0 0),(5,v3),(7,.int .i64 x9)] a ∧ Stw ⟨Y,[],w0⟩ [(b1,[.int .i64 p0.1,v1,v2])] [row v3 3 (Rp.int .i64) x10] w) ?_ ?_
   ·
    have H := G6
    clear G6 K6
    refine vc tk 7 hF hW fun a w hF hW => ?_
    refine AD H (fun s a w => Fr 88 [] [(2,.pointer (some ⟨b1,0,none⟩)),(4,.slice none 0 0),(5,v3),(7,.int .i64 x9),(8,.int .i64 s.2)] a ∧ Stw ⟨Y,[],w0⟩ [(b1,[.int .i64 p0.1,v1,v2])] [row v3 3 (Rp.int .i64) s.1] w) ⟨hF.ra rfl,hW⟩ (fun s o a w H L7 hR => ?_)
    obtain ⟨x11,x12⟩ := s
    obtain ⟨hF,hW⟩ := hR
    have hF : Fr 88 [] [(2,.pointer (some ⟨b1,0,none⟩)),(4,.slice none 0 0),(5,v3),(7,.int .i64 x9),(8,.int .i64 x12)] a := hF
    have hW : Stw ⟨Y,[],w0⟩ [(b1,[.int .i64 p0.1,v1,v2])] [row v3 3 (Rp.int .i64) x11] w := hW
    rw [Ew] at H
    refine D7 tk 6 [0] hF hW (ai fun a w hF hW => ?_)
    refine ls hF hW rfl ((AK (r := B8) (l := p0.2.1) JB rfl hF rfl (Ab h_v1)).q) (fun a w hF hW => ?_)
    refine Bc tk 3 hF hW fun a w hF hW => ?_
    refine AG hF rfl H (fun hF H => ?_) (fun hF H => ?_)
    ·
     refine Ay ?_
     refine Aa ?_
     obtain ⟨o8,G8,K8⟩ := Ad H
     refine Aj (fun a w => ∃ x13 : List Int,some (x13) = some o8 ∧ Fr 88 [] [(2,.pointer (some ⟨b1,0,none⟩)),(4,.slice none 0 0),(5,v3),(7,.int .i64 x9),(8,.int .i64 x12)] a ∧ Stw ⟨Y,[],w0⟩ [(b1,[.int .i64 p0.1,v1,v2])] [row v3 3 (Rp.int .i64) x13] w) ?_ ?_
     ·
      have H := G8
      clear G8 K8
      refine vc tk 2 hF hW fun a w hF hW => ?_
      refine BV hW MO (by kernel_rfl) ?_
      refine qs hF rfl ((Au SG rfl rfl rfl ZH hF rfl 1 rfl).q) (fun a hF => ?_)
      refine qs hF rfl ((B5 (v := v1) 0 hF rfl rfl ZH rfl).q) (fun a hF => ?_)
      refine qs hF rfl ((Al hF rfl).q) (fun a hF => ?_)
      obtain ⟨x14,h3,H⟩ := Ad H
      refine qs hF rfl ((Ai (r := B8) Wb hF rfl rfl (Ab h_v1) h3).q) (fun a hF => ?_)
      refine qs hF rfl ((Au MH rfl rfl rfl T3 hF rfl (Dt v1 + (x12).toNat * 6) rfl).q) (fun a hF => ?_)
      refine qs hF rfl ((Af (y := Value.int .i64 x14.1) (j := 0) (i := x12) hF rfl rfl (Ab h_v1) h3 Pf.to T3 rfl).q) (fun a hF => ?_)
      refine qs hF rfl ((Au SG rfl rfl rfl ZH hF rfl 1 rfl).q) (fun a hF => ?_)
      refine qs hF rfl ((B5 (v := v1) 0 hF rfl rfl ZH rfl).q) (fun a hF => ?_)
      refine qs hF rfl ((Al hF rfl).q) (fun a hF => ?_)
      obtain ⟨x15,h4,H⟩ := Ad H
      refine qs hF rfl ((Ai (r := B8) Wb hF rfl rfl (Ab h_v1) h4).q) (fun a hF => ?_)
      refine qs hF rfl ((Au MH rfl rfl rfl T3 hF rfl (Dt v1 + (x12).toNat * 6 + 2) rfl).q) (fun a hF => ?_)
      refine qs hF rfl ((Af (y := Value.int .i64 x15.2.2.1) (j := 2) (i := x12) hF rfl rfl (Ab h_v1) h4 Pf.to T3 rfl).q) (fun a hF => ?_)
      iterate 2 refine qs hF rfl ((BB hF rfl).q) (fun a hF => ?_)
      refine AX (fun w hW => ?_)
      refine Aa ?_
      obtain ⟨o9,G9,K9⟩ := Ad H
      refine Aj (fun a w => ∃ x16 : List Int,some (x16) = some o9 ∧ Fr 88 [] [(2,.pointer (some ⟨b1,0,none⟩)),(4,.slice none 0 0),(5,v3),(7,.int .i64 x9),(8,.int .i64 x12),(9,.int .i64 x14.1),(10,.int .i64 x15.2.2.1)] a ∧ Stw ⟨Y,[],w0⟩ [(b1,[.int .i64 p0.1,v1,v2])] [row v3 3 (Rp.int .i64) x16] w) ?_ ?_
      ·
       have H := G9
       clear G9 K9
       obtain ⟨o10,G10,K10⟩ := Ad H
       refine Aj (fun a w => ∃ x17 : Bool,some (x17) = some o10 ∧ Fr 88 [] [(2,.pointer (some ⟨b1,0,none⟩)),(4,.slice none 0 0),(5,v3),(7,.int .i64 x9),(8,.int .i64 x12),(9,.int .i64 x14.1),(10,.int .i64 x15.2.2.1),(63,.bool x17)] a ∧ Stw ⟨Y,[],w0⟩ [(b1,[.int .i64 p0.1,v1,v2])] [row v3 3 (Rp.int .i64) x11] w) ?_ ?_
       ·
        have H := G10
        clear G10 K10
        refine vc tk 3 hF hW fun a w hF hW => ?_
        obtain ⟨x18,h5,H⟩ := Ad H
        refine ls hF hW rfl ((Ai (r := (Rp.int .i64)) Do hF rfl rfl (Ae 0 rfl) h5).q) (fun a w hF hW => ?_)
        refine ls hF hW rfl ((Af (y := Value.int .i64 x18) (j := 0) (i := x14.1) hF rfl rfl (Ae 0 rfl) h5 Fl.int.to T3 rfl).q) (fun a w hF hW => ?_)
        refine vl tk 3 hF hW fun a w hF hW => ?_
        rcases bxq (decide (x18 = x9)) with hb | hb
        ·
         have H := BP (of_decide_eq_true hb) H
         rw [hb] at hF
         clear hb
         refine vl tk 2 hF hW fun a w hF hW => ?_
         obtain ⟨x19,h6,H⟩ := Ad H
         refine BC hF hW (Ac hF rfl rfl rfl rfl) rfl (ze rfl) ((Ai (r := (Rp.int .i64)) Do hF rfl rfl (Ae 0 rfl) h6).q) (fun a w hF hW => ?_)
         refine BC hF hW (Ac hF rfl rfl rfl rfl) rfl (ze rfl) ((Af (y := Value.int .i64 x19) (j := 0) (i := x15.2.2.1) hF rfl rfl (Ae 0 rfl) h6 Fl.int.to T3 rfl).q) (fun a w hF hW => ?_)
         refine vl tk 3 hF hW fun a w hF hW => ?_
         refine Aa ?_
         exact ⟨_,H,hF.ra rfl,hW⟩
        ·
         have H := BQ (of_decide_eq_false hb) H
         rw [hb] at hF
         clear hb
         refine vl tk 7 hF hW fun a w hF hW => ?_
         refine Aa ?_
         exact ⟨_,H,hF.ra rfl,hW⟩
       rintro a w ⟨x17,hj,hF,hW⟩
       have hj := Option.some.inj hj
       subst hj
       have H := K10
       clear G10 K10
       refine BA hF rfl H (fun hF H => ?_) (fun hF H => ?_)
       ·
        refine vc tk 5 hF hW fun a w hF hW => ?_
        obtain ⟨x20,h7,H⟩ := Ad H
        refine ls hF hW rfl ((Ai (r := (Rp.int .i64)) Do hF rfl rfl (Ae 0 rfl) h7).q) (fun a w hF hW => ?_)
        refine BE (i := x15.2.2.1) (j := 0) (vs := [.int .i64 (w64 (x9 + 1))]) (x' := w64 (x9 + 1)) hF hW rfl rfl rfl (k := 0) rfl rfl h7 T3 rfl rfl rfl rfl (fun A cs _ => Fl.int.sto (by rfl) _ _ _) (fun w hW => ?_)
        refine D1 (Aa ?_)
        exact ⟨_,H,hF.ra rfl,hW⟩
       ·
        refine Ay ?_
        refine Aa ?_
        exact ⟨_,H,hF.ra rfl,hW⟩
      rintro a w ⟨x16,hj,hF,hW⟩
      have hj := Option.some.inj hj
      subst hj
      have H := K9
      clear G9 K9
      obtain ⟨o11,G11,K11⟩ := Ad H
      refine Aj (fun a w => ∃ x21 : Bool,some (x21) = some o11 ∧ Fr 88 [] [(2,.pointer (some ⟨b1,0,none⟩)),(4,.slice none 0 0),(5,v3),(7,.int .i64 x9),(8,.int .i64 x12),(9,.int .i64 x14.1),(81,.bool x21)] a ∧ Stw ⟨Y,[],w0⟩ [(b1,[.int .i64 p0.1,v1,v2])] [row v3 3 (Rp.int .i64) x16] w) ?_ ?_
      ·
       have H := G11
       clear G11 K11
       refine vc tk 3 hF hW fun a w hF hW => ?_
       obtain ⟨x22,h8,H⟩ := Ad H
       refine ls hF hW rfl ((Ai (r := (Rp.int .i64)) Do hF rfl rfl (Ae 0 rfl) h8).q) (fun a w hF hW => ?_)
       refine ls hF hW rfl ((Af (y := Value.int .i64 x22) (j := 0) (i := x15.2.2.1) hF rfl rfl (Ae 0 rfl) h8 Fl.int.to T3 rfl).q) (fun a w hF hW => ?_)
       refine vl tk 3 hF hW fun a w hF hW => ?_
       rcases bxq (decide (x22 = x9)) with hb | hb
       ·
        have H := BP (of_decide_eq_true hb) H
        rw [hb] at hF
        clear hb
        refine vl tk 2 hF hW fun a w hF hW => ?_
        obtain ⟨x23,h9,H⟩ := Ad H
        refine BC hF hW (Ac hF rfl rfl rfl rfl) rfl (ze rfl) ((Ai (r := (Rp.int .i64)) Do hF rfl rfl (Ae 0 rfl) h9).q) (fun a w hF hW => ?_)
        refine BC hF hW (Ac hF rfl rfl rfl rfl) rfl (ze rfl) ((Af (y := Value.int .i64 x23) (j := 0) (i := x14.1) hF rfl rfl (Ae 0 rfl) h9 Fl.int.to T3 rfl).q) (fun a w hF hW => ?_)
        refine vl tk 3 hF hW fun a w hF hW => ?_
        refine Aa ?_
        exact ⟨_,H,hF.ra rfl,hW⟩
       ·
        have H := BQ (of_decide_eq_false hb) H
        rw [hb] at hF
        clear hb
        refine vl tk 7 hF hW fun a w hF hW => ?_
        refine Aa ?_
        exact ⟨_,H,hF.ra rfl,hW⟩
      rintro a w ⟨x21,hj,hF,hW⟩
      have hj := Option.some.inj hj
      subst hj
      have H := K11
      clear G11 K11
      refine BA hF rfl H (fun hF H => ?_) (fun hF H => ?_)
      ·
       refine vc tk 5 hF hW fun a w hF hW => ?_
       obtain ⟨x24,h10,H⟩ := Ad H
       refine ls hF hW rfl ((Ai (r := (Rp.int .i64)) Do hF rfl rfl (Ae 0 rfl) h10).q) (fun a w hF hW => ?_)
       refine BE (i := x14.1) (j := 0) (vs := [.int .i64 (w64 (x9 + 1))]) (x' := w64 (x9 + 1)) hF hW rfl rfl rfl (k := 0) rfl rfl h10 T3 rfl rfl rfl rfl (fun A cs _ => Fl.int.sto (by rfl) _ _ _) (fun w hW => ?_)
       refine D1 ?_
       refine An ?_
       refine Aa ?_
       exact ⟨_,H,hF.ra rfl,hW⟩
      ·
       refine Ay ?_
       refine An ?_
       refine Aa ?_
       exact ⟨_,H,hF.ra rfl,hW⟩
     rintro a w ⟨x13,hj,hF,hW⟩
     have hj := Option.some.inj hj
     subst hj
     have H := K8
     clear G8 K8
     refine vc tk 5 hF hW fun a w hF hW => ?_
     refine Aa ?_
     exact ⟨_,H,hF.ra rfl,hW⟩
    ·
     refine AE ?_
     iterate 2 refine AQ ?_
     refine AF ?_
     refine An ?_
     refine Aa ?_
     have H := L7 _ H
     exact ⟨_,H,hF.ra rfl,hW⟩
   rintro a w ⟨x10,hj,hF,hW⟩
   have hj := Option.some.inj hj
   subst hj
   have H := K6
   clear G6 K6
   refine vc tk 5 hF hW fun a w hF hW => ?_
   refine Aa ?_
   exact ⟨_,H,hF.ra rfl,hW⟩
  ·
   refine AE ?_
   iterate 2 refine AQ ?_
   refine AF ?_
   refine Aa ?_
   have H := L5 _ H
   exact ⟨_,H,hF.ra rfl,hW⟩
 rintro a w ⟨x7,hj,hF,hW⟩
 have hj := Option.some.inj hj
 subst hj
 have H := K4
 clear G4 K4
 refine vc tk 6 hF hW fun a w hF hW => ?_
 refine Ah ?_
 have H := Option.some.inj H
 subst H
 refine Aw (.inl rfl) hF hW rfl (Ag hF rfl) ?_
 have hW := hW.sub (M' := []) (Z' := [row v3 3 (Rp.int .i64) x7]) (List.nil_sublist _) (List.Sublist.refl _)
 exact ⟨(v3),rfl,hW⟩
theorem gL : Has Tryz.prog 61 := Bj Tryz.func61
def ED (x1 : List Int) : Int → Option (Int ⊕ (Unit ⊕ Bool))
  | x2 => (if x2 < (x1.length : Int) then (ix x1 x2).bind fun x3 => (if x3 < 0 then some (.inr (.inr false)) else some (.inl (w64 (x2 + 1)))) else some (.inr (.inl ())))
def F8 (p0 : Int × (List (Int × Int × Int × Int × Int × Int)) × (List (Int × Int))) : Option Bool := (Ho p0 0).bind fun x1 => GU (Am (ED x1) 0) fun _ => some true
theorem N6 (Y : Nat → Prop) (w0 : World) (v1 : Value) (v2 : Value) (p0 : Int × (List (Int × Int × Int × Int × Int × Int)) × (List (Int × Int))) (r : Bool) (H : F8 p0 = some r) (h_v1 : Sl w0 (NX []) B8 v1 p0.2.1) (h_v2 : Sl w0 (NX []) Cc v2 p0.2.2) :
    Calls Tryz.prog 28 #[.agg #[.int .i64 p0.1,v1,v2]] w0 fun e w' => e = .returned (.bool r) ∧ Below w0.heap.size w0 w' := by
 refine enter Tryz.func28 rfl Tryz.ntmps28 rfl (fun a hF => ?_)
 have hW := Stw.start Y w0
 unfold F8 at H
 refine vc tk 2 hF hW fun a w hF hW => ?_
 refine Cv (cs := [.int .i64 p0.1,v1,v2]) hF hW rfl rfl rfl (fun b1 a w hF hW => ?_)
 refine E9 tk 6 [0] hF hW (ai fun a w hF hW => ?_)
 obtain ⟨x1,h1,H⟩ := Ad H
 refine A9 (Ml := []) (Zl := []) (β := Value) (rv := fun x => x) (MM := fun x => []) (ZZ := fun x => [row x 3 (Rp.int .i64) x1]) hF hW gL rfl rfl (fun hL => PS _ w (v1) (v2) p0 0 _ h1 ((Ab h_v1) w hW).nx ((Ab h_v2) w hW).nx) (fun x a w hF hW => ?_)
 obtain ⟨v3,rfl⟩ : ∃ y,y = x := ⟨x,rfl⟩
 have hW : Stw ⟨Y,[],w0⟩ [(b1,[.int .i64 p0.1,v1,v2])] [row v3 3 (Rp.int .i64) x1] w := hW
 refine vl tk 2 hF hW fun a w hF hW => ?_
 refine Aa ?_
 obtain ⟨o1,G1,K1,L1⟩ := KC H
 refine Aj (fun a w => some (Sum.inl ()) = some o1 ∧ Fr 18 [] [(2,.bool false)] a ∧ Stw ⟨Y,[],w0⟩ [(b1,[.int .i64 p0.1,v1,v2])] [] w) ?_ ?_
 ·
  have H := G1
  clear G1 K1
  refine vc tk 6 hF hW fun a w hF hW => ?_
  refine AD H (fun s a w => Fr 18 [] [(2,.bool false),(3,v3),(4,.int .i64 s)] a ∧ Stw ⟨Y,[],w0⟩ [(b1,[.int .i64 p0.1,v1,v2])] [row v3 3 (Rp.int .i64) x1] w) ⟨hF.ra rfl,hW⟩ (fun s o a w H L2 hR => ?_)
  obtain ⟨x2,rfl⟩ : ∃ x,x = s := ⟨s,rfl⟩
  obtain ⟨hF,hW⟩ := hR
  have hF : Fr 18 [] [(2,.bool false),(3,v3),(4,.int .i64 x2)] a := hF
  have hW : Stw ⟨Y,[],w0⟩ [(b1,[.int .i64 p0.1,v1,v2])] [row v3 3 (Rp.int .i64) x1] w := hW
  rw [ED] at H
  refine vc tk 5 hF hW fun a w hF hW => ?_
  refine ls hF hW rfl ((AK (r := (Rp.int .i64)) (l := x1) GG rfl hF rfl (Ae 0 rfl)).q) (fun a w hF hW => ?_)
  refine Bc tk 3 hF hW fun a w hF hW => ?_
  refine AG hF rfl H (fun hF H => ?_) (fun hF H => ?_)
  ·
   refine D2 tk 8 hF hW fun a w hF hW => ?_
   obtain ⟨x3,h2,H⟩ := Ad H
   refine ls hF hW rfl ((Ai (r := (Rp.int .i64)) Do hF rfl rfl (Ae 0 rfl) h2).q) (fun a w hF hW => ?_)
   refine ls hF hW rfl ((Af (y := Value.int .i64 x3) (j := 0) (i := x2) hF rfl rfl (Ae 0 rfl) h2 Fl.int.to T3 rfl).q) (fun a w hF hW => ?_)
   refine Bc tk 3 hF hW fun a w hF hW => ?_
   refine AG hF rfl H (fun hF H => ?_) (fun hF H => ?_)
   ·
    refine vc tk 5 hF hW fun a w hF hW => ?_
    refine Ah ?_
    refine Az ?_
    iterate 2 refine Ak ?_
    refine Az ?_
    refine Ak ?_
    have H := L2 _ H
    have H := L1 _ H
    have H := Option.some.inj H
    subst H
    refine Aw (.inl rfl) hF hW rfl (Ag hF rfl) ?_
    exact ⟨rfl,hW.done⟩
   ·
    refine Ay ?_
    refine An ?_
    refine vn tk 5 hF hW fun a w hF hW => ?_
    refine Aa ?_
    exact ⟨_,H,hF.ra rfl,hW⟩
  ·
   refine AE ?_
   iterate 2 refine AQ ?_
   refine AF ?_
   refine Aa ?_
   have hW := hW.sub (M' := [(b1,[.int .i64 p0.1,v1,v2])]) (Z' := []) (List.Sublist.refl _) (List.nil_sublist _)
   have H := L2 _ H
   exact ⟨H,hF.ra rfl,hW⟩
 rintro a w ⟨hj,hF,hW⟩
 have H := K1 _ hj
 clear hj G1 K1 L1
 refine vc tk 5 hF hW fun a w hF hW => ?_
 refine Ah ?_
 have H := Option.some.inj H
 subst H
 refine Aw (.inl rfl) hF hW rfl (Ag hF rfl) ?_
 exact ⟨rfl,hW.done⟩
theorem hO : Has Tryz.prog 28 := Bj Tryz.func28
def DC (p0 : Int) : Bool := (decide (p0 ≤ 9218868437227405312) || decide (p0 = 9223372036854775808))
theorem P6 (Y : Nat → Prop) (w0 : World)  (p0 : Int) (r : Bool) (H : DC p0 = r)  :
    Calls Tryz.prog 143 #[.int .u64 p0] w0 fun e w' => e = .returned (.bool r) ∧ Below w0.heap.size w0 w' := by
 refine enter Tryz.func143 rfl Tryz.ntmps143 rfl (fun a hF => ?_)
 have hW := Stw.start Y w0
 unfold DC at H
 refine vc tk 5 hF hW fun a w hF hW => ?_
 refine Aj (fun a w => Fr 9 [] [(2,.bool (decide (p0 ≤ 9218868437227405312) || decide (p0 = 9223372036854775808)))] a ∧ Stw ⟨Y,[],w0⟩ [] [] w) ?_ ?_
 ·
  refine vc tk 4 hF hW fun a w hF hW => ?_
  rcases bxq (decide (p0 ≤ 9218868437227405312)) with hb0 | hb0
  ·
   rw [hb0] at hF
   refine vl tk 5 hF hW fun a w hF hW => ?_
   refine Aa ?_
   exact ⟨hF.re ⟨(Di (by try rw [hb0]; all_goals simp only [Dl])),trivial⟩,hW⟩
  ·
   rw [hb0] at hF
   refine vl tk 5 hF hW fun a w hF hW => ?_
   refine Aa ?_
   exact ⟨hF.re ⟨(Di (by try rw [hb0]; all_goals simp only [Dl])),trivial⟩,hW⟩
 rintro a w ⟨hF,hW⟩
 refine Ah ?_
 subst H
 refine Aw (.inl rfl) hF hW rfl (Ag hF rfl) ?_
 exact ⟨rfl,hW.done⟩
theorem cU : Has Tryz.prog 143 := Bj Tryz.func143
def EL (p0 : List Int) : Int → Option (Int ⊕ (Unit ⊕ Bool))
  | x1 => (if x1 < (p0.length : Int) then (ix p0 x1).bind fun x2 => (if (!(DC x2)) = true then some (.inr (.inr false)) else some (.inl (w64 (x1 + 1)))) else some (.inr (.inl ())))
def Gj (p0 : List Int) (p1 : Int) : Option Bool := GU (Am (EL p0) 0) fun _ => some (decide ((p0.length : Int) = p1))
theorem Ou (Y : Nat → Prop) (w0 : World) (v1 : Value) (p0 : List Int) (p1 : Int) (r : Bool) (H : Gj p0 p1 = some r) (h_v1 : Sl w0 (NX []) (Rp.int .u64) v1 p0) :
    Calls Tryz.prog 103 #[v1,.int .i64 p1] w0 fun e w' => e = .returned (.bool r) ∧ Below w0.heap.size w0 w' := by
 refine enter Tryz.func103 rfl Tryz.ntmps103 rfl (fun a hF => ?_)
 have hW := Stw.start Y w0
 unfold Gj at H
 refine vc tk 5 hF hW fun a w hF hW => ?_
 obtain ⟨o1,G1,K1,L1⟩ := KC H
 refine Aj (fun a w => some (Sum.inl ()) = some o1 ∧ Fr 22 [] [(0,v1),(1,.int .i64 p1),(4,.bool false)] a ∧ Stw ⟨Y,[],w0⟩ [] [] w) ?_ ?_
 ·
  have H := G1
  clear G1 K1
  refine vc tk 6 hF hW fun a w hF hW => ?_
  refine AD H (fun s a w => Fr 22 [] [(0,v1),(1,.int .i64 p1),(4,.bool false),(5,.int .i64 s)] a ∧ Stw ⟨Y,[],w0⟩ [] [] w) ⟨hF.ra rfl,hW⟩ (fun s o a w H L2 hR => ?_)
  obtain ⟨x1,rfl⟩ : ∃ x,x = s := ⟨s,rfl⟩
  obtain ⟨hF,hW⟩ := hR
  have hF : Fr 22 [] [(0,v1),(1,.int .i64 p1),(4,.bool false),(5,.int .i64 x1)] a := hF
  have hW : Stw ⟨Y,[],w0⟩ [] [] w := hW
  rw [EL] at H
  refine vc tk 5 hF hW fun a w hF hW => ?_
  refine ls hF hW rfl ((AK (r := (Rp.int .u64)) (l := p0) Mq rfl hF rfl (Ab h_v1)).q) (fun a w hF hW => ?_)
  refine Bc tk 3 hF hW fun a w hF hW => ?_
  refine AG hF rfl H (fun hF H => ?_) (fun hF H => ?_)
  ·
   refine D2 tk 8 hF hW fun a w hF hW => ?_
   obtain ⟨x2,h1,H⟩ := Ad H
   refine ls hF hW rfl ((Ai (r := (Rp.int .u64)) PO hF rfl rfl (Ab h_v1) h1).q) (fun a w hF hW => ?_)
   refine ls hF hW rfl ((Af (y := Value.int .u64 x2) (j := 0) (i := x1) hF rfl rfl (Ab h_v1) h1 Fl.int.to KG rfl).q) (fun a w hF hW => ?_)
   refine ls hF hW rfl (Av (v := Value.bool (DC x2)) hF cU rfl (fun w hW => P6 any w x2 _ rfl)) (fun a w hF hW => ?_)
   refine Bc tk 3 hF hW fun a w hF hW => ?_
   refine BA hF rfl H (fun hF H => ?_) (fun hF H => ?_)
   ·
    refine vc tk 5 hF hW fun a w hF hW => ?_
    refine Ah ?_
    refine Az ?_
    iterate 2 refine Ak ?_
    refine Az ?_
    refine Ak ?_
    have H := L2 _ H
    have H := L1 _ H
    have H := Option.some.inj H
    subst H
    refine Aw (.inl rfl) hF hW rfl (Ag hF rfl) ?_
    exact ⟨rfl,hW.done⟩
   ·
    refine Ay ?_
    refine An ?_
    refine vn tk 5 hF hW fun a w hF hW => ?_
    refine Aa ?_
    exact ⟨_,H,hF.ra rfl,hW⟩
  ·
   refine AE ?_
   iterate 2 refine AQ ?_
   refine AF ?_
   refine Aa ?_
   have H := L2 _ H
   exact ⟨H,hF.ra rfl,hW⟩
 rintro a w ⟨hj,hF,hW⟩
 have H := K1 _ hj
 clear hj G1 K1 L1
 refine vc tk 3 hF hW fun a w hF hW => ?_
 refine ls hF hW rfl ((AK (r := (Rp.int .u64)) (l := p0) Mq rfl hF rfl (Ab h_v1)).q) (fun a w hF hW => ?_)
 refine Bc tk 5 hF hW fun a w hF hW => ?_
 refine Ah ?_
 have H := Option.some.inj H
 subst H
 refine Aw (.inl rfl) hF hW rfl (Ag hF rfl) ?_
 exact ⟨rfl,hW.done⟩
theorem cZ : Has Tryz.prog 103 := Bj Tryz.func103
def DO (p0 : Int × (List (Int × Int × Int × Int × Int × Int)) × (List (Int × Int))) (p1 : List Int) : Option Bool := ((Fi p0).bind fun x2 => (if x2 = true then (Gj p1 (p0.2.1.length : Int)).bind fun x3 => some x3 else some false)).bind fun x1 => some x1
theorem Hg (Y : Nat → Prop) (w0 : World) (v1 : Value) (v2 : Value) (v3 : Value) (p0 : Int × (List (Int × Int × Int × Int × Int × Int)) × (List (Int × Int))) (p1 : List Int) (r : Bool) (H : DO p0 p1 = some r) (h_v1 : Sl w0 (NX []) B8 v1 p0.2.1) (h_v2 : Sl w0 (NX []) Cc v2 p0.2.2) (h_v3 : Sl w0 (NX []) (Rp.int .u64) v3 p1) :
    Calls Tryz.prog 62 #[.agg #[.int .i64 p0.1,v1,v2],v3] w0 fun e w' => e = .returned (.bool r) ∧ Below w0.heap.size w0 w' := by
 refine enter Tryz.func62 rfl Tryz.ntmps62 rfl (fun a hF => ?_)
 have hW := Stw.start Y w0
 unfold DO at H
 refine vc tk 2 hF hW fun a w hF hW => ?_
 refine Cv (cs := [.int .i64 p0.1,v1,v2]) hF hW rfl rfl rfl (fun b1 a w hF hW => ?_)
 refine vl tk 2 hF hW fun a w hF hW => ?_
 refine Aa ?_
 obtain ⟨o1,G1,K1⟩ := Ad H
 refine Aj (fun a w => ∃ x1 : Bool,some (x1) = some o1 ∧ Fr 14 [] [(4,.bool x1)] a ∧ Stw ⟨Y,[],w0⟩ [(b1,[.int .i64 p0.1,v1,v2])] [] w) ?_ ?_
 ·
  have H := G1
  clear G1 K1
  refine D7 tk 2 [0] hF hW (ai fun a w hF hW => ?_)
  obtain ⟨x2,h1,H⟩ := Ad H
  refine ls hF hW rfl (Av (v := Value.bool x2) hF eC rfl (fun w hW => JR any w (v1) (v2) p0 _ h1 (D3 (Ab h_v1) hW) (D3 (Ab h_v2) hW))) (fun a w hF hW => ?_)
  refine ls hF hW rfl ((Al hF rfl).q) (fun a w hF hW => ?_)
  rcases bxq x2 with hb | hb
  ·
   have H := BP hb H
   rw [hb] at hF
   clear hb
   refine Eb tk 3 [0] hF hW (ai fun a w hF hW => ?_)
   refine BC hF hW (Ac hF rfl rfl rfl rfl) rfl (ze rfl) ((AK (r := B8) (l := p0.2.1) JB rfl hF rfl (Ab h_v1)).q) (fun a w hF hW => ?_)
   refine Fq (Ac hF rfl rfl rfl rfl) ?_
   obtain ⟨x3,h2,H⟩ := Ad H
   refine ls hF hW rfl (Av (v := Value.bool x3) hF cZ rfl (fun w hW => Ou any w (v3) p1 (p0.2.1.length : Int) _ h2 (D3 (Ab h_v3) hW))) (fun a w hF hW => ?_)
   refine vl tk 3 hF hW fun a w hF hW => ?_
   refine Aa ?_
   exact ⟨_,H,hF.ra rfl,hW⟩
  ·
   have H := BQ (by rw [hb]; decide) H
   rw [hb] at hF
   clear hb
   refine vl tk 8 hF hW fun a w hF hW => ?_
   refine Aa ?_
   exact ⟨_,H,hF.ra rfl,hW⟩
 rintro a w ⟨x1,hj,hF,hW⟩
 have hj := Option.some.inj hj
 subst hj
 have H := K1
 clear G1 K1
 refine Ah ?_
 have H := Option.some.inj H
 subst H
 refine Aw (.inl rfl) hF hW rfl (Ag hF rfl) ?_
 exact ⟨rfl,hW.done⟩
theorem Z4 : Has Tryz.prog 62 := Bj Tryz.func62
theorem Zd : (Tryz.prog.info? 131).bind (·.zero) = some (.int .u64 0) := by kernel_rfl
def FM (p0 : Int × (List (Int × Int × Int × Int × Int × Int)) × (List (Int × Int))) (p1 : Int) (p2 : Int) : Int → Option (Int ⊕ (Unit ⊕ (Int × Int × Int × Bool)))
  | x1 => (if x1 < (p0.2.1.length : Int) then (ix p0.2.1 x1).bind fun x2 => (if (decide (x2.1 = p1) && decide (x2.2.1 = p2)) = true then some (.inr (.inr (x2.2.2.1,x2.2.2.2.1,x1,true))) else (if (decide (x2.2.2.1 = p1) && decide (x2.2.2.2.1 = p2)) = true then some (.inr (.inr (x2.1,x2.2.1,x1,true))) else some (.inl (w64 (x1 + 1))))) else some (.inr (.inl ())))
def Hc (p0 : Int × (List (Int × Int × Int × Int × Int × Int)) × (List (Int × Int))) (p1 : Int) (p2 : Int) : Option (Int × Int × Int × Bool) := GU (Am (FM p0 p1 p2) 0) fun _ => some (0,0,0,false)
theorem Qp (Y : Nat → Prop) (w0 : World) (v1 : Value) (v2 : Value) (p0 : Int × (List (Int × Int × Int × Int × Int × Int)) × (List (Int × Int))) (p1 : Int) (p2 : Int) (r : Int × Int × Int × Bool) (H : Hc p0 p1 p2 = some r) (h_v1 : Sl w0 (NX []) B8 v1 p0.2.1) (h_v2 : Sl w0 (NX []) Cc v2 p0.2.2) :
    Calls Tryz.prog 145 #[.agg #[.int .i64 p0.1,v1,v2],.int .i64 p1,.int .i64 p2] w0 fun e w' => e = .returned (.tuple #[.int .i64 r.1,.int .i64 r.2.1,.int .i64 r.2.2.1,.bool r.2.2.2]) ∧ Below w0.heap.size w0 w' := by
 refine enter Tryz.func145 rfl Tryz.ntmps145 rfl (fun a hF => ?_)
 have hW := Stw.start Y w0
 unfold Hc at H
 refine vc tk 2 hF hW fun a w hF hW => ?_
 refine Cv (cs := [.int .i64 p0.1,v1,v2]) hF hW rfl rfl rfl (fun b1 a w hF hW => ?_)
 refine vl tk 5 hF hW fun a w hF hW => ?_
 refine Aa ?_
 obtain ⟨o1,G1,K1,L1⟩ := KC H
 refine Aj (fun a w => some (Sum.inl ()) = some o1 ∧ Fr 54 [] [(6,.int .i64 0),(7,.int .i64 0),(8,.int .i64 0),(9,.bool false)] a ∧ Stw ⟨Y,[],w0⟩ [(b1,[.int .i64 p0.1,v1,v2])] [] w) ?_ ?_
 ·
  have H := G1
  clear G1 K1
  refine vc tk 6 hF hW fun a w hF hW => ?_
  refine AD H (fun s a w => Fr 54 [] [(1,.int .i64 p1),(2,.int .i64 p2),(3,.pointer (some ⟨b1,0,none⟩)),(6,.int .i64 0),(7,.int .i64 0),(8,.int .i64 0),(9,.bool false),(10,.int .i64 s)] a ∧ Stw ⟨Y,[],w0⟩ [(b1,[.int .i64 p0.1,v1,v2])] [] w) ⟨hF.ra rfl,hW⟩ (fun s o a w H L2 hR => ?_)
  obtain ⟨x1,rfl⟩ : ∃ x,x = s := ⟨s,rfl⟩
  obtain ⟨hF,hW⟩ := hR
  have hF : Fr 54 [] [(1,.int .i64 p1),(2,.int .i64 p2),(3,.pointer (some ⟨b1,0,none⟩)),(6,.int .i64 0),(7,.int .i64 0),(8,.int .i64 0),(9,.bool false),(10,.int .i64 x1)] a := hF
  have hW : Stw ⟨Y,[],w0⟩ [(b1,[.int .i64 p0.1,v1,v2])] [] w := hW
  rw [FM] at H
  refine D7 tk 6 [0] hF hW (ai fun a w hF hW => ?_)
  refine ls hF hW rfl ((AK (r := B8) (l := p0.2.1) JB rfl hF rfl (Ab h_v1)).q) (fun a w hF hW => ?_)
  refine Bc tk 3 hF hW fun a w hF hW => ?_
  refine AG hF rfl H (fun hF H => ?_) (fun hF H => ?_)
  ·
   refine LT tk 9 [0] hF hW (ai fun a w hF hW => ?_)
   obtain ⟨x2,h1,H⟩ := Ad H
   refine ls hF hW rfl ((Ai (r := B8) Wb hF rfl rfl (Ab h_v1) h1).q) (fun a w hF hW => ?_)
   refine ls hF hW rfl ((Af (y := Value.agg #[.int .i64 x2.1,.int .i64 x2.2.1,.int .i64 x2.2.2.1,.int .i64 x2.2.2.2.1,.int .i64 x2.2.2.2.2.1,.int .i64 x2.2.2.2.2.2]) (j := 0) (i := x1) hF rfl rfl (Ab h_v1) h1 Pf.to Lv rfl).q) (fun a w hF hW => ?_)
   refine Ck (cs := [.int .i64 0,.int .i64 0,.int .i64 0,.int .i64 0,.int .i64 0,.int .i64 0]) hF hW rfl Tn rfl (fun b2 a w hF hW => ?_)
   refine Iw 0 hF hW rfl rfl rfl Lv rfl rfl rfl (fun w hW => ?_)
   refine Bc tk 3 hF hW fun a w hF hW => ?_
   refine Aj (fun a w => Fr 54 [] [(1,.int .i64 p1),(2,.int .i64 p2),(3,.pointer (some ⟨b1,0,none⟩)),(6,.int .i64 0),(7,.int .i64 0),(8,.int .i64 0),(9,.bool false),(10,.int .i64 x1),(11,.pointer (some ⟨b2,0,none⟩)),(33,.bool (decide (x2.1 = p1) && decide (x2.2.1 = p2)))] a ∧ Stw ⟨Y,[],w0⟩ [(b2,[.int .i64 x2.1,.int .i64 x2.2.1,.int .i64 x2.2.2.1,.int .i64 x2.2.2.2.1,.int .i64 x2.2.2.2.2.1,.int .i64 x2.2.2.2.2.2]),(b1,[.int .i64 p0.1,v1,v2])] [] w) ?_ ?_
   ·
    refine D7 tk 6 [0] hF hW (ai fun a w hF hW => ?_)
    rcases bxq (decide (x2.1 = p1)) with hb0 | hb0
    ·
     rw [hb0] at hF
     refine Eb tk 6 [0] hF hW (ai fun a w hF hW => ?_)
     refine Aa ?_
     exact ⟨hF.re ⟨rfl,rfl,rfl,rfl,rfl,rfl,rfl,rfl,rfl,(Di (by try rw [hb0]; all_goals simp only [Dl])),trivial⟩,hW⟩
    ·
     rw [hb0] at hF
     refine vl tk 6 hF hW fun a w hF hW => ?_
     refine Aa ?_
     exact ⟨hF.re ⟨rfl,rfl,rfl,rfl,rfl,rfl,rfl,rfl,rfl,(Di (by try rw [hb0]; all_goals simp only [Dl])),trivial⟩,hW⟩
   rintro a w ⟨hF,hW⟩
   refine BA hF rfl H (fun hF H => ?_) (fun hF H => ?_)
   ·
    refine Ly ?_
    refine BV hW MO (by kernel_rfl) ?_
    refine qs hF rfl ((Au MH rfl rfl rfl T3 hF rfl 2 rfl).q) (fun a hF => ?_)
    refine qs hF rfl ((B5 (v := Value.int .i64 x2.2.2.1) 0 hF rfl rfl T3 rfl).q) (fun a hF => ?_)
    refine qs hF rfl ((Au MH rfl rfl rfl T3 hF rfl 3 rfl).q) (fun a hF => ?_)
    refine qs hF rfl ((B5 (v := Value.int .i64 x2.2.2.2.1) 0 hF rfl rfl T3 rfl).q) (fun a hF => ?_)
    refine qs hF rfl ((Al hF rfl).q) (fun a hF => ?_)
    iterate 4 refine qs hF rfl ((BB hF rfl).q) (fun a hF => ?_)
    refine AX (fun w hW => ?_)
    refine Aa ?_
    refine Ah ?_
    refine Ak ?_
    refine Az ?_
    iterate 2 refine Ak ?_
    refine Az ?_
    refine Ak ?_
    have H := L2 _ H
    have H := L1 _ H
    have H := Option.some.inj H
    subst H
    refine TA (.inl rfl) hF hW rfl (Ag hF rfl) (Ag hF rfl) (Ag hF rfl) (Ag hF rfl) ?_
    exact ⟨rfl,hW.done⟩
   ·
    refine D2 tk 2 hF hW fun a w hF hW => ?_
    refine Aj (fun a w => Fr 54 [] [(1,.int .i64 p1),(2,.int .i64 p2),(3,.pointer (some ⟨b1,0,none⟩)),(6,.int .i64 0),(7,.int .i64 0),(8,.int .i64 0),(9,.bool false),(10,.int .i64 x1),(11,.pointer (some ⟨b2,0,none⟩)),(48,.bool (decide (x2.2.2.1 = p1) && decide (x2.2.2.2.1 = p2)))] a ∧ Stw ⟨Y,[],w0⟩ [(b2,[.int .i64 x2.1,.int .i64 x2.2.1,.int .i64 x2.2.2.1,.int .i64 x2.2.2.2.1,.int .i64 x2.2.2.2.2.1,.int .i64 x2.2.2.2.2.2]),(b1,[.int .i64 p0.1,v1,v2])] [] w) ?_ ?_
    ·
     refine D7 tk 6 [0] hF hW (ai fun a w hF hW => ?_)
     rcases bxq (decide (x2.2.2.1 = p1)) with hb0 | hb0
     ·
      rw [hb0] at hF
      refine Eb tk 6 [0] hF hW (ai fun a w hF hW => ?_)
      refine Aa ?_
      exact ⟨hF.re ⟨rfl,rfl,rfl,rfl,rfl,rfl,rfl,rfl,rfl,(Di (by try rw [hb0]; all_goals simp only [Dl])),trivial⟩,hW⟩
     ·
      rw [hb0] at hF
      refine vl tk 6 hF hW fun a w hF hW => ?_
      refine Aa ?_
      exact ⟨hF.re ⟨rfl,rfl,rfl,rfl,rfl,rfl,rfl,rfl,rfl,(Di (by try rw [hb0]; all_goals simp only [Dl])),trivial⟩,hW⟩
    rintro a w ⟨hF,hW⟩
    refine BA hF rfl H (fun hF H => ?_) (fun hF H => ?_)
    ·
     refine Ly ?_
     refine BV hW MO (by kernel_rfl) ?_
     refine qs hF rfl ((Au MH rfl rfl rfl T3 hF rfl 0 rfl).q) (fun a hF => ?_)
     refine qs hF rfl ((B5 (v := Value.int .i64 x2.1) 0 hF rfl rfl T3 rfl).q) (fun a hF => ?_)
     refine qs hF rfl ((Au MH rfl rfl rfl T3 hF rfl 1 rfl).q) (fun a hF => ?_)
     refine qs hF rfl ((B5 (v := Value.int .i64 x2.2.1) 0 hF rfl rfl T3 rfl).q) (fun a hF => ?_)
     refine qs hF rfl ((Al hF rfl).q) (fun a hF => ?_)
     iterate 4 refine qs hF rfl ((BB hF rfl).q) (fun a hF => ?_)
     refine AX (fun w hW => ?_)
     refine Aa ?_
     refine Ah ?_
     refine Az ?_
     iterate 2 refine Ak ?_
     refine Az ?_
     refine Ak ?_
     have H := L2 _ H
     have H := L1 _ H
     have H := Option.some.inj H
     subst H
     refine TA (.inl rfl) hF hW rfl (Ag hF rfl) (Ag hF rfl) (Ag hF rfl) (Ag hF rfl) ?_
     exact ⟨rfl,hW.done⟩
    ·
     refine Ay ?_
     refine An ?_
     refine vn tk 5 hF hW fun a w hF hW => ?_
     refine Aa ?_
     have hW := hW.frontM (i := 1) rfl rfl
     have hW := hW.sub (M' := [(b1,[.int .i64 p0.1,v1,v2])]) (Z' := []) (List.Sublist.cons_cons _ (List.nil_sublist _)) (List.Sublist.refl _)
     exact ⟨_,H,hF.ra rfl,hW⟩
  ·
   refine AE ?_
   iterate 2 refine AQ ?_
   refine AF ?_
   refine Aa ?_
   have H := L2 _ H
   exact ⟨H,hF.ra rfl,hW⟩
 rintro a w ⟨hj,hF,hW⟩
 have H := K1 _ hj
 clear hj G1 K1 L1
 refine vc tk 8 hF hW fun a w hF hW => ?_
 refine Ah ?_
 have H := Option.some.inj H
 subst H
 refine TA (.inl rfl) hF hW rfl (Ag hF rfl) (Ag hF rfl) (Ag hF rfl) (Ag hF rfl) ?_
 exact ⟨rfl,hW.done⟩
theorem QP : type_of% Tryz.underlying197 := Tryz.underlying197
theorem Je : type_of% Tryz.underlying200 := Tryz.underlying200
theorem cV : Has Tryz.prog 145 := Bj Tryz.func145
theorem cH : Bt Tryz.prog 200 [.int .i64 0,.int .i64 0,.int .i64 0] [(0,1),(1,1),(2,1)] := ⟨⟨.agg #[.int .i64 0,.int .i64 0,.int .i64 0],by kernel_rfl,rfl⟩,⟨_,Je,fun w => by kernel_rfl⟩⟩
theorem bR : (Tryz.prog.info? 200).bind (·.zero) = some (.agg #[.int .i64 0,.int .i64 0,.int .i64 0]) := by kernel_rfl
abbrev CT : Rp (Int × Int × Int) := (Rp.pair (Rp.int .i64) (Rp.pair (Rp.int .i64) (Rp.int .i64)))
def aA (a : Int × Int × Int) : List Value := [.int .i64 a.1,.int .i64 a.2.1,.int .i64 a.2.2]
theorem Ob : Fl CT aA := (Fl.pair Fl.int (Fl.pair Fl.int Fl.int))
theorem NH : Et Tryz.prog 197 200 3 24 := Et.of QP (by kernel_rfl) (by kernel_rfl) (by kernel_rfl) (by decide)
def Dy (p0 : Int × (List (Int × Int × Int × Int × Int × Int)) × (List (Int × Int))) (p1 : Int) : ((List (Int × Int × Int)) × Int) → Option (((List (Int × Int × Int)) × Int) ⊕ (List (Int × Int × Int)))
  | (x2,x3) => (if x3 < 8 then ((Hc p0 p1 x3).bind fun x5 => (if x5.2.2.2 = true then (app x2 ([(x3,x5.1,x5.2.2.1)] : List (Int × Int × Int))).bind fun x6 => some x6 else some x2)).bind fun x4 => some (.inl (x4,w64 (x3 + 1))) else some (.inr x2))
def E6 (p0 : Int × (List (Int × Int × Int × Int × Int × Int)) × (List (Int × Int))) (p1 : Int) : Option (List (Int × Int × Int)) := (Am (Dy p0 p1) ([],0)).bind fun x1 => some x1
theorem IE (Y : Nat → Prop) (w0 : World) (v1 : Value) (v2 : Value) (p0 : Int × (List (Int × Int × Int × Int × Int × Int)) × (List (Int × Int))) (p1 : Int) (r : (List (Int × Int × Int))) (H : E6 p0 p1 = some r) (h_v1 : Sl w0 (NX []) B8 v1 p0.2.1) (h_v2 : Sl w0 (NX []) Cc v2 p0.2.2) :
    Calls Tryz.prog 106 #[.agg #[.int .i64 p0.1,v1,v2],.int .i64 p1] w0 fun e w' => ∃ x : Value,e = .returned (x) ∧ Stw ⟨Y,[],w0⟩ [] [row (x) 200 CT r] w' := by
 refine enter Tryz.func106 rfl Tryz.ntmps106 rfl (fun a hF => ?_)
 have hW := Stw.start Y w0
 unfold E6 at H
 refine vc tk 2 hF hW fun a w hF hW => ?_
 refine Cv (cs := [.int .i64 p0.1,v1,v2]) hF hW rfl rfl rfl (fun b1 a w hF hW => ?_)
 refine Bc tk 8 hF hW fun a w hF hW => ?_
 obtain ⟨o1,G1,K1⟩ := Ad H
 refine Aj (fun a w => ∃ x1 : List (Int × Int × Int), ∃ v3 : Value,some (x1) = some o1 ∧ Fr 33 [] [(4,.slice none 0 0),(5,v3)] a ∧ Stw ⟨Y,[],w0⟩ [(b1,[.int .i64 p0.1,v1,v2])] [row v3 200 CT x1] w) ?_ ?_
 ·
  have H := G1
  clear G1 K1
  refine vc tk 6 hF hW fun a w hF hW => ?_
  have hW := hW.nilRow 200 CT
  refine AD H (fun s a w => ∃ v4 : Value,Fr 33 [] [(1,.int .i64 p1),(2,.pointer (some ⟨b1,0,none⟩)),(4,.slice none 0 0),(5,v4),(6,.int .i64 s.2)] a ∧ Stw ⟨Y,[],w0⟩ [(b1,[.int .i64 p0.1,v1,v2])] [row v4 200 CT s.1] w) ⟨(Value.slice none 0 0),hF.ra rfl,hW⟩ (fun s o a w H L2 hR => ?_)
  obtain ⟨x2,x3⟩ := s
  obtain ⟨v4,hF,hW⟩ := hR
  have hF : Fr 33 [] [(1,.int .i64 p1),(2,.pointer (some ⟨b1,0,none⟩)),(4,.slice none 0 0),(5,v4),(6,.int .i64 x3)] a := hF
  have hW : Stw ⟨Y,[],w0⟩ [(b1,[.int .i64 p0.1,v1,v2])] [row v4 200 CT x2] w := hW
  rw [Dy] at H
  refine vc tk 7 hF hW fun a w hF hW => ?_
  refine AG hF rfl H (fun hF H => ?_) (fun hF H => ?_)
  ·
   refine Ay ?_
   refine Aa ?_
   obtain ⟨o3,G3,K3⟩ := Ad H
   refine Aj (fun a w => ∃ x4 : List (Int × Int × Int), ∃ v5 : Value,some (x4) = some o3 ∧ Fr 33 [] [(1,.int .i64 p1),(2,.pointer (some ⟨b1,0,none⟩)),(4,.slice none 0 0),(5,v5),(6,.int .i64 x3)] a ∧ Stw ⟨Y,[],w0⟩ [(b1,[.int .i64 p0.1,v1,v2])] [row v5 200 CT x4] w) ?_ ?_
   ·
    have H := G3
    clear G3 K3
    refine D7 tk 6 [0] hF hW (ai fun a w hF hW => ?_)
    obtain ⟨x5,h1,H⟩ := Ad H
    refine ls hF hW rfl (Av (v := Value.tuple #[.int .i64 x5.1,.int .i64 x5.2.1,.int .i64 x5.2.2.1,.bool x5.2.2.2]) hF cV rfl (fun w hW => Qp any w (v1) (v2) p0 p1 x3 _ h1 (D3 (Ab h_v1) hW) (D3 (Ab h_v2) hW))) (fun a w hF hW => ?_)
    refine ls hF hW rfl ((Al hF rfl).q) (fun a w hF hW => ?_)
    refine ls hF hW rfl ((A4 (v := Value.int .i64 x5.1) hF rfl rfl).q) (fun a w hF hW => ?_)
    refine ls hF hW rfl ((A4 (v := Value.int .i64 x5.2.1) hF rfl rfl).q) (fun a w hF hW => ?_)
    refine ls hF hW rfl ((A4 (v := Value.int .i64 x5.2.2.1) hF rfl rfl).q) (fun a w hF hW => ?_)
    refine ls hF hW rfl ((A4 (v := Value.bool x5.2.2.2) hF rfl rfl).q) (fun a w hF hW => ?_)
    refine Bc tk 11 hF hW fun a w hF hW => ?_
    refine Dw hF rfl (fun hb => ?_) (fun hb => ?_)
    ·
     have H := BP hb H
     rw [hb] at hF
     clear hb
     refine vc tk 5 hF hW fun a w hF hW => ?_
     refine ls hF hW rfl ((DV (v := Value.agg #[.int .i64 x3,.int .i64 x5.1,.int .i64 x5.2.2.1]) cH hF rfl rfl rfl).q) (fun a w hF hW => ?_)
     refine CK (z := Value.agg #[.int .i64 0,.int .i64 0,.int .i64 0]) (cs := [.int .i64 x3,.int .i64 x5.1,.int .i64 x5.2.2.1]) CT ([(x3,x5.1,x5.2.2.1)] : List (Int × Int × Int)) hF hW rfl NH bR rfl rfl rfl rfl rfl rfl (Ob.repL _ _ ([(x3,x5.1,x5.2.2.1)] : List (Int × Int × Int))) (fun v6 a w hF hW => ?_)
     obtain ⟨x6,h2,H⟩ := Ad H
     refine BF (r := CT) (i := 1) hF hW rfl NH rfl rfl rfl rfl (BU hW 0 rfl) h2 rfl (fun v7 a w hF hW => ?_)
     have hW : Stw ⟨Y,[],w0⟩ [(b1,[.int .i64 p0.1,v1,v2])] [row v7 200 CT x6,row v6 200 CT ([(x3,x5.1,x5.2.2.1)] : List (Int × Int × Int))] w := hW
     refine vl tk 2 hF hW fun a w hF hW => ?_
     refine An ?_
     refine Aa ?_
     have hW := hW.sub (M' := [(b1,[.int .i64 p0.1,v1,v2])]) (Z' := [row v7 200 CT x6]) (List.Sublist.refl _) (List.Sublist.cons_cons _ (List.nil_sublist _))
     exact ⟨_,(v7),H,hF.ra rfl,hW⟩
    ·
     have H := BQ (by rw [hb]; decide) H
     rw [hb] at hF
     clear hb
     refine Ay ?_
     refine An ?_
     refine Aa ?_
     exact ⟨_,(v4),H,hF.ra rfl,hW⟩
   rintro a w ⟨x4,v5,hj,hF,hW⟩
   have hj := Option.some.inj hj
   subst hj
   have H := K3
   clear G3 K3
   refine vc tk 5 hF hW fun a w hF hW => ?_
   refine Aa ?_
   exact ⟨_,H,(v5),hF.ra rfl,hW⟩
  ·
   refine AE ?_
   iterate 2 refine AQ ?_
   refine AF ?_
   refine Aa ?_
   have H := L2 _ H
   exact ⟨_,(v4),H,hF.ra rfl,hW⟩
 rintro a w ⟨x1,v3,hj,hF,hW⟩
 have hj := Option.some.inj hj
 subst hj
 have H := K1
 clear G1 K1
 refine vc tk 6 hF hW fun a w hF hW => ?_
 refine Ah ?_
 have H := Option.some.inj H
 subst H
 refine Aw (.inl rfl) hF hW rfl (Ag hF rfl) ?_
 have hW := hW.sub (M' := []) (Z' := [row v3 200 CT x1]) (List.nil_sublist _) (List.Sublist.refl _)
 exact ⟨(v3),rfl,hW⟩
theorem Xd : Has Tryz.prog 106 := Bj Tryz.func106
def Bp (p0 : Int) : Int := (if 9218868437227405312 < (Int.tmod p0 9223372036854775808) then 9221120237041090561 else p0)
theorem JO (Y : Nat → Prop) (w0 : World)  (p0 : Int) (r : Int) (H : Bp p0 = r)  :
    Calls Tryz.prog 179 #[.int .u64 p0] w0 fun e w' => e = .returned (.int .u64 r) ∧ Below w0.heap.size w0 w' := by
 refine enter Tryz.func179 rfl Tryz.ntmps179 rfl (fun a hF => ?_)
 have hW := Stw.start Y w0
 unfold Bp at H
 refine vc tk 9 hF hW fun a w hF hW => ?_
 refine ls hF hW rfl ((VT hF rfl rfl (by decide) rfl).q) (fun a w hF hW => ?_)
 refine Bc tk 3 hF hW fun a w hF hW => ?_
 refine AG hF rfl H (fun hF H => ?_) (fun hF H => ?_)
 ·
  refine vc tk 5 hF hW fun a w hF hW => ?_
  refine Ah ?_
  refine Ak ?_
  subst H
  refine Aw (.inl rfl) hF hW rfl (Ag hF rfl) ?_
  exact ⟨rfl,hW.done⟩
 ·
  refine D2 tk 8 hF hW fun a w hF hW => ?_
  refine Ah ?_
  subst H
  refine Aw (.inl rfl) hF hW rfl (Ag hF rfl) ?_
  exact ⟨rfl,hW.done⟩
theorem HZ {a : Nat} (h : 9218868437227405312 < a % 9223372036854775808) : Bp (a : Int) = Bp ((9221120237041090561 : Nat) : Int) := by
  unfold Bp
  rw [Int.tmod_eq_emod_of_nonneg (by omega),if_pos (by omega),if_pos (by decide)]
theorem M7 {a b : Nat} (h : FE a = FE b) : Bp (a : Int) = Bp (b : Int) := V3 (f := fun a : Nat => Bp (a : Int)) (fun a h => HZ h) h
theorem Y7 : Has Tryz.prog 179 := Bj Tryz.func179
def EM (p0 : Int) (p1 : Int) : Int := (if (Bp (((FS (Int.toNat p0) (Int.toNat p1)) : Nat) : Int)) = 9223372036854775808 then 0 else (Bp (((FS (Int.toNat p0) (Int.toNat p1)) : Nat) : Int)))
theorem KM (Y : Nat → Prop) (w0 : World)  (p0 : Int) (p1 : Int) (r : Int) (H : EM p0 p1 = r)  :
    Calls Tryz.prog 144 #[.int .u64 p0,.int .u64 p1] w0 fun e w' => e = .returned (.int .u64 r) ∧ Below w0.heap.size w0 w' := by
 refine enter Tryz.func144 rfl Tryz.ntmps144 rfl (fun a hF => ?_)
 have hW := Stw.start Y w0
 unfold EM at H
 refine vc tk 8 hF hW fun a w hF hW => ?_
 refine ls hF hW rfl ((Hm (v := Value.float .f64 (Int.toNat p0)) hF R1 rfl (fun w => rfl)).q) (fun a w hF hW => ?_)
 refine ls hF hW rfl ((Al hF rfl).q) (fun a w hF hW => ?_)
 refine ls hF hW rfl ((Hm (v := Value.float .f64 (Int.toNat p1)) hF R1 rfl (fun w => rfl)).q) (fun a w hF hW => ?_)
 refine S4 hF hW rfl rfl rfl (fun b1 a w c_b1 hF hW => ?_)
 refine ls hF hW rfl ((Hm (v := Value.int .u64 (b1 : Int)) hF WW rfl (fun w => rfl)).q) (fun a w hF hW => ?_)
 refine ls hF hW rfl (Av (v := Value.int .u64 (Bp (b1 : Int))) hF Y7 rfl (fun w hW => JO any w (b1 : Int) _ rfl)) (fun a w hF hW => ?_)
 rw [M7 c_b1] at hF
 refine Bc tk 10 hF hW fun a w hF hW => ?_
 refine AG hF rfl H (fun hF H => ?_) (fun hF H => ?_)
 ·
  refine vc tk 5 hF hW fun a w hF hW => ?_
  refine Ah ?_
  refine Ak ?_
  subst H
  refine Aw (.inl rfl) hF hW rfl (Ag hF rfl) ?_
  exact ⟨rfl,hW.done⟩
 ·
  refine D2 tk 8 hF hW fun a w hF hW => ?_
  refine Ah ?_
  subst H
  refine Aw (.inl rfl) hF hW rfl (Ag hF rfl) ?_
  exact ⟨rfl,hW.done⟩
theorem Yg : Has Tryz.prog 144 := Bj Tryz.func144
def DF (p0 : Int × (List (Int × Int × Int × Int × Int × Int)) × (List (Int × Int))) : (List Int × Int) → Option ((List Int × Int) ⊕ (List Int))
  | (x4,x5) => (if x5 < p0.1 then (app x4 ([9218868437227405312] : List Int)).bind fun x6 => some (.inl (x6,w64 (x5 + 1))) else some (.inr x4))
def C0 (p1 : List Int) (x9 : List Int) (x17 : (List (Int × Int × Int))) : (Int × Int) → Option ((Int × Int) ⊕ Int)
  | (x19,x20) => (if x20 < (x17.length : Int) then ((ix x17 x20).bind fun x22 => (ix p1 x22.2.2).bind fun x23 => (ix x17 x20).bind fun x24 => (ix x9 x24.2.1).bind fun x25 => (if (EM x23 x25) < x19 then some (EM x23 x25) else some x19)).bind fun x21 => some (.inl (x21,w64 (x20 + 1))) else some (.inr x19))
def DM (p0 : Int × (List (Int × Int × Int × Int × Int × Int)) × (List (Int × Int))) (p1 : List Int) (x9 : List Int) : (List Int × Int) → Option ((List Int × Int) ⊕ (List Int))
  | (x13,x14) => (if x14 < p0.1 then ((ix x9 x14).bind fun x16 => (E6 p0 x14).bind fun x17 => (Am (C0 p1 x9 x17) (x16,0)).bind fun x18 => (app x13 ([x18] : List Int)).bind fun x26 => some x26).bind fun x15 => some (.inl (x15,w64 (x14 + 1))) else some (.inr x13))
def DR (p0 : Int × (List (Int × Int × Int × Int × Int × Int)) × (List (Int × Int))) (p1 : List Int) : (List Int × Int) → Option ((List Int × Int) ⊕ (List Int))
  | (x9,x10) => (if x10 < p0.1 then ((Am (DM p0 p1 x9) ([],0)).bind fun x12 => some x12).bind fun x11 => some (.inl (x11,w64 (x10 + 1))) else some (.inr x9))
def Ey (p0 : Int × (List (Int × Int × Int × Int × Int × Int)) × (List (Int × Int))) (p1 : List Int) (p2 : Int) : Option (List Int) := ((DO p0 p1).bind fun x2 => (if (!x2) = true then some true else (if p2 < 0 then some true else some (decide (p0.1 ≤ p2))))).bind fun x1 => (if x1 = true then some ([] : List Int) else (Am (DF p0) ([],0)).bind fun x3 => (ix x3 p2).bind fun x7 => (Am (DR p0 p1) ((Ao x3 p2 0),0)).bind fun x8 => some x8)
theorem JP (Y : Nat → Prop) (w0 : World) (v1 : Value) (v2 : Value) (v3 : Value) (p0 : Int × (List (Int × Int × Int × Int × Int × Int)) × (List (Int × Int))) (p1 : List Int) (p2 : Int) (r : List Int) (H : Ey p0 p1 p2 = some r) (h_v1 : Sl w0 (NX []) B8 v1 p0.2.1) (h_v2 : Sl w0 (NX []) Cc v2 p0.2.2) (h_v3 : Sl w0 (NX []) (Rp.int .u64) v3 p1) :
    Calls Tryz.prog 104 #[.agg #[.int .i64 p0.1,v1,v2],v3,.int .i64 p2] w0 fun e w' => ∃ x : Value,e = .returned (x) ∧ Stw ⟨Y,[],w0⟩ [] [row (x) 131 (Rp.int .u64) r] w' := by
 refine enter Tryz.func104 rfl Tryz.ntmps104 rfl (fun a hF => ?_)
 have hW := Stw.start Y w0
 unfold Ey at H
 refine vc tk 2 hF hW fun a w hF hW => ?_
 refine Cv (cs := [.int .i64 p0.1,v1,v2]) hF hW rfl rfl rfl (fun b1 a w hF hW => ?_)
 refine Bc tk 4 hF hW fun a w hF hW => ?_
 obtain ⟨o1,G1,K1⟩ := Ad H
 refine Aj (fun a w => ∃ x1 : Bool,some (x1) = some o1 ∧ Fr 94 [] [(1,v3),(2,.int .i64 p2),(3,.pointer (some ⟨b1,0,none⟩)),(6,.slice none 0 0),(29,.bool x1)] a ∧ Stw ⟨Y,[],w0⟩ [(b1,[.int .i64 p0.1,v1,v2])] [] w) ?_ ?_
 ·
  have H := G1
  clear G1 K1
  refine D7 tk 3 [0] hF hW (ai fun a w hF hW => ?_)
  obtain ⟨x2,h1,H⟩ := Ad H
  refine ls hF hW rfl (Av (v := Value.bool x2) hF Z4 rfl (fun w hW => Hg any w (v1) (v2) (v3) p0 p1 _ h1 (D3 (Ab h_v1) hW) (D3 (Ab h_v2) hW) (D3 (Ab h_v3) hW))) (fun a w hF hW => ?_)
  refine vl tk 2 hF hW fun a w hF hW => ?_
  rcases bxq (!x2) with hb | hb
  ·
   have H := BP hb H
   rw [hb] at hF
   clear hb
   refine vl tk 10 hF hW fun a w hF hW => ?_
   refine Aa ?_
   exact ⟨_,H,hF.ra rfl,hW⟩
  ·
   have H := BQ (by rw [hb]; decide) H
   rw [hb] at hF
   clear hb
   refine vl tk 4 hF hW fun a w hF hW => ?_
   rcases bxq (decide (p2 < 0)) with hb | hb
   ·
    have H := BP (of_decide_eq_true hb) H
    rw [hb] at hF
    clear hb
    refine vl tk 6 hF hW fun a w hF hW => ?_
    refine Aa ?_
    exact ⟨_,H,hF.ra rfl,hW⟩
   ·
    have H := BQ (of_decide_eq_false hb) H
    rw [hb] at hF
    clear hb
    refine Eb tk 6 [0] hF hW (ai fun a w hF hW => ?_)
    refine Aa ?_
    exact ⟨_,H,hF.ra rfl,hW⟩
 rintro a w ⟨x1,hj,hF,hW⟩
 have hj := Option.some.inj hj
 subst hj
 have H := K1
 clear G1 K1
 refine BA hF rfl H (fun hF H => ?_) (fun hF H => ?_)
 ·
  refine vc tk 5 hF hW fun a w hF hW => ?_
  refine Ah ?_
  refine Ak ?_
  have H := Option.some.inj H
  subst H
  refine Aw (.inl rfl) hF hW rfl (Ag hF rfl) ?_
  have hW := hW.nilRow 131 (Rp.int .u64)
  have hW := hW.sub (M' := []) (Z' := [row (Value.slice none 0 0) 131 (Rp.int .u64) ([])]) (List.nil_sublist _) (List.Sublist.refl _)
  exact ⟨(Value.slice none 0 0),rfl,hW⟩
 ·
  refine D2 tk 7 hF hW fun a w hF hW => ?_
  obtain ⟨o2,G2,K2⟩ := Ad H
  refine Aj (fun a w => ∃ x3 : List Int, ∃ v4 : Value,some (x3) = some o2 ∧ Fr 94 [] [(1,v3),(2,.int .i64 p2),(3,.pointer (some ⟨b1,0,none⟩)),(6,.slice none 0 0),(7,v4)] a ∧ Stw ⟨Y,[],w0⟩ [(b1,[.int .i64 p0.1,v1,v2])] [row v4 131 (Rp.int .u64) x3] w) ?_ ?_
  ·
   have H := G2
   clear G2 K2
   refine vc tk 6 hF hW fun a w hF hW => ?_
   have hW := hW.nilRow 131 (Rp.int .u64)
   refine AD H (fun s a w => ∃ v5 : Value,Fr 94 [] [(1,v3),(2,.int .i64 p2),(3,.pointer (some ⟨b1,0,none⟩)),(6,.slice none 0 0),(7,v5),(8,.int .i64 s.2)] a ∧ Stw ⟨Y,[],w0⟩ [(b1,[.int .i64 p0.1,v1,v2])] [row v5 131 (Rp.int .u64) s.1] w) ⟨(Value.slice none 0 0),hF.ra rfl,hW⟩ (fun s o a w H L3 hR => ?_)
   obtain ⟨x4,x5⟩ := s
   obtain ⟨v5,hF,hW⟩ := hR
   have hF : Fr 94 [] [(1,v3),(2,.int .i64 p2),(3,.pointer (some ⟨b1,0,none⟩)),(6,.slice none 0 0),(7,v5),(8,.int .i64 x5)] a := hF
   have hW : Stw ⟨Y,[],w0⟩ [(b1,[.int .i64 p0.1,v1,v2])] [row v5 131 (Rp.int .u64) x4] w := hW
   rw [DF] at H
   refine D7 tk 9 [0] hF hW (ai fun a w hF hW => ?_)
   refine AG hF rfl H (fun hF H => ?_) (fun hF H => ?_)
   ·
    refine D2 tk 6 hF hW fun a w hF hW => ?_
    refine CK (z := Value.int .u64 0) (cs := [.int .u64 9218868437227405312]) (Rp.int .u64) ([9218868437227405312] : List Int) hF hW rfl PO Zd rfl rfl rfl rfl rfl rfl (Fl.int.repL _ _ ([9218868437227405312] : List Int)) (fun v6 a w hF hW => ?_)
    obtain ⟨x6,h2,H⟩ := Ad H
    refine BF (r := (Rp.int .u64)) (i := 1) hF hW rfl PO rfl rfl rfl rfl (BU hW 0 rfl) h2 rfl (fun v7 a w hF hW => ?_)
    have hW : Stw ⟨Y,[],w0⟩ [(b1,[.int .i64 p0.1,v1,v2])] [row v7 131 (Rp.int .u64) x6,row v6 131 (Rp.int .u64) ([9218868437227405312] : List Int)] w := hW
    refine vl tk 2 hF hW fun a w hF hW => ?_
    refine An ?_
    refine vn tk 5 hF hW fun a w hF hW => ?_
    refine Aa ?_
    have hW := hW.sub (M' := [(b1,[.int .i64 p0.1,v1,v2])]) (Z' := [row v7 131 (Rp.int .u64) x6]) (List.Sublist.refl _) (List.Sublist.cons_cons _ (List.nil_sublist _))
    exact ⟨_,H,(v7),hF.ra rfl,hW⟩
   ·
    refine AE ?_
    iterate 2 refine AQ ?_
    refine AF ?_
    refine Aa ?_
    have H := L3 _ H
    exact ⟨_,(v5),H,hF.ra rfl,hW⟩
  rintro a w ⟨x3,v4,hj,hF,hW⟩
  have hj := Option.some.inj hj
  subst hj
  have H := K2
  clear G2 K2
  refine vc tk 4 hF hW fun a w hF hW => ?_
  obtain ⟨x7,h3,H⟩ := Ad H
  refine ls hF hW rfl ((Ai (r := (Rp.int .u64)) PO hF rfl rfl (Ae 0 rfl) h3).q) (fun a w hF hW => ?_)
  refine BE (i := p2) (j := 0) (vs := [.int .u64 0]) (x' := 0) hF hW rfl rfl rfl (k := 0) rfl rfl h3 KG rfl rfl rfl rfl (fun A cs _ => Fl.int.sto (by rfl) _ _ _) (fun w hW => ?_)
  refine D1 (Aa ?_)
  obtain ⟨o4,G4,K4⟩ := Ad H
  refine Aj (fun a w => ∃ x8 : List Int, ∃ v8 : Value,some (x8) = some o4 ∧ Fr 94 [] [(6,.slice none 0 0),(7,v8)] a ∧ Stw ⟨Y,[],w0⟩ [(b1,[.int .i64 p0.1,v1,v2])] [row v8 131 (Rp.int .u64) x8] w) ?_ ?_
  ·
   have H := G4
   clear G4 K4
   refine vc tk 6 hF hW fun a w hF hW => ?_
   refine AD H (fun s a w => ∃ v9 : Value,Fr 94 [] [(1,v3),(3,.pointer (some ⟨b1,0,none⟩)),(6,.slice none 0 0),(7,v9),(9,.int .i64 s.2)] a ∧ Stw ⟨Y,[],w0⟩ [(b1,[.int .i64 p0.1,v1,v2])] [row v9 131 (Rp.int .u64) s.1] w) ⟨(v4),hF.ra rfl,hW⟩ (fun s o a w H L5 hR => ?_)
   obtain ⟨x9,x10⟩ := s
   obtain ⟨v9,hF,hW⟩ := hR
   have hF : Fr 94 [] [(1,v3),(3,.pointer (some ⟨b1,0,none⟩)),(6,.slice none 0 0),(7,v9),(9,.int .i64 x10)] a := hF
   have hW : Stw ⟨Y,[],w0⟩ [(b1,[.int .i64 p0.1,v1,v2])] [row v9 131 (Rp.int .u64) x9] w := hW
   rw [DR] at H
   refine D7 tk 9 [0] hF hW (ai fun a w hF hW => ?_)
   refine AG hF rfl H (fun hF H => ?_) (fun hF H => ?_)
   ·
    refine Ay ?_
    refine Aa ?_
    obtain ⟨o6,G6,K6⟩ := Ad H
    refine Aj (fun a w => ∃ x11 : List Int, ∃ v10 : Value,some (x11) = some o6 ∧ Fr 94 [] [(1,v3),(3,.pointer (some ⟨b1,0,none⟩)),(6,.slice none 0 0),(7,v10),(9,.int .i64 x10)] a ∧ Stw ⟨Y,[],w0⟩ [(b1,[.int .i64 p0.1,v1,v2])] [row v10 131 (Rp.int .u64) x11] w) ?_ ?_
    ·
     have H := G6
     clear G6 K6
     refine vc tk 6 hF hW fun a w hF hW => ?_
     obtain ⟨o7,G7,K7⟩ := Ad H
     refine Aj (fun a w => ∃ x12 : List Int, ∃ v11 : Value,some (x12) = some o7 ∧ Fr 94 [] [(1,v3),(3,.pointer (some ⟨b1,0,none⟩)),(6,.slice none 0 0),(7,v9),(9,.int .i64 x10),(10,v11)] a ∧ Stw ⟨Y,[],w0⟩ [(b1,[.int .i64 p0.1,v1,v2])] [row v9 131 (Rp.int .u64) x9,row v11 131 (Rp.int .u64) x12] w) ?_ ?_
     ·
      have H := G7
      clear G7 K7
      refine vc tk 6 hF hW fun a w hF hW => ?_
      have hW := hW.nilRow 131 (Rp.int .u64)
      have hW := hW.frontZ (i := 1) rfl rfl
      refine AD H (fun s a w => ∃ v12 : Value,Fr 94 [] [(1,v3),(3,.pointer (some ⟨b1,0,none⟩)),(6,.slice none 0 0),(7,v9),(9,.int .i64 x10),(10,v12),(11,.int .i64 s.2)] a ∧ Stw ⟨Y,[],w0⟩ [(b1,[.int .i64 p0.1,v1,v2])] [row v9 131 (Rp.int .u64) x9,row v12 131 (Rp.int .u64) s.1] w) ⟨(Value.slice none 0 0),hF.ra rfl,hW⟩ (fun s o a w H L8 hR => ?_)
      obtain ⟨x13,x14⟩ := s
      obtain ⟨v12,hF,hW⟩ := hR
      have hF : Fr 94 [] [(1,v3),(3,.pointer (some ⟨b1,0,none⟩)),(6,.slice none 0 0),(7,v9),(9,.int .i64 x10),(10,v12),(11,.int .i64 x14)] a := hF
      have hW : Stw ⟨Y,[],w0⟩ [(b1,[.int .i64 p0.1,v1,v2])] [row v9 131 (Rp.int .u64) x9,row v12 131 (Rp.int .u64) x13] w := hW
      rw [DM] at H
      refine D7 tk 9 [0] hF hW (ai fun a w hF hW => ?_)
      refine AG hF rfl H (fun hF H => ?_) (fun hF H => ?_)
      ·
       refine Ay ?_
       refine Aa ?_
       obtain ⟨o9,G9,K9⟩ := Ad H
       refine Aj (fun a w => ∃ x15 : List Int, ∃ v13 : Value,some (x15) = some o9 ∧ Fr 94 [] [(1,v3),(3,.pointer (some ⟨b1,0,none⟩)),(6,.slice none 0 0),(7,v9),(9,.int .i64 x10),(10,v13),(11,.int .i64 x14)] a ∧ Stw ⟨Y,[],w0⟩ [(b1,[.int .i64 p0.1,v1,v2])] [row v9 131 (Rp.int .u64) x9,row v13 131 (Rp.int .u64) x15] w) ?_ ?_
       ·
        have H := G9
        clear G9 K9
        refine vc tk 5 hF hW fun a w hF hW => ?_
        obtain ⟨x16,h4,H⟩ := Ad H
        refine ls hF hW rfl ((Ai (r := (Rp.int .u64)) PO hF rfl rfl (Ae 0 rfl) h4).q) (fun a w hF hW => ?_)
        refine ls hF hW rfl ((Af (y := Value.int .u64 x16) (j := 0) (i := x14) hF rfl rfl (Ae 0 rfl) h4 Fl.int.to KG rfl).q) (fun a w hF hW => ?_)
        refine E9 tk 7 [0] hF hW (ai fun a w hF hW => ?_)
        obtain ⟨x17,h5,H⟩ := Ad H
        refine A9 (Ml := []) (Zl := []) (β := Value) (rv := fun x => x) (MM := fun x => []) (ZZ := fun x => [row x 200 CT x17]) hF hW Xd rfl rfl (fun hL => IE _ w (v1) (v2) p0 x14 _ h5 ((Ab h_v1) w hW).nx ((Ab h_v2) w hW).nx) (fun x a w hF hW => ?_)
        obtain ⟨v14,rfl⟩ : ∃ y,y = x := ⟨x,rfl⟩
        have hW : Stw ⟨Y,[],w0⟩ [(b1,[.int .i64 p0.1,v1,v2])] [row v14 200 CT x17,row v9 131 (Rp.int .u64) x9,row v12 131 (Rp.int .u64) x13] w := hW
        refine vl tk 2 hF hW fun a w hF hW => ?_
        refine Aa ?_
        obtain ⟨o10,G10,K10⟩ := Ad H
        refine Aj (fun a w => ∃ x18 : Int,some (x18) = some o10 ∧ Fr 94 [] [(1,v3),(3,.pointer (some ⟨b1,0,none⟩)),(6,.slice none 0 0),(7,v9),(9,.int .i64 x10),(10,v12),(11,.int .i64 x14),(12,.int .u64 x18)] a ∧ Stw ⟨Y,[],w0⟩ [(b1,[.int .i64 p0.1,v1,v2])] [row v9 131 (Rp.int .u64) x9,row v12 131 (Rp.int .u64) x13] w) ?_ ?_
        ·
         have H := G10
         clear G10 K10
         refine vc tk 6 hF hW fun a w hF hW => ?_
         have hW := hW.frontZ (i := 2) rfl rfl
         have hW := hW.frontZ (i := 2) rfl rfl
         refine AD H (fun s a w => Fr 94 [] [(1,v3),(3,.pointer (some ⟨b1,0,none⟩)),(6,.slice none 0 0),(7,v9),(9,.int .i64 x10),(10,v12),(11,.int .i64 x14),(12,.int .u64 s.1),(13,v14),(14,.int .i64 s.2)] a ∧ Stw ⟨Y,[],w0⟩ [(b1,[.int .i64 p0.1,v1,v2])] [row v9 131 (Rp.int .u64) x9,row v12 131 (Rp.int .u64) x13,row v14 200 CT x17] w) ⟨hF.ra rfl,hW⟩ (fun s o a w H L11 hR => ?_)
         obtain ⟨x19,x20⟩ := s
         obtain ⟨hF,hW⟩ := hR
         have hF : Fr 94 [] [(1,v3),(3,.pointer (some ⟨b1,0,none⟩)),(6,.slice none 0 0),(7,v9),(9,.int .i64 x10),(10,v12),(11,.int .i64 x14),(12,.int .u64 x19),(13,v14),(14,.int .i64 x20)] a := hF
         have hW : Stw ⟨Y,[],w0⟩ [(b1,[.int .i64 p0.1,v1,v2])] [row v9 131 (Rp.int .u64) x9,row v12 131 (Rp.int .u64) x13,row v14 200 CT x17] w := hW
         rw [C0] at H
         refine vc tk 5 hF hW fun a w hF hW => ?_
         refine ls hF hW rfl ((AK (r := CT) (l := x17) QP rfl hF rfl (Ae 2 rfl)).q) (fun a w hF hW => ?_)
         refine Bc tk 3 hF hW fun a w hF hW => ?_
         refine AG hF rfl H (fun hF H => ?_) (fun hF H => ?_)
         ·
          refine Ay ?_
          refine Aa ?_
          obtain ⟨o12,G12,K12⟩ := Ad H
          refine Aj (fun a w => ∃ x21 : Int,some (x21) = some o12 ∧ Fr 94 [] [(1,v3),(3,.pointer (some ⟨b1,0,none⟩)),(6,.slice none 0 0),(7,v9),(9,.int .i64 x10),(10,v12),(11,.int .i64 x14),(12,.int .u64 x21),(13,v14),(14,.int .i64 x20)] a ∧ Stw ⟨Y,[],w0⟩ [(b1,[.int .i64 p0.1,v1,v2])] [row v9 131 (Rp.int .u64) x9,row v12 131 (Rp.int .u64) x13,row v14 200 CT x17] w) ?_ ?_
          ·
           have H := G12
           clear G12 K12
           refine vc tk 2 hF hW fun a w hF hW => ?_
           refine BV hW MO (by kernel_rfl) ?_
           iterate 3 refine qs hF rfl ((Al hF rfl).q) (fun a hF => ?_)
           obtain ⟨x22,h6,H⟩ := Ad H
           refine qs hF rfl ((Ai (r := CT) NH hF rfl rfl (Ae 2 rfl) h6).q) (fun a hF => ?_)
           refine qs hF rfl ((Au Je rfl rfl rfl T3 hF rfl (Dt v14 + (x20).toNat * 3 + 2) rfl).q) (fun a hF => ?_)
           refine qs hF rfl ((Af (y := Value.int .i64 x22.2.2) (j := 2) (i := x20) hF rfl rfl (Ae 2 rfl) h6 Ob.to T3 rfl).q) (fun a hF => ?_)
           obtain ⟨x23,h7,H⟩ := Ad H
           refine qs hF rfl ((Ai (r := (Rp.int .u64)) PO hF rfl rfl (Ab h_v3) h7).q) (fun a hF => ?_)
           refine qs hF rfl ((Af (y := Value.int .u64 x23) (j := 0) (i := x22.2.2) hF rfl rfl (Ab h_v3) h7 Fl.int.to KG rfl).q) (fun a hF => ?_)
           iterate 3 refine qs hF rfl ((Al hF rfl).q) (fun a hF => ?_)
           obtain ⟨x24,h8,H⟩ := Ad H
           refine qs hF rfl ((Ai (r := CT) NH hF rfl rfl (Ae 2 rfl) h8).q) (fun a hF => ?_)
           refine qs hF rfl ((Au Je rfl rfl rfl T3 hF rfl (Dt v14 + (x20).toNat * 3 + 1) rfl).q) (fun a hF => ?_)
           refine qs hF rfl ((Af (y := Value.int .i64 x24.2.1) (j := 1) (i := x20) hF rfl rfl (Ae 2 rfl) h8 Ob.to T3 rfl).q) (fun a hF => ?_)
           obtain ⟨x25,h9,H⟩ := Ad H
           refine qs hF rfl ((Ai (r := (Rp.int .u64)) PO hF rfl rfl (Ae 0 rfl) h9).q) (fun a hF => ?_)
           refine qs hF rfl ((Af (y := Value.int .u64 x25) (j := 0) (i := x24.2.1) hF rfl rfl (Ae 0 rfl) h9 Fl.int.to KG rfl).q) (fun a hF => ?_)
           refine qs hF rfl (Av (v := Value.int .u64 (EM x23 x25)) hF Yg rfl (fun w hW => KM any w x23 x25 _ rfl)) (fun a hF => ?_)
           refine qs hF rfl ((BB hF rfl).q) (fun a hF => ?_)
           refine AX (fun w hW => ?_)
           refine vn tk 7 hF hW fun a w hF hW => ?_
           refine AG hF rfl H (fun hF H => ?_) (fun hF H => ?_)
           ·
            refine vc tk 4 hF hW fun a w hF hW => ?_
            refine An ?_
            refine Aa ?_
            have hW := hW.frontZ (i := 2) rfl rfl
            have hW := hW.frontZ (i := 2) rfl rfl
            have hW := hW.frontZ (i := 2) rfl rfl
            exact ⟨_,H,hF.ra rfl,hW⟩
           ·
            refine Ay ?_
            refine An ?_
            refine Aa ?_
            have hW := hW.frontZ (i := 2) rfl rfl
            have hW := hW.frontZ (i := 2) rfl rfl
            have hW := hW.frontZ (i := 2) rfl rfl
            exact ⟨_,H,hF.ra rfl,hW⟩
          rintro a w ⟨x21,hj,hF,hW⟩
          have hj := Option.some.inj hj
          subst hj
          have H := K12
          clear G12 K12
          refine vc tk 5 hF hW fun a w hF hW => ?_
          refine Aa ?_
          have hW := hW.frontZ (i := 2) rfl rfl
          have hW := hW.frontZ (i := 2) rfl rfl
          have hW := hW.frontZ (i := 2) rfl rfl
          exact ⟨_,H,hF.ra rfl,hW⟩
         ·
          refine AE ?_
          iterate 2 refine AQ ?_
          refine AF ?_
          refine Aa ?_
          have hW := hW.frontZ (i := 1) rfl rfl
          have hW := hW.frontZ (i := 1) rfl rfl
          have hW := hW.sub (M' := [(b1,[.int .i64 p0.1,v1,v2])]) (Z' := [row v9 131 (Rp.int .u64) x9,row v12 131 (Rp.int .u64) x13]) (List.Sublist.refl _) (List.Sublist.cons_cons _ (List.Sublist.cons_cons _ (List.nil_sublist _)))
          have H := L11 _ H
          exact ⟨_,H,hF.ra rfl,hW⟩
        rintro a w ⟨x18,hj,hF,hW⟩
        have hj := Option.some.inj hj
        subst hj
        have H := K10
        clear G10 K10
        refine vc tk 3 hF hW fun a w hF hW => ?_
        refine CK (z := Value.int .u64 0) (cs := [.int .u64 x18]) (Rp.int .u64) ([x18] : List Int) hF hW rfl PO Zd rfl rfl rfl rfl rfl rfl (Fl.int.repL _ _ ([x18] : List Int)) (fun v15 a w hF hW => ?_)
        obtain ⟨x26,h10,H⟩ := Ad H
        refine BF (r := (Rp.int .u64)) (i := 2) hF hW rfl PO rfl rfl rfl rfl (BU hW 0 rfl) h10 rfl (fun v16 a w hF hW => ?_)
        have hW : Stw ⟨Y,[],w0⟩ [(b1,[.int .i64 p0.1,v1,v2])] [row v16 131 (Rp.int .u64) x26,row v15 131 (Rp.int .u64) ([x18] : List Int),row v9 131 (Rp.int .u64) x9] w := hW
        refine vl tk 2 hF hW fun a w hF hW => ?_
        refine An ?_
        refine Aa ?_
        have hW := hW.frontZ (i := 2) rfl rfl
        have hW := hW.sub (M' := [(b1,[.int .i64 p0.1,v1,v2])]) (Z' := [row v9 131 (Rp.int .u64) x9,row v16 131 (Rp.int .u64) x26]) (List.Sublist.refl _) (List.Sublist.cons_cons _ (List.Sublist.cons_cons _ (List.nil_sublist _)))
        exact ⟨_,(v16),H,hF.ra rfl,hW⟩
       rintro a w ⟨x15,v13,hj,hF,hW⟩
       have hj := Option.some.inj hj
       subst hj
       have H := K9
       clear G9 K9
       refine vc tk 5 hF hW fun a w hF hW => ?_
       refine Aa ?_
       have hW := hW.frontZ (i := 1) rfl rfl
       have hW := hW.frontZ (i := 1) rfl rfl
       exact ⟨_,H,(v13),hF.ra rfl,hW⟩
      ·
       refine AE ?_
       iterate 2 refine AQ ?_
       refine AF ?_
       refine Aa ?_
       have hW := hW.frontZ (i := 1) rfl rfl
       have hW := hW.frontZ (i := 1) rfl rfl
       have H := L8 _ H
       exact ⟨_,(v12),H,hF.ra rfl,hW⟩
     rintro a w ⟨x12,v11,hj,hF,hW⟩
     have hj := Option.some.inj hj
     subst hj
     have H := K7
     clear G7 K7
     refine vc tk 4 hF hW fun a w hF hW => ?_
     refine An ?_
     refine Aa ?_
     have hW := hW.frontZ (i := 1) rfl rfl
     have hW := hW.sub (M' := [(b1,[.int .i64 p0.1,v1,v2])]) (Z' := [row v11 131 (Rp.int .u64) x12]) (List.Sublist.refl _) (List.Sublist.cons_cons _ (List.nil_sublist _))
     exact ⟨_,(v11),H,hF.ra rfl,hW⟩
    rintro a w ⟨x11,v10,hj,hF,hW⟩
    have hj := Option.some.inj hj
    subst hj
    have H := K6
    clear G6 K6
    refine vc tk 5 hF hW fun a w hF hW => ?_
    refine Aa ?_
    exact ⟨_,H,(v10),hF.ra rfl,hW⟩
   ·
    refine AE ?_
    iterate 2 refine AQ ?_
    refine AF ?_
    refine Aa ?_
    have H := L5 _ H
    exact ⟨_,(v9),H,hF.ra rfl,hW⟩
  rintro a w ⟨x8,v8,hj,hF,hW⟩
  have hj := Option.some.inj hj
  subst hj
  have H := K4
  clear G4 K4
  refine vc tk 6 hF hW fun a w hF hW => ?_
  refine Ah ?_
  have H := Option.some.inj H
  subst H
  refine Aw (.inl rfl) hF hW rfl (Ag hF rfl) ?_
  have hW := hW.sub (M' := []) (Z' := [row v8 131 (Rp.int .u64) x8]) (List.nil_sublist _) (List.Sublist.refl _)
  exact ⟨(v8),rfl,hW⟩
theorem X8 : Has Tryz.prog 104 := Bj Tryz.func104
theorem Yi : Ty Tryz.prog 200 true 3 := ⟨by kernel_rfl,by kernel_rfl⟩
def Dg (p0 : Int) : Int := (if (Bp p0) = 9221120237041090561 then 0 else (if (Bp p0) = 18442240474082181120 then 1 else (if 9223372036854775808 < (Bp p0) then 2 else (if (Bp p0) = 9223372036854775808 then 3 else (if (Bp p0) = 0 then 4 else (if (Bp p0) < 9218868437227405312 then 5 else 6))))))
theorem Pb (Y : Nat → Prop) (w0 : World)  (p0 : Int) (r : Int) (H : Dg p0 = r)  :
    Calls Tryz.prog 181 #[.int .u64 p0] w0 fun e w' => e = .returned (.int .i64 r) ∧ Below w0.heap.size w0 w' := by
 refine enter Tryz.func181 rfl Tryz.ntmps181 rfl (fun a hF => ?_)
 have hW := Stw.start Y w0
 unfold Dg at H
 refine vc tk 8 hF hW fun a w hF hW => ?_
 refine ls hF hW rfl (Av (v := Value.int .u64 (Bp p0)) hF Y7 rfl (fun w hW => JO any w p0 _ rfl)) (fun a w hF hW => ?_)
 refine Bc tk 10 hF hW fun a w hF hW => ?_
 refine AG hF rfl H (fun hF H => ?_) (fun hF H => ?_)
 ·
  refine vc tk 5 hF hW fun a w hF hW => ?_
  refine Ah ?_
  refine Ak ?_
  subst H
  refine Aw (.inl rfl) hF hW rfl (Ag hF rfl) ?_
  exact ⟨rfl,hW.done⟩
 ·
  refine D2 tk 9 hF hW fun a w hF hW => ?_
  refine AG hF rfl H (fun hF H => ?_) (fun hF H => ?_)
  ·
   refine vc tk 5 hF hW fun a w hF hW => ?_
   refine Ah ?_
   refine Ak ?_
   subst H
   refine Aw (.inl rfl) hF hW rfl (Ag hF rfl) ?_
   exact ⟨rfl,hW.done⟩
  ·
   refine D2 tk 9 hF hW fun a w hF hW => ?_
   refine AG hF rfl H (fun hF H => ?_) (fun hF H => ?_)
   ·
    refine vc tk 5 hF hW fun a w hF hW => ?_
    refine Ah ?_
    refine Ak ?_
    subst H
    refine Aw (.inl rfl) hF hW rfl (Ag hF rfl) ?_
    exact ⟨rfl,hW.done⟩
   ·
    refine D2 tk 9 hF hW fun a w hF hW => ?_
    refine AG hF rfl H (fun hF H => ?_) (fun hF H => ?_)
    ·
     refine vc tk 5 hF hW fun a w hF hW => ?_
     refine Ah ?_
     refine Ak ?_
     subst H
     refine Aw (.inl rfl) hF hW rfl (Ag hF rfl) ?_
     exact ⟨rfl,hW.done⟩
    ·
     refine D2 tk 9 hF hW fun a w hF hW => ?_
     refine AG hF rfl H (fun hF H => ?_) (fun hF H => ?_)
     ·
      refine vc tk 5 hF hW fun a w hF hW => ?_
      refine Ah ?_
      refine Ak ?_
      subst H
      refine Aw (.inl rfl) hF hW rfl (Ag hF rfl) ?_
      exact ⟨rfl,hW.done⟩
     ·
      refine D2 tk 9 hF hW fun a w hF hW => ?_
      refine AG hF rfl H (fun hF H => ?_) (fun hF H => ?_)
      ·
       refine vc tk 5 hF hW fun a w hF hW => ?_
       refine Ah ?_
       refine Ak ?_
       subst H
       refine Aw (.inl rfl) hF hW rfl (Ag hF rfl) ?_
       exact ⟨rfl,hW.done⟩
      ·
       refine D2 tk 7 hF hW fun a w hF hW => ?_
       refine Ah ?_
       subst H
       refine Aw (.inl rfl) hF hW rfl (Ag hF rfl) ?_
       exact ⟨rfl,hW.done⟩
theorem ZY : Has Tryz.prog 181 := Bj Tryz.func181
def LI (p0 : List Int) (p1 : Int) : Option Bool := (if (decide (p1 < 0) || decide ((p0.length : Int) ≤ p1)) = true then some false else (ix p0 p1).bind fun x1 => some (decide (0 < (Dg x1)) && decide ((Dg x1) < 6)))
theorem TW (Y : Nat → Prop) (w0 : World) (v1 : Value) (p0 : List Int) (p1 : Int) (r : Bool) (H : LI p0 p1 = some r) (h_v1 : Sl w0 (NX []) (Rp.int .u64) v1 p0) :
    Calls Tryz.prog 146 #[v1,.int .i64 p1] w0 fun e w' => e = .returned (.bool r) ∧ Below w0.heap.size w0 w' := by
 refine enter Tryz.func146 rfl Tryz.ntmps146 rfl (fun a hF => ?_)
 have hW := Stw.start Y w0
 unfold LI at H
 refine vc tk 6 hF hW fun a w hF hW => ?_
 refine Aj (fun a w => Fr 25 [] [(0,v1),(1,.int .i64 p1),(4,.bool false),(13,.bool (decide (p1 < 0) || decide ((p0.length : Int) ≤ p1)))] a ∧ Stw ⟨Y,[],w0⟩ [] [] w) ?_ ?_
 ·
  refine vc tk 4 hF hW fun a w hF hW => ?_
  rcases bxq (decide (p1 < 0)) with hb0 | hb0
  ·
   rw [hb0] at hF
   refine vl tk 6 hF hW fun a w hF hW => ?_
   refine Aa ?_
   exact ⟨hF.re ⟨rfl,rfl,rfl,(Di (by try rw [hb0]; all_goals simp only [Dl])),trivial⟩,hW⟩
  ·
   rw [hb0] at hF
   refine vl tk 2 hF hW fun a w hF hW => ?_
   refine BC hF hW (Ac hF rfl rfl rfl rfl) rfl (ze rfl) ((AK (r := (Rp.int .u64)) (l := p0) Mq rfl hF rfl (Ab h_v1)).q) (fun a w hF hW => ?_)
   refine vl tk 3 hF hW fun a w hF hW => ?_
   refine Aa ?_
   exact ⟨hF.re ⟨rfl,rfl,rfl,(Di (by try rw [hb0]; all_goals simp only [Dl])),trivial⟩,hW⟩
 rintro a w ⟨hF,hW⟩
 refine BA hF rfl H (fun hF H => ?_) (fun hF H => ?_)
 ·
  refine vc tk 5 hF hW fun a w hF hW => ?_
  refine Ah ?_
  refine Ak ?_
  have H := Option.some.inj H
  subst H
  refine Aw (.inl rfl) hF hW rfl (Ag hF rfl) ?_
  exact ⟨rfl,hW.done⟩
 ·
  refine D2 tk 6 hF hW fun a w hF hW => ?_
  obtain ⟨x1,h1,H⟩ := Ad H
  refine ls hF hW rfl ((Ai (r := (Rp.int .u64)) PO hF rfl rfl (Ab h_v1) h1).q) (fun a w hF hW => ?_)
  refine ls hF hW rfl ((Af (y := Value.int .u64 x1) (j := 0) (i := p1) hF rfl rfl (Ab h_v1) h1 Fl.int.to KG rfl).q) (fun a w hF hW => ?_)
  refine ls hF hW rfl (Av (v := Value.int .i64 (Dg x1)) hF ZY rfl (fun w hW => Pb any w x1 _ rfl)) (fun a w hF hW => ?_)
  refine Bc tk 3 hF hW fun a w hF hW => ?_
  refine Aj (fun a w => Fr 25 [] [(4,.bool (decide (0 < (Dg x1)) && decide ((Dg x1) < 6)))] a ∧ Stw ⟨Y,[],w0⟩ [] [] w) ?_ ?_
  ·
   refine vc tk 4 hF hW fun a w hF hW => ?_
   rcases bxq (decide (0 < (Dg x1))) with hb0 | hb0
   ·
    rw [hb0] at hF
    refine vl tk 5 hF hW fun a w hF hW => ?_
    refine Aa ?_
    exact ⟨hF.re ⟨(Di (by try rw [hb0]; all_goals simp only [Dl])),trivial⟩,hW⟩
   ·
    rw [hb0] at hF
    refine vl tk 5 hF hW fun a w hF hW => ?_
    refine Aa ?_
    exact ⟨hF.re ⟨(Di (by try rw [hb0]; all_goals simp only [Dl])),trivial⟩,hW⟩
  rintro a w ⟨hF,hW⟩
  refine Ah ?_
  have H := Option.some.inj H
  subst H
  refine Aw (.inl rfl) hF hW rfl (Ag hF rfl) ?_
  exact ⟨rfl,hW.done⟩
theorem cJ : Has Tryz.prog 146 := Bj Tryz.func146
def FZ (p0 : List Int) (p1 : List Int) (p2 : Int) (p3 : Int × Int × Int) : Option Bool := ((ix p1 p2).bind fun x2 => (if x2 ≠ 9218868437227405312 then (LI p0 p3.2.2).bind fun x3 => (if x3 = true then (ix p0 p3.2.2).bind fun x4 => (ix p1 p3.2.1).bind fun x5 => (ix p1 p2).bind fun x6 => some (decide ((EM x4 x5) = x6)) else some false) else some false)).bind fun x1 => some x1
theorem KV (Y : Nat → Prop) (w0 : World) (v1 : Value) (v2 : Value) (p0 : List Int) (p1 : List Int) (p2 : Int) (p3 : Int × Int × Int) (r : Bool) (H : FZ p0 p1 p2 p3 = some r) (h_v1 : Sl w0 (NX []) (Rp.int .u64) v1 p0) (h_v2 : Sl w0 (NX []) (Rp.int .u64) v2 p1) :
    Calls Tryz.prog 107 #[v1,v2,.int .i64 p2,.agg #[.int .i64 p3.1,.int .i64 p3.2.1,.int .i64 p3.2.2]] w0 fun e w' => e = .returned (.bool r) ∧ Below w0.heap.size w0 w' := by
 refine enter Tryz.func107 rfl Tryz.ntmps107 rfl (fun a hF => ?_)
 have hW := Stw.start Y w0
 unfold FZ at H
 refine vc tk 2 hF hW fun a w hF hW => ?_
 refine Cv (cs := [.int .i64 p3.1,.int .i64 p3.2.1,.int .i64 p3.2.2]) hF hW rfl rfl rfl (fun b1 a w hF hW => ?_)
 refine vl tk 2 hF hW fun a w hF hW => ?_
 refine Aa ?_
 obtain ⟨o1,G1,K1⟩ := Ad H
 refine Aj (fun a w => ∃ x1 : Bool,some (x1) = some o1 ∧ Fr 38 [] [(8,.bool x1)] a ∧ Stw ⟨Y,[],w0⟩ [(b1,[.int .i64 p3.1,.int .i64 p3.2.1,.int .i64 p3.2.2])] [] w) ?_ ?_
 ·
  have H := G1
  clear G1 K1
  refine BV hW MO (by kernel_rfl) ?_
  iterate 2 refine qs hF rfl ((Al hF rfl).q) (fun a hF => ?_)
  obtain ⟨x2,h1,H⟩ := Ad H
  refine qs hF rfl ((Ai (r := (Rp.int .u64)) PO hF rfl rfl (Ab h_v2) h1).q) (fun a hF => ?_)
  refine qs hF rfl ((Af (y := Value.int .u64 x2) (j := 0) (i := p2) hF rfl rfl (Ab h_v2) h1 Fl.int.to KG rfl).q) (fun a hF => ?_)
  refine qs hF rfl ((KH hF rfl rfl).q) (fun a hF => ?_)
  refine qs hF rfl ((Al hF rfl).q) (fun a hF => ?_)
  rcases bxq (decide (x2 ≠ 9218868437227405312)) with hb | hb
  ·
   have H := BP (of_decide_eq_true hb) H
   rw [hb] at hF
   clear hb
   refine Bf hF (Ac hF rfl rfl rfl rfl) rfl (ze rfl) ((Al hF rfl).q) (fun a hF => ?_)
   refine Bf hF (Ac hF rfl rfl rfl rfl) rfl (ze rfl) ((Au Je rfl rfl rfl T3 hF rfl 2 rfl).q) (fun a hF => ?_)
   refine Bf hF (Ac hF rfl rfl rfl rfl) rfl (ze rfl) ((B5 (v := Value.int .i64 p3.2.2) 0 hF rfl rfl T3 rfl).q) (fun a hF => ?_)
   obtain ⟨x3,h2,H⟩ := Ad H
   refine Bf hF (Ac hF rfl rfl rfl rfl) rfl (ze rfl) (Av (v := Value.bool x3) hF cJ rfl (fun w hW => TW any w (v1) p0 p3.2.2 _ h2 (D3 (Ab h_v1) hW))) (fun a hF => ?_)
   refine qs hF rfl ((CE hF rfl rfl rfl).q) (fun a hF => ?_)
   refine qs hF rfl ((Al hF rfl).q) (fun a hF => ?_)
   rcases bxq x3 with hb | hb
   ·
    have H := BP hb H
    rw [hb] at hF
    clear hb
    refine Bf hF (Ac hF rfl rfl rfl rfl) rfl (ze rfl) ((Al hF rfl).q) (fun a hF => ?_)
    refine Bf hF (Ac hF rfl rfl rfl rfl) rfl (ze rfl) ((Au Je rfl rfl rfl T3 hF rfl 2 rfl).q) (fun a hF => ?_)
    refine Bf hF (Ac hF rfl rfl rfl rfl) rfl (ze rfl) ((B5 (v := Value.int .i64 p3.2.2) 0 hF rfl rfl T3 rfl).q) (fun a hF => ?_)
    obtain ⟨x4,h3,H⟩ := Ad H
    refine Bf hF (Ac hF rfl rfl rfl rfl) rfl (ze rfl) ((Ai (r := (Rp.int .u64)) PO hF rfl rfl (Ab h_v1) h3).q) (fun a hF => ?_)
    refine Bf hF (Ac hF rfl rfl rfl rfl) rfl (ze rfl) ((Af (y := Value.int .u64 x4) (j := 0) (i := p3.2.2) hF rfl rfl (Ab h_v1) h3 Fl.int.to KG rfl).q) (fun a hF => ?_)
    refine Bf hF (Ac hF rfl rfl rfl rfl) rfl (ze rfl) ((Al hF rfl).q) (fun a hF => ?_)
    refine Bf hF (Ac hF rfl rfl rfl rfl) rfl (ze rfl) ((Au Je rfl rfl rfl T3 hF rfl 1 rfl).q) (fun a hF => ?_)
    refine Bf hF (Ac hF rfl rfl rfl rfl) rfl (ze rfl) ((B5 (v := Value.int .i64 p3.2.1) 0 hF rfl rfl T3 rfl).q) (fun a hF => ?_)
    obtain ⟨x5,h4,H⟩ := Ad H
    refine Bf hF (Ac hF rfl rfl rfl rfl) rfl (ze rfl) ((Ai (r := (Rp.int .u64)) PO hF rfl rfl (Ab h_v2) h4).q) (fun a hF => ?_)
    refine Bf hF (Ac hF rfl rfl rfl rfl) rfl (ze rfl) ((Af (y := Value.int .u64 x5) (j := 0) (i := p3.2.1) hF rfl rfl (Ab h_v2) h4 Fl.int.to KG rfl).q) (fun a hF => ?_)
    refine Bf hF (Ac hF rfl rfl rfl rfl) rfl (ze rfl) (Av (v := Value.int .u64 (EM x4 x5)) hF Yg rfl (fun w hW => KM any w x4 x5 _ rfl)) (fun a hF => ?_)
    iterate 2 refine Bf hF (Ac hF rfl rfl rfl rfl) rfl (ze rfl) ((Al hF rfl).q) (fun a hF => ?_)
    obtain ⟨x6,h5,H⟩ := Ad H
    refine Bf hF (Ac hF rfl rfl rfl rfl) rfl (ze rfl) ((Ai (r := (Rp.int .u64)) PO hF rfl rfl (Ab h_v2) h5).q) (fun a hF => ?_)
    refine Bf hF (Ac hF rfl rfl rfl rfl) rfl (ze rfl) ((Af (y := Value.int .u64 x6) (j := 0) (i := p2) hF rfl rfl (Ab h_v2) h5 Fl.int.to KG rfl).q) (fun a hF => ?_)
    refine Bf hF (Ac hF rfl rfl rfl rfl) rfl (ze rfl) ((IR hF rfl rfl).q) (fun a hF => ?_)
    refine qs hF rfl ((CE hF rfl rfl rfl).q) (fun a hF => ?_)
    refine qs hF rfl ((BB hF rfl).q) (fun a hF => ?_)
    refine AX (fun w hW => ?_)
    refine Aa ?_
    exact ⟨_,H,hF.ra rfl,hW⟩
   ·
    have H := BQ (by rw [hb]; decide) H
    rw [hb] at hF
    clear hb
    iterate 16 refine DS hF (B4 hF rfl rfl rfl rfl rfl) rfl rfl (fun a hF => ?_)
    refine qs hF rfl ((Cy hF rfl rfl rfl).q) (fun a hF => ?_)
    refine qs hF rfl ((BB hF rfl).q) (fun a hF => ?_)
    refine AX (fun w hW => ?_)
    refine Aa ?_
    exact ⟨_,H,hF.ra rfl,hW⟩
  ·
   have H := BQ (of_decide_eq_false hb) H
   rw [hb] at hF
   clear hb
   iterate 4 refine DS hF (B4 hF rfl rfl rfl rfl rfl) rfl rfl (fun a hF => ?_)
   refine qs hF rfl ((Cy hF rfl rfl rfl).q) (fun a hF => ?_)
   refine qs hF rfl ((Al hF rfl).q) (fun a hF => ?_)
   iterate 16 refine DS hF (B4 hF rfl rfl rfl rfl rfl) rfl rfl (fun a hF => ?_)
   refine qs hF rfl ((Cy hF rfl rfl rfl).q) (fun a hF => ?_)
   refine qs hF rfl ((BB hF rfl).q) (fun a hF => ?_)
   refine AX (fun w hW => ?_)
   refine Aa ?_
   exact ⟨_,H,hF.ra rfl,hW⟩
 rintro a w ⟨x1,hj,hF,hW⟩
 have hj := Option.some.inj hj
 subst hj
 have H := K1
 clear G1 K1
 refine Ah ?_
 have H := Option.some.inj H
 subst H
 refine Aw (.inl rfl) hF hW rfl (Ag hF rfl) ?_
 exact ⟨rfl,hW.done⟩
end
end Go.Proofs.YtbiekjhlijdjbaaGreat
