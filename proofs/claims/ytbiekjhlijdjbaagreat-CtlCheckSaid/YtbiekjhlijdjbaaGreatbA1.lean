/- The functions of CtlCheck, Hu. Conditions: none. -/
import Derived.Test.YtbiekjhlijdjbaaGreatbA0
set_option linter.unusedVariables false
set_option linter.unusedSimpArgs false
open Go Go.RowKit
namespace Go.Proofs.YtbiekjhlijdjbaaGreat
noncomputable section
set_option maxRecDepth 20000
set_option maxHeartbeats 1600000
theorem bA : Has Tryz.prog 131 := Bj Tryz.func131
def DN (p0 : Int × (List (Int × Int × Int × Int × Int × Int)) × (List (Int × Int))) (p1 : Int) : ((List (Int × Int × Int)) × Int) → Option (((List (Int × Int × Int)) × Int) ⊕ (List (Int × Int × Int)))
  | (x2,x3) => (if x3 < (p0.2.1.length : Int) then ((ix p0.2.1 x3).bind fun x5 => (if p1 = x5.1 then (app x2 ([(x5.2.1,x5.2.2.1,x3)] : List (Int × Int × Int))).bind fun x6 => some x6 else (if p1 = x5.2.2.1 then (app x2 ([(x5.2.2.2.1,x5.1,x3)] : List (Int × Int × Int))).bind fun x7 => some x7 else some x2))).bind fun x4 => some (.inl (x4,w64 (x3 + 1))) else some (.inr x2))
def Dk (p0 : Int × (List (Int × Int × Int × Int × Int × Int)) × (List (Int × Int))) (p1 : Int) : Option (List (Int × Int × Int)) := (Am (DN p0 p1) ([],0)).bind fun x1 => (A2 x1).bind fun x8 => some x8
theorem FI (Y : Nat → Prop) (w0 : World) (v1 : Value) (v2 : Value) (p0 : Int × (List (Int × Int × Int × Int × Int × Int)) × (List (Int × Int))) (p1 : Int) (r : (List (Int × Int × Int))) (H : Dk p0 p1 = some r) (h_v1 : Sl w0 (NX []) B8 v1 p0.2.1) (h_v2 : Sl w0 (NX []) Cc v2 p0.2.2) :
    Calls Tryz.prog 95 #[.agg #[.int .i64 p0.1,v1,v2],.int .i64 p1] w0 fun e w' => ∃ x : Value,e = .returned (x) ∧ Stw ⟨Y,[],w0⟩ [] [row (x) 187 A7 r] w' := by
 refine enter Tryz.func95 rfl Tryz.ntmps95 rfl (fun a hF => ?_)
 have hW := Stw.start Y w0
 unfold Dk at H
 refine vc tk 2 hF hW fun a w hF hW => ?_
 refine Cv (cs := [.int .i64 p0.1,v1,v2]) hF hW rfl rfl rfl (fun b1 a w hF hW => ?_)
 refine Bc tk 8 hF hW fun a w hF hW => ?_
 obtain ⟨o1,G1,K1⟩ := Ad H
 refine Aj (fun a w => ∃ x1 : List (Int × Int × Int), ∃ v3 : Value,some (x1) = some o1 ∧ Fr 47 [] [(4,.slice none 0 0),(5,v3)] a ∧ Stw ⟨Y,[],w0⟩ [(b1,[.int .i64 p0.1,v1,v2])] [row v3 187 A7 x1] w) ?_ ?_
 ·
  have H := G1
  clear G1 K1
  refine D7 tk 4 [0] hF hW (ai fun a w hF hW => ?_)
  refine ls hF hW rfl ((AK (r := B8) (l := p0.2.1) JB rfl hF rfl (Ab h_v1)).q) (fun a w hF hW => ?_)
  refine Bc tk 4 hF hW fun a w hF hW => ?_
  have hW := hW.nilRow 187 A7
  refine AD H (fun s a w => ∃ v4 : Value,Fr 47 [] [(1,.int .i64 p1),(4,.slice none 0 0),(5,v4),(9,v1),(10,.int .i64 (p0.2.1.length : Int)),(11,.int .i64 s.2)] a ∧ Stw ⟨Y,[],w0⟩ [(b1,[.int .i64 p0.1,v1,v2])] [row v4 187 A7 s.1] w) ⟨(Value.slice none 0 0),hF.ra rfl,hW⟩ (fun s o a w H L2 hR => ?_)
  obtain ⟨x2,x3⟩ := s
  obtain ⟨v4,hF,hW⟩ := hR
  have hF : Fr 47 [] [(1,.int .i64 p1),(4,.slice none 0 0),(5,v4),(9,v1),(10,.int .i64 (p0.2.1.length : Int)),(11,.int .i64 x3)] a := hF
  have hW : Stw ⟨Y,[],w0⟩ [(b1,[.int .i64 p0.1,v1,v2])] [row v4 187 A7 x2] w := hW
  rw [DN] at H
  refine vc tk 6 hF hW fun a w hF hW => ?_
  refine AG hF rfl H (fun hF H => ?_) (fun hF H => ?_)
  ·
   refine Ay ?_
   refine Aa ?_
   obtain ⟨o3,G3,K3⟩ := Ad H
   refine Aj (fun a w => ∃ x4 : List (Int × Int × Int), ∃ v5 : Value,some (x4) = some o3 ∧ Fr 47 [] [(1,.int .i64 p1),(4,.slice none 0 0),(5,v5),(9,v1),(10,.int .i64 (p0.2.1.length : Int)),(11,.int .i64 x3)] a ∧ Stw ⟨Y,[],w0⟩ [(b1,[.int .i64 p0.1,v1,v2])] [row v5 187 A7 x4] w) ?_ ?_
   ·
    have H := G3
    clear G3 K3
    refine vc tk 4 hF hW fun a w hF hW => ?_
    obtain ⟨x5,h1,H⟩ := Ad H
    refine ls hF hW rfl ((Ai (r := B8) Wb hF rfl rfl (Ab h_v1) h1).q) (fun a w hF hW => ?_)
    refine ls hF hW rfl ((Af (y := Value.agg #[.int .i64 x5.1,.int .i64 x5.2.1,.int .i64 x5.2.2.1,.int .i64 x5.2.2.2.1,.int .i64 x5.2.2.2.2.1,.int .i64 x5.2.2.2.2.2]) (j := 0) (i := x3) hF rfl rfl (Ab h_v1) h1 Pf.to Lv rfl).q) (fun a w hF hW => ?_)
    refine Ck (cs := [.int .i64 0,.int .i64 0,.int .i64 0,.int .i64 0,.int .i64 0,.int .i64 0]) hF hW rfl Tn rfl (fun b2 a w hF hW => ?_)
    refine ls hF hW rfl ((BB hF rfl).q) (fun a w hF hW => ?_)
    refine Iw 0 hF hW rfl rfl rfl Lv rfl rfl rfl (fun w hW => ?_)
    refine E9 tk 16 [0] hF hW (ai fun a w hF hW => ?_)
    refine Dw hF rfl (fun hb => ?_) (fun hb => ?_)
    ·
     have H := BP (of_decide_eq_true hb) H
     rw [hb] at hF
     clear hb
     refine D7 tk 7 [0,0] hF hW (ai (ai fun a w hF hW => ?_))
     refine ls hF hW rfl ((DV (v := Value.agg #[.int .i64 x5.2.1,.int .i64 x5.2.2.1,.int .i64 x3]) Yd hF rfl rfl rfl).q) (fun a w hF hW => ?_)
     refine CK (z := Value.agg #[.int .i64 0,.int .i64 0,.int .i64 0]) (cs := [.int .i64 x5.2.1,.int .i64 x5.2.2.1,.int .i64 x3]) A7 ([(x5.2.1,x5.2.2.1,x3)] : List (Int × Int × Int)) hF hW rfl Jh RU rfl rfl rfl rfl rfl rfl (Kb.repL _ _ ([(x5.2.1,x5.2.2.1,x3)] : List (Int × Int × Int))) (fun v6 a w hF hW => ?_)
     obtain ⟨x6,h2,H⟩ := Ad H
     refine BF (r := A7) (i := 1) hF hW rfl Jh rfl rfl rfl rfl (BU hW 0 rfl) h2 rfl (fun v7 a w hF hW => ?_)
     have hW : Stw ⟨Y,[],w0⟩ [(b2,[.int .i64 x5.1,.int .i64 x5.2.1,.int .i64 x5.2.2.1,.int .i64 x5.2.2.2.1,.int .i64 x5.2.2.2.2.1,.int .i64 x5.2.2.2.2.2]),(b1,[.int .i64 p0.1,v1,v2])] [row v7 187 A7 x6,row v6 187 A7 ([(x5.2.1,x5.2.2.1,x3)] : List (Int × Int × Int))] w := hW
     refine vl tk 2 hF hW fun a w hF hW => ?_
     iterate 2 refine An ?_
     refine Aa ?_
     have hW := hW.frontM (i := 1) rfl rfl
     have hW := hW.sub (M' := [(b1,[.int .i64 p0.1,v1,v2])]) (Z' := [row v7 187 A7 x6]) (List.Sublist.cons_cons _ (List.nil_sublist _)) (List.Sublist.cons_cons _ (List.nil_sublist _))
     exact ⟨_,(v7),H,hF.ra rfl,hW⟩
    ·
     have H := BQ (of_decide_eq_false hb) H
     rw [hb] at hF
     clear hb
     refine D7 tk 8 [0] hF hW (ai fun a w hF hW => ?_)
     refine Dw hF rfl (fun hb => ?_) (fun hb => ?_)
     ·
      have H := BP (of_decide_eq_true hb) H
      rw [hb] at hF
      clear hb
      refine D7 tk 7 [0,0] hF hW (ai (ai fun a w hF hW => ?_))
      refine ls hF hW rfl ((DV (v := Value.agg #[.int .i64 x5.2.2.2.1,.int .i64 x5.1,.int .i64 x3]) Yd hF rfl rfl rfl).q) (fun a w hF hW => ?_)
      refine CK (z := Value.agg #[.int .i64 0,.int .i64 0,.int .i64 0]) (cs := [.int .i64 x5.2.2.2.1,.int .i64 x5.1,.int .i64 x3]) A7 ([(x5.2.2.2.1,x5.1,x3)] : List (Int × Int × Int)) hF hW rfl Jh RU rfl rfl rfl rfl rfl rfl (Kb.repL _ _ ([(x5.2.2.2.1,x5.1,x3)] : List (Int × Int × Int))) (fun v8 a w hF hW => ?_)
      obtain ⟨x7,h3,H⟩ := Ad H
      refine BF (r := A7) (i := 1) hF hW rfl Jh rfl rfl rfl rfl (BU hW 0 rfl) h3 rfl (fun v9 a w hF hW => ?_)
      have hW : Stw ⟨Y,[],w0⟩ [(b2,[.int .i64 x5.1,.int .i64 x5.2.1,.int .i64 x5.2.2.1,.int .i64 x5.2.2.2.1,.int .i64 x5.2.2.2.2.1,.int .i64 x5.2.2.2.2.2]),(b1,[.int .i64 p0.1,v1,v2])] [row v9 187 A7 x7,row v8 187 A7 ([(x5.2.2.2.1,x5.1,x3)] : List (Int × Int × Int))] w := hW
      refine vl tk 2 hF hW fun a w hF hW => ?_
      iterate 2 refine An ?_
      refine Aa ?_
      have hW := hW.frontM (i := 1) rfl rfl
      have hW := hW.sub (M' := [(b1,[.int .i64 p0.1,v1,v2])]) (Z' := [row v9 187 A7 x7]) (List.Sublist.cons_cons _ (List.nil_sublist _)) (List.Sublist.cons_cons _ (List.nil_sublist _))
      exact ⟨_,(v9),H,hF.ra rfl,hW⟩
     ·
      have H := BQ (of_decide_eq_false hb) H
      rw [hb] at hF
      clear hb
      refine Ay ?_
      iterate 2 refine An ?_
      refine Aa ?_
      have hW := hW.frontM (i := 1) rfl rfl
      have hW := hW.sub (M' := [(b1,[.int .i64 p0.1,v1,v2])]) (Z' := [row v4 187 A7 x2]) (List.Sublist.cons_cons _ (List.nil_sublist _)) (List.Sublist.refl _)
      exact ⟨_,(v4),H,hF.ra rfl,hW⟩
   rintro a w ⟨x4,v5,hj,hF,hW⟩
   have hj := Option.some.inj hj
   subst hj
   have H := K3
   clear G3 K3
   refine vc tk 4 hF hW fun a w hF hW => ?_
   refine Aa ?_
   exact ⟨_,H,(v5),hF.ra rfl,hW⟩
  ·
   refine AE ?_
   iterate 2 refine AQ ?_
   refine AF ?_
   refine Aa ?_
   have H := L2 _ H
   exact ⟨_,(v4),H,hF.ra rfl,hW⟩
 rintro a w ⟨x1,v3,hj,hF,hW⟩
 have hj := Option.some.inj hj
 subst hj
 have H := K1
 clear G1 K1
 refine vc tk 3 hF hW fun a w hF hW => ?_
 obtain ⟨x8,h4,H⟩ := Ad H
 refine A9 (Ml := []) (Zl := [row v3 187 A7 x1]) (β := Unit) (rv := fun x => .tuple #[]) (MM := fun x => []) (ZZ := fun x => [row v3 187 A7 x8]) hF hW bA rfl rfl (fun hL => DH _ _ w (v3) x1 _ h4 hL) (fun x a w hF hW => ?_)
 have hW : Stw ⟨Y,[],w0⟩ [(b1,[.int .i64 p0.1,v1,v2])] [row v3 187 A7 x8] w := hW
 refine Bc tk 8 hF hW fun a w hF hW => ?_
 refine Ah ?_
 have H := Option.some.inj H
 subst H
 refine Aw (.inl rfl) hF hW rfl (Ag hF rfl) ?_
 have hW := hW.sub (M' := []) (Z' := [row v3 187 A7 x8]) (List.nil_sublist _) (List.Sublist.refl _)
 exact ⟨(v3),rfl,hW⟩
theorem Zs : Has Tryz.prog 95 := Bj Tryz.func95
def CG (x7 : Int) (x9 : (List (Int × Int × Int))) : (List Int × List Int × Int) → Option ((List Int × List Int × Int) ⊕ ((List Int × List Int) ⊕ (List Int)))
  | (x10,x11,x12) => (if x12 < (x9.length : Int) then ((ix x9 x12).bind fun x15 => (ix x10 x15.2.1).bind fun x16 => (if x16 < 0 then (ix x10 x7).bind fun x17 => (ix x10 x15.2.1).bind fun x18 => (app x11 ([x15.2.1] : List Int)).bind fun x19 => some ((Ao x10 x15.2.1 (w64 (x17 + 1))),x19) else some (x10,x11))).bind fun (x13,x14) => some (.inl (x13,x14,w64 (x12 + 1))) else some (.inr (.inl (x10,x11))))
def C6 (p0 : Int × (List (Int × Int × Int × Int × Int × Int)) × (List (Int × Int))) : (List Int × List Int) → Option ((List Int × List Int) ⊕ (List Int))
  | (x5,x6) => (if 0 < (x6.length : Int) then (ix x6 0).bind fun x7 => (GF x6 1 (x6.length : Int)).bind fun x8 => (Dk p0 x7).bind fun x9 => Am (CG x7 x9) (x5,x8,0) else some (.inr x5))
def F5 (p0 : Int × (List (Int × Int × Int × Int × Int × Int)) × (List (Int × Int))) (p1 : Int) : Option (List Int) := (Eg p0).bind fun x1 => (if (!x1) = true then some ([] : List Int) else (Aq ([(-1)] : List Int) p0.1).bind fun x2 => (if (decide (p1 < 0) || decide (p0.1 ≤ p1)) = true then some x2 else (ix x2 p1).bind fun x3 => (Am (C6 p0) ((Ao x2 p1 0),([p1] : List Int))).bind fun x4 => some x4))
theorem O2 (Y : Nat → Prop) (w0 : World) (v1 : Value) (v2 : Value) (p0 : Int × (List (Int × Int × Int × Int × Int × Int)) × (List (Int × Int))) (p1 : Int) (r : List Int) (H : F5 p0 p1 = some r) (h_v1 : Sl w0 (NX []) B8 v1 p0.2.1) (h_v2 : Sl w0 (NX []) Cc v2 p0.2.2) :
    Calls Tryz.prog 55 #[.agg #[.int .i64 p0.1,v1,v2],.int .i64 p1] w0 fun e w' => ∃ x : Value,e = .returned (x) ∧ Stw ⟨Y,[],w0⟩ [] [row (x) 3 (Rp.int .i64) r] w' := by
 refine enter Tryz.func55 rfl Tryz.ntmps55 rfl (fun a hF => ?_)
 have hW := Stw.start Y w0
 unfold F5 at H
 refine vc tk 2 hF hW fun a w hF hW => ?_
 refine Cv (cs := [.int .i64 p0.1,v1,v2]) hF hW rfl rfl rfl (fun b1 a w hF hW => ?_)
 refine E9 tk 7 [0] hF hW (ai fun a w hF hW => ?_)
 obtain ⟨x1,h1,H⟩ := Ad H
 refine ls hF hW rfl (Av (v := Value.bool x1) hF ZX rfl (fun w hW => Gw any w (v1) (v2) p0 _ h1 (D3 (Ab h_v1) hW) (D3 (Ab h_v2) hW))) (fun a w hF hW => ?_)
 refine Bc tk 3 hF hW fun a w hF hW => ?_
 refine BA hF rfl H (fun hF H => ?_) (fun hF H => ?_)
 ·
  refine vc tk 5 hF hW fun a w hF hW => ?_
  refine Ah ?_
  refine Ak ?_
  have H := Option.some.inj H
  subst H
  refine Aw (.inl rfl) hF hW rfl (Ag hF rfl) ?_
  have hW := hW.nilRow 3 (Rp.int .i64)
  have hW := hW.sub (M' := []) (Z' := [row (Value.slice none 0 0) 3 (Rp.int .i64) ([])]) (List.nil_sublist _) (List.Sublist.refl _)
  exact ⟨(Value.slice none 0 0),rfl,hW⟩
 ·
  refine D2 tk 4 hF hW fun a w hF hW => ?_
  refine CK (z := Value.int .i64 0) (cs := [.int .i64 (-1)]) (Rp.int .i64) ([(-1)] : List Int) hF hW rfl Do Z3 rfl rfl rfl rfl rfl rfl (Fl.int.repL _ _ ([(-1)] : List Int)) (fun v3 a w hF hW => ?_)
  refine Eb tk 2 [0] hF hW (ai fun a w hF hW => ?_)
  obtain ⟨x2,h2,H⟩ := Ad H
  have hW := hW.freeze
  refine A9 (Ml := []) (Zl := []) (β := Value) (rv := fun x => x) (MM := fun x => []) (ZZ := fun x => [row x 3 (Rp.int .i64) x2]) hF hW eX rfl rfl (fun hL => Ek _ w (v3) ([(-1)] : List Int) p0.1 _ h2 (hW.item (i := 0) rfl)) (fun x a w hF hW => ?_)
  obtain ⟨v4,rfl⟩ : ∃ y,y = x := ⟨x,rfl⟩
  have hW : Stw ⟨Y,[],w0⟩ [(b1,[.int .i64 p0.1,v1,v2])] [row v4 3 (Rp.int .i64) x2,KB v3 (Rp.int .i64) ([(-1)] : List Int)] w := hW
  refine Bc tk 4 hF hW fun a w hF hW => ?_
  refine Aj (fun a w => Fr 69 [] [(1,.int .i64 p1),(2,.pointer (some ⟨b1,0,none⟩)),(4,.slice none 0 0),(5,v4),(24,.bool (decide (p1 < 0) || decide (p0.1 ≤ p1)))] a ∧ Stw ⟨Y,[],w0⟩ [(b1,[.int .i64 p0.1,v1,v2])] [row v4 3 (Rp.int .i64) x2,KB v3 (Rp.int .i64) ([(-1)] : List Int)] w) ?_ ?_
  ·
   refine vc tk 4 hF hW fun a w hF hW => ?_
   rcases bxq (decide (p1 < 0)) with hb0 | hb0
   ·
    rw [hb0] at hF
    refine vl tk 6 hF hW fun a w hF hW => ?_
    refine Aa ?_
    exact ⟨hF.re ⟨rfl,rfl,rfl,rfl,(Di (by try rw [hb0]; all_goals simp only [Dl])),trivial⟩,hW⟩
   ·
    rw [hb0] at hF
    refine Eb tk 6 [0] hF hW (ai fun a w hF hW => ?_)
    refine Aa ?_
    exact ⟨hF.re ⟨rfl,rfl,rfl,rfl,(Di (by try rw [hb0]; all_goals simp only [Dl])),trivial⟩,hW⟩
  rintro a w ⟨hF,hW⟩
  refine BA hF rfl H (fun hF H => ?_) (fun hF H => ?_)
  ·
   refine vc tk 6 hF hW fun a w hF hW => ?_
   refine Ah ?_
   refine Ak ?_
   have H := Option.some.inj H
   subst H
   refine Aw (.inl rfl) hF hW rfl (Ag hF rfl) ?_
   have hW := hW.sub (M' := []) (Z' := [row v4 3 (Rp.int .i64) x2]) (List.nil_sublist _) (List.Sublist.cons_cons _ (List.nil_sublist _))
   exact ⟨(v4),rfl,hW⟩
  ·
   refine D2 tk 6 hF hW fun a w hF hW => ?_
   obtain ⟨x3,h3,H⟩ := Ad H
   refine ls hF hW rfl ((Ai (r := (Rp.int .i64)) Do hF rfl rfl (Ae 0 rfl) h3).q) (fun a w hF hW => ?_)
   refine BE (i := p1) (j := 0) (vs := [.int .i64 0]) (x' := 0) hF hW rfl rfl rfl (k := 0) rfl rfl h3 T3 rfl rfl rfl rfl (fun A cs _ => Fl.int.sto (by rfl) _ _ _) (fun w hW => ?_)
   refine Bc tk 5 hF hW fun a w hF hW => ?_
   refine CK (z := Value.int .i64 0) (cs := [.int .i64 p1]) (Rp.int .i64) ([p1] : List Int) hF hW rfl Do Z3 rfl rfl rfl rfl rfl rfl (Fl.int.repL _ _ ([p1] : List Int)) (fun v5 a w hF hW => ?_)
   refine vl tk 2 hF hW fun a w hF hW => ?_
   refine Aa ?_
   obtain ⟨o1,G1,K1⟩ := Ad H
   refine Aj (fun a w => ∃ x4 : List Int,some (x4) = some o1 ∧ Fr 69 [] [(4,.slice none 0 0),(5,v4)] a ∧ Stw ⟨Y,[],w0⟩ [(b1,[.int .i64 p0.1,v1,v2])] [row v4 3 (Rp.int .i64) x4] w) ?_ ?_
   ·
    have H := G1
    clear G1 K1
    refine EI ?_
    have hW := hW.frontZ (i := 1) rfl rfl
    have hW := hW.sub (M' := [(b1,[.int .i64 p0.1,v1,v2])]) (Z' := [row v4 3 (Rp.int .i64) (Ao x2 p1 0),row v5 3 (Rp.int .i64) ([p1] : List Int)]) (List.Sublist.refl _) (List.Sublist.cons_cons _ (List.Sublist.cons_cons _ (List.nil_sublist _)))
    refine AD H (fun s a w => ∃ v6 : Value,Fr 69 [] [(2,.pointer (some ⟨b1,0,none⟩)),(4,.slice none 0 0),(5,v4),(6,v6)] a ∧ Stw ⟨Y,[],w0⟩ [(b1,[.int .i64 p0.1,v1,v2])] [row v4 3 (Rp.int .i64) s.1,row v6 3 (Rp.int .i64) s.2] w) ⟨(v5),hF.ra rfl,hW⟩ (fun s o a w H L2 hR => ?_)
    obtain ⟨x5,x6⟩ := s
    obtain ⟨v6,hF,hW⟩ := hR
    have hF : Fr 69 [] [(2,.pointer (some ⟨b1,0,none⟩)),(4,.slice none 0 0),(5,v4),(6,v6)] a := hF
    have hW : Stw ⟨Y,[],w0⟩ [(b1,[.int .i64 p0.1,v1,v2])] [row v4 3 (Rp.int .i64) x5,row v6 3 (Rp.int .i64) x6] w := hW
    rw [C6] at H
    refine vc tk 4 hF hW fun a w hF hW => ?_
    refine ls hF hW rfl ((AK (r := (Rp.int .i64)) (l := x6) GG rfl hF rfl (Ae 1 rfl)).q) (fun a w hF hW => ?_)
    refine Bc tk 3 hF hW fun a w hF hW => ?_
    refine AG hF rfl H (fun hF H => ?_) (fun hF H => ?_)
    ·
     refine D2 tk 6 hF hW fun a w hF hW => ?_
     obtain ⟨x7,h4,H⟩ := Ad H
     refine ls hF hW rfl ((Ai (r := (Rp.int .i64)) Do hF rfl rfl (Ae 1 rfl) h4).q) (fun a w hF hW => ?_)
     refine ls hF hW rfl ((Af (y := Value.int .i64 x7) (j := 0) (i := 0) hF rfl rfl (Ae 1 rfl) h4 Fl.int.to T3 rfl).q) (fun a w hF hW => ?_)
     refine Bc tk 6 hF hW fun a w hF hW => ?_
     obtain ⟨x8,h5,H⟩ := Ad H
     refine ls hF hW rfl ((GH (r := (Rp.int .i64)) Do hF rfl rfl rfl (Ae 1 rfl) h5).q) (fun a w hF hW => ?_)
     refine E9 tk 7 [0] hF hW (ai fun a w hF hW => ?_)
     obtain ⟨x9,h6,H⟩ := Ad H
     refine A9 (Ml := []) (Zl := []) (β := Value) (rv := fun x => x) (MM := fun x => []) (ZZ := fun x => [row x 187 A7 x9]) hF hW Zs rfl rfl (fun hL => FI _ w (v1) (v2) p0 x7 _ h6 ((Ab h_v1) w hW).nx ((Ab h_v2) w hW).nx) (fun x a w hF hW => ?_)
     obtain ⟨v7,rfl⟩ : ∃ y,y = x := ⟨x,rfl⟩
     have hW : Stw ⟨Y,[],w0⟩ [(b1,[.int .i64 p0.1,v1,v2])] [row v7 187 A7 x9,row v4 3 (Rp.int .i64) x5,row v6 3 (Rp.int .i64) x6] w := hW
     refine ls hF hW rfl ((AK (r := A7) (l := x9) MW rfl hF rfl (Ae 0 rfl)).q) (fun a w hF hW => ?_)
     refine Bc tk 4 hF hW fun a w hF hW => ?_
     have hW := hW.subRow (k := 2) rfl rfl h5
     have hW := hW.frontZ (i := 1) rfl rfl
     have hW := hW.frontZ (i := 1) rfl rfl
     have hW := hW.frontZ (i := 2) rfl rfl
     refine AD H (fun s a w => ∃ v8 : Value,Fr 69 [] [(2,.pointer (some ⟨b1,0,none⟩)),(4,.slice none 0 0),(5,v4),(6,v8),(7,.int .i64 x7),(41,v7),(42,.int .i64 (x9.length : Int)),(43,.int .i64 s.2.2)] a ∧ Stw ⟨Y,[],w0⟩ [(b1,[.int .i64 p0.1,v1,v2])] [row v4 3 (Rp.int .i64) s.1,row v8 3 (Rp.int .i64) s.2.1,row v7 187 A7 x9] w) ⟨((Ct v6 (1 : Int) (x6.length : Int) 1)),hF.ra rfl,hW⟩ (fun s o a w H L3 hR => ?_)
     obtain ⟨x10,x11,x12⟩ := s
     obtain ⟨v8,hF,hW⟩ := hR
     have hF : Fr 69 [] [(2,.pointer (some ⟨b1,0,none⟩)),(4,.slice none 0 0),(5,v4),(6,v8),(7,.int .i64 x7),(41,v7),(42,.int .i64 (x9.length : Int)),(43,.int .i64 x12)] a := hF
     have hW : Stw ⟨Y,[],w0⟩ [(b1,[.int .i64 p0.1,v1,v2])] [row v4 3 (Rp.int .i64) x10,row v8 3 (Rp.int .i64) x11,row v7 187 A7 x9] w := hW
     rw [CG] at H
     refine vc tk 6 hF hW fun a w hF hW => ?_
     refine AG hF rfl H (fun hF H => ?_) (fun hF H => ?_)
     ·
      refine Ay ?_
      refine Aa ?_
      obtain ⟨o4,G4,K4⟩ := Ad H
      refine Aj (fun a w => ∃ x13 : List Int, ∃ x14 : List Int, ∃ v9 : Value,some ((x13,x14)) = some o4 ∧ Fr 69 [] [(2,.pointer (some ⟨b1,0,none⟩)),(4,.slice none 0 0),(5,v4),(6,v9),(7,.int .i64 x7),(41,v7),(42,.int .i64 (x9.length : Int)),(43,.int .i64 x12)] a ∧ Stw ⟨Y,[],w0⟩ [(b1,[.int .i64 p0.1,v1,v2])] [row v4 3 (Rp.int .i64) x13,row v9 3 (Rp.int .i64) x14,row v7 187 A7 x9] w) ?_ ?_
      ·
       have H := G4
       clear G4 K4
       refine vc tk 3 hF hW fun a w hF hW => ?_
       obtain ⟨x15,h7,H⟩ := Ad H
       refine ls hF hW rfl ((Ai (r := A7) Jh hF rfl rfl (Ae 2 rfl) h7).q) (fun a w hF hW => ?_)
       refine ls hF hW rfl ((Af (y := Value.agg #[.int .i64 x15.1,.int .i64 x15.2.1,.int .i64 x15.2.2]) (j := 0) (i := x12) hF rfl rfl (Ae 2 rfl) h7 Kb.to I8 rfl).q) (fun a w hF hW => ?_)
       refine Ck (cs := [.int .i64 0,.int .i64 0,.int .i64 0]) hF hW rfl RU rfl (fun b2 a w hF hW => ?_)
       refine Iw 0 hF hW rfl rfl rfl I8 rfl rfl rfl (fun w hW => ?_)
       refine E9 tk 7 [0] hF hW (ai fun a w hF hW => ?_)
       obtain ⟨x16,h8,H⟩ := Ad H
       refine ls hF hW rfl ((Ai (r := (Rp.int .i64)) Do hF rfl rfl (Ae 0 rfl) h8).q) (fun a w hF hW => ?_)
       refine ls hF hW rfl ((Af (y := Value.int .i64 x16) (j := 0) (i := x15.2.1) hF rfl rfl (Ae 0 rfl) h8 Fl.int.to T3 rfl).q) (fun a w hF hW => ?_)
       refine Bc tk 3 hF hW fun a w hF hW => ?_
       refine AG hF rfl H (fun hF H => ?_) (fun hF H => ?_)
       ·
        refine Ly ?_
        refine Lc 9 hW MO (by kernel_rfl) ?_
        refine qs hF rfl ((Al hF rfl).q) (fun a hF => ?_)
        refine qs hF rfl ((Au IW rfl rfl rfl T3 hF rfl 1 rfl).q) (fun a hF => ?_)
        refine qs hF rfl ((B5 (v := Value.int .i64 x15.2.1) 0 hF rfl rfl T3 rfl).q) (fun a hF => ?_)
        iterate 2 refine qs hF rfl ((Al hF rfl).q) (fun a hF => ?_)
        obtain ⟨x17,h9,H⟩ := Ad H
        refine qs hF rfl ((Ai (r := (Rp.int .i64)) Do hF rfl rfl (Ae 0 rfl) h9).q) (fun a hF => ?_)
        refine qs hF rfl ((Af (y := Value.int .i64 x17) (j := 0) (i := x7) hF rfl rfl (Ae 0 rfl) h9 Fl.int.to T3 rfl).q) (fun a hF => ?_)
        refine qs hF rfl ((OV hF rfl rfl rfl).q) (fun a hF => ?_)
        obtain ⟨x18,h10,H⟩ := Ad H
        refine qs hF rfl ((Ai (r := (Rp.int .i64)) Do hF rfl rfl (Ae 0 rfl) h10).q) (fun a hF => ?_)
        refine AX (fun w hW => ?_)
        refine BE (i := x15.2.1) (j := 0) (vs := [.int .i64 (w64 (x17 + 1))]) (x' := w64 (x17 + 1)) hF hW rfl rfl rfl (k := 0) rfl rfl h10 T3 rfl rfl rfl rfl (fun A cs _ => Fl.int.sto (by rfl) _ _ _) (fun w hW => ?_)
        refine E9 tk 6 [0] hF hW (ai fun a w hF hW => ?_)
        refine CK (z := Value.int .i64 0) (cs := [.int .i64 x15.2.1]) (Rp.int .i64) ([x15.2.1] : List Int) hF hW rfl Do Z3 rfl rfl rfl rfl rfl rfl (Fl.int.repL _ _ ([x15.2.1] : List Int)) (fun v10 a w hF hW => ?_)
        obtain ⟨x19,h11,H⟩ := Ad H
        refine BF (r := (Rp.int .i64)) (i := 2) hF hW rfl Do rfl rfl rfl rfl (BU hW 0 rfl) h11 rfl (fun v11 a w hF hW => ?_)
        have hW : Stw ⟨Y,[],w0⟩ [(b2,[.int .i64 x15.1,.int .i64 x15.2.1,.int .i64 x15.2.2]),(b1,[.int .i64 p0.1,v1,v2])] [row v11 3 (Rp.int .i64) x19,row v10 3 (Rp.int .i64) ([x15.2.1] : List Int),row v4 3 (Rp.int .i64) (Ao x10 x15.2.1 (w64 (x17 + 1))),row v7 187 A7 x9] w := hW
        refine vl tk 2 hF hW fun a w hF hW => ?_
        refine An ?_
        refine Aa ?_
        have hW := hW.frontZ (i := 3) rfl rfl
        have hW := hW.frontZ (i := 1) rfl rfl
        have hW := hW.frontZ (i := 3) rfl rfl
        have hW := hW.frontM (i := 1) rfl rfl
        have hW := hW.sub (M' := [(b1,[.int .i64 p0.1,v1,v2])]) (Z' := [row v4 3 (Rp.int .i64) (Ao x10 x15.2.1 (w64 (x17 + 1))),row v11 3 (Rp.int .i64) x19,row v7 187 A7 x9]) (List.Sublist.cons_cons _ (List.nil_sublist _)) (List.Sublist.cons_cons _ (List.Sublist.cons_cons _ (List.Sublist.cons_cons _ (List.nil_sublist _))))
        exact ⟨_,_,(v11),H,hF.ra rfl,hW⟩
       ·
        refine Ay ?_
        refine An ?_
        refine Aa ?_
        have hW := hW.frontZ (i := 2) rfl rfl
        have hW := hW.frontZ (i := 2) rfl rfl
        have hW := hW.frontZ (i := 2) rfl rfl
        have hW := hW.frontM (i := 1) rfl rfl
        have hW := hW.sub (M' := [(b1,[.int .i64 p0.1,v1,v2])]) (Z' := [row v4 3 (Rp.int .i64) x10,row v8 3 (Rp.int .i64) x11,row v7 187 A7 x9]) (List.Sublist.cons_cons _ (List.nil_sublist _)) (List.Sublist.refl _)
        exact ⟨_,_,(v8),H,hF.ra rfl,hW⟩
      rintro a w ⟨x13,x14,v9,hj,hF,hW⟩
      have hj := Option.some.inj hj
      subst hj
      have H := K4
      clear G4 K4
      refine vc tk 4 hF hW fun a w hF hW => ?_
      refine Aa ?_
      have hW := hW.frontZ (i := 2) rfl rfl
      have hW := hW.frontZ (i := 2) rfl rfl
      have hW := hW.frontZ (i := 2) rfl rfl
      exact ⟨_,H,(v9),hF.ra rfl,hW⟩
     ·
      refine AE ?_
      iterate 2 refine AQ ?_
      refine AF ?_
      refine An ?_
      refine Aa ?_
      have hW := hW.frontZ (i := 1) rfl rfl
      have hW := hW.frontZ (i := 1) rfl rfl
      have hW := hW.sub (M' := [(b1,[.int .i64 p0.1,v1,v2])]) (Z' := [row v4 3 (Rp.int .i64) x10,row v8 3 (Rp.int .i64) x11]) (List.Sublist.refl _) (List.Sublist.cons_cons _ (List.Sublist.cons_cons _ (List.nil_sublist _)))
      have H := L3 _ H
      exact ⟨_,H,(v8),hF.ra rfl,hW⟩
    ·
     refine AE ?_
     iterate 2 refine AQ ?_
     refine AF ?_
     refine Aa ?_
     have hW := hW.sub (M' := [(b1,[.int .i64 p0.1,v1,v2])]) (Z' := [row v4 3 (Rp.int .i64) x5]) (List.Sublist.refl _) (List.Sublist.cons_cons _ (List.nil_sublist _))
     have H := L2 _ H
     exact ⟨_,H,hF.ra rfl,hW⟩
   rintro a w ⟨x4,hj,hF,hW⟩
   have hj := Option.some.inj hj
   subst hj
   have H := K1
   clear G1 K1
   refine vc tk 6 hF hW fun a w hF hW => ?_
   refine Ah ?_
   have H := Option.some.inj H
   subst H
   refine Aw (.inl rfl) hF hW rfl (Ag hF rfl) ?_
   have hW := hW.sub (M' := []) (Z' := [row v4 3 (Rp.int .i64) x4]) (List.nil_sublist _) (List.Sublist.refl _)
   exact ⟨(v4),rfl,hW⟩
theorem fZ : Has Tryz.prog 55 := Bj Tryz.func55
def BO (p0 : List Int) (p1 : Int) : Int → Option (Int ⊕ (Unit ⊕ Int))
  | x1 => (if x1 < (p0.length : Int) then (ix p0 x1).bind fun x2 => (if p1 = x2 then some (.inr (.inr x1)) else some (.inl (w64 (x1 + 1)))) else some (.inr (.inl ())))
def CF (p0 : List Int) (p1 : Int) : Option Int := GU (Am (BO p0 p1) 0) fun _ => some (-1)
theorem GC (Y : Nat → Prop) (w0 : World) (v1 : Value) (p0 : List Int) (p1 : Int) (r : Int) (H : CF p0 p1 = some r) (h_v1 : Sl w0 (NX []) (Rp.int .i64) v1 p0) :
    Calls Tryz.prog 96 #[v1,.int .i64 p1] w0 fun e w' => e = .returned (.int .i64 r) ∧ Below w0.heap.size w0 w' := by
 refine enter Tryz.func96 rfl Tryz.ntmps96 rfl (fun a hF => ?_)
 have hW := Stw.start Y w0
 unfold CF at H
 refine vc tk 5 hF hW fun a w hF hW => ?_
 obtain ⟨o1,G1,K1,L1⟩ := KC H
 refine Aj (fun a w => some (Sum.inl ()) = some o1 ∧ Fr 19 [] [(4,.int .i64 0)] a ∧ Stw ⟨Y,[],w0⟩ [] [] w) ?_ ?_
 ·
  have H := G1
  clear G1 K1
  refine vc tk 3 hF hW fun a w hF hW => ?_
  refine ls hF hW rfl ((AK (r := (Rp.int .i64)) (l := p0) GG rfl hF rfl (Ab h_v1)).q) (fun a w hF hW => ?_)
  refine Bc tk 4 hF hW fun a w hF hW => ?_
  refine AD H (fun s a w => Fr 19 [] [(0,v1),(1,.int .i64 p1),(4,.int .i64 0),(7,.int .i64 (p0.length : Int)),(8,.int .i64 s)] a ∧ Stw ⟨Y,[],w0⟩ [] [] w) ⟨hF.ra rfl,hW⟩ (fun s o a w H L2 hR => ?_)
  obtain ⟨x1,rfl⟩ : ∃ x,x = s := ⟨s,rfl⟩
  obtain ⟨hF,hW⟩ := hR
  have hF : Fr 19 [] [(0,v1),(1,.int .i64 p1),(4,.int .i64 0),(7,.int .i64 (p0.length : Int)),(8,.int .i64 x1)] a := hF
  have hW : Stw ⟨Y,[],w0⟩ [] [] w := hW
  rw [BO] at H
  refine vc tk 6 hF hW fun a w hF hW => ?_
  refine AG hF rfl H (fun hF H => ?_) (fun hF H => ?_)
  ·
   refine D2 tk 15 hF hW fun a w hF hW => ?_
   obtain ⟨x2,h1,H⟩ := Ad H
   refine ls hF hW rfl ((Ai (r := (Rp.int .i64)) Do hF rfl rfl (Ab h_v1) h1).q) (fun a w hF hW => ?_)
   refine ls hF hW rfl ((Af (y := Value.int .i64 x2) (j := 0) (i := x1) hF rfl rfl (Ab h_v1) h1 Fl.int.to T3 rfl).q) (fun a w hF hW => ?_)
   refine Bc tk 3 hF hW fun a w hF hW => ?_
   refine AG hF rfl H (fun hF H => ?_) (fun hF H => ?_)
   ·
    refine vc tk 6 hF hW fun a w hF hW => ?_
    refine Ah ?_
    refine Az ?_
    iterate 2 refine Ak ?_
    refine Az ?_
    refine Ak ?_
    have H := L2 _ H
    have H := L1 _ H
    have H := Option.some.inj H
    subst H
    refine Aw (.inl rfl) hF hW rfl (Ag hF rfl) ?_
    exact ⟨rfl,hW.done⟩
   ·
    refine Ay ?_
    refine An ?_
    refine vn tk 4 hF hW fun a w hF hW => ?_
    refine Aa ?_
    exact ⟨_,H,hF.ra rfl,hW⟩
  ·
   refine AE ?_
   iterate 2 refine AQ ?_
   refine AF ?_
   refine Aa ?_
   have H := L2 _ H
   exact ⟨H,hF.ra rfl,hW⟩
 rintro a w ⟨hj,hF,hW⟩
 have H := K1 _ hj
 clear hj G1 K1 L1
 refine vc tk 5 hF hW fun a w hF hW => ?_
 refine Ah ?_
 have H := Option.some.inj H
 subst H
 refine Aw (.inl rfl) hF hW rfl (Ag hF rfl) ?_
 exact ⟨rfl,hW.done⟩
theorem fX : Has Tryz.prog 96 := Bj Tryz.func96
def BN (p0 : List Int) (p1 : Int) : Option Bool := (CF p0 p1).bind fun x1 => some (decide (0 ≤ x1))
theorem FH (Y : Nat → Prop) (w0 : World) (v1 : Value) (p0 : List Int) (p1 : Int) (r : Bool) (H : BN p0 p1 = some r) (h_v1 : Sl w0 (NX []) (Rp.int .i64) v1 p0) :
    Calls Tryz.prog 56 #[v1,.int .i64 p1] w0 fun e w' => e = .returned (.bool r) ∧ Below w0.heap.size w0 w' := by
 refine enter Tryz.func56 rfl Tryz.ntmps56 rfl (fun a hF => ?_)
 have hW := Stw.start Y w0
 unfold BN at H
 refine vc tk 9 hF hW fun a w hF hW => ?_
 obtain ⟨x1,h1,H⟩ := Ad H
 refine ls hF hW rfl (Av (v := Value.int .i64 x1) hF fX rfl (fun w hW => GC any w (v1) p0 p1 _ h1 (D3 (Ab h_v1) hW))) (fun a w hF hW => ?_)
 refine Bc tk 4 hF hW fun a w hF hW => ?_
 refine Ah ?_
 have H := Option.some.inj H
 subst H
 refine Aw (.inl rfl) hF hW rfl (Ag hF rfl) ?_
 exact ⟨rfl,hW.done⟩
theorem iI : Has Tryz.prog 56 := Bj Tryz.func56
def Ft (p0 : Int × (List (Int × Int × Int × Int × Int × Int)) × (List (Int × Int))) : Option Bool := (F5 p0 0).bind fun x1 => (if 0 < (x1.length : Int) then (BN x1 (-1)).bind fun x3 => some (!x3) else some false).bind fun x2 => some x2
theorem NR (Y : Nat → Prop) (w0 : World) (v1 : Value) (v2 : Value) (p0 : Int × (List (Int × Int × Int × Int × Int × Int)) × (List (Int × Int))) (r : Bool) (H : Ft p0 = some r) (h_v1 : Sl w0 (NX []) B8 v1 p0.2.1) (h_v2 : Sl w0 (NX []) Cc v2 p0.2.2) :
    Calls Tryz.prog 22 #[.agg #[.int .i64 p0.1,v1,v2]] w0 fun e w' => e = .returned (.bool r) ∧ Below w0.heap.size w0 w' := by
 refine enter Tryz.func22 rfl Tryz.ntmps22 rfl (fun a hF => ?_)
 have hW := Stw.start Y w0
 unfold Ft at H
 refine vc tk 2 hF hW fun a w hF hW => ?_
 refine Cv (cs := [.int .i64 p0.1,v1,v2]) hF hW rfl rfl rfl (fun b1 a w hF hW => ?_)
 refine E9 tk 6 [0] hF hW (ai fun a w hF hW => ?_)
 obtain ⟨x1,h1,H⟩ := Ad H
 refine A9 (Ml := []) (Zl := []) (β := Value) (rv := fun x => x) (MM := fun x => []) (ZZ := fun x => [row x 3 (Rp.int .i64) x1]) hF hW fZ rfl rfl (fun hL => O2 _ w (v1) (v2) p0 0 _ h1 ((Ab h_v1) w hW).nx ((Ab h_v2) w hW).nx) (fun x a w hF hW => ?_)
 obtain ⟨v3,rfl⟩ : ∃ y,y = x := ⟨x,rfl⟩
 have hW : Stw ⟨Y,[],w0⟩ [(b1,[.int .i64 p0.1,v1,v2])] [row v3 3 (Rp.int .i64) x1] w := hW
 refine vl tk 2 hF hW fun a w hF hW => ?_
 refine Aa ?_
 obtain ⟨o1,G1,K1⟩ := Ad H
 refine Aj (fun a w => ∃ x2 : Bool,some (x2) = some o1 ∧ Fr 14 [] [(2,.bool x2)] a ∧ Stw ⟨Y,[],w0⟩ [(b1,[.int .i64 p0.1,v1,v2])] [] w) ?_ ?_
 ·
  have H := G1
  clear G1 K1
  refine vc tk 2 hF hW fun a w hF hW => ?_
  refine ls hF hW rfl ((AK (r := (Rp.int .i64)) (l := x1) GG rfl hF rfl (Ae 0 rfl)).q) (fun a w hF hW => ?_)
  refine vl tk 2 hF hW fun a w hF hW => ?_
  rcases bxq (decide (0 < (x1.length : Int))) with hb | hb
  ·
   have H := BP (of_decide_eq_true hb) H
   rw [hb] at hF
   clear hb
   refine BC hF hW (Ac hF rfl rfl rfl rfl) rfl (ze rfl) ((Al hF rfl).q) (fun a w hF hW => ?_)
   refine Fq (Ac hF rfl rfl rfl rfl) ?_
   obtain ⟨x3,h2,H⟩ := Ad H
   refine ls hF hW rfl (Av (v := Value.bool x3) hF iI rfl (fun w hW => FH any w (v3) x1 (-1) _ h2 (D3 (Ae 0 rfl) hW))) (fun a w hF hW => ?_)
   refine vl tk 4 hF hW fun a w hF hW => ?_
   refine Aa ?_
   have hW := hW.sub (M' := [(b1,[.int .i64 p0.1,v1,v2])]) (Z' := []) (List.Sublist.refl _) (List.nil_sublist _)
   exact ⟨_,H,hF.ra rfl,hW⟩
  ·
   have H := BQ (of_decide_eq_false hb) H
   rw [hb] at hF
   clear hb
   refine vl tk 6 hF hW fun a w hF hW => ?_
   refine Aa ?_
   have hW := hW.sub (M' := [(b1,[.int .i64 p0.1,v1,v2])]) (Z' := []) (List.Sublist.refl _) (List.nil_sublist _)
   exact ⟨_,H,hF.ra rfl,hW⟩
 rintro a w ⟨x2,hj,hF,hW⟩
 have hj := Option.some.inj hj
 subst hj
 have H := K1
 clear G1 K1
 refine Ah ?_
 have H := Option.some.inj H
 subst H
 refine Aw (.inl rfl) hF hW rfl (Ag hF rfl) ?_
 exact ⟨rfl,hW.done⟩
theorem f7 : Has Tryz.prog 22 := Bj Tryz.func22
def AM (p0 : Int) (p1 : Int) (p2 : Int) : Bool := (decide (p1 ≤ p0) && decide (p0 ≤ p2))
theorem CD (Y : Nat → Prop) (w0 : World)  (p0 : Int) (p1 : Int) (p2 : Int) (r : Bool) (H : AM p0 p1 p2 = r)  :
    Calls Tryz.prog 23 #[.int .i64 p0,.int .i64 p1,.int .i64 p2] w0 fun e w' => e = .returned (.bool r) ∧ Below w0.heap.size w0 w' := by
 refine enter Tryz.func23 rfl Tryz.ntmps23 rfl (fun a hF => ?_)
 have hW := Stw.start Y w0
 unfold AM at H
 refine vc tk 5 hF hW fun a w hF hW => ?_
 refine Aj (fun a w => Fr 15 [] [(6,.bool (decide (p1 ≤ p0) && decide (p0 ≤ p2)))] a ∧ Stw ⟨Y,[],w0⟩ [] [] w) ?_ ?_
 ·
  refine vc tk 5 hF hW fun a w hF hW => ?_
  rcases bxq (decide (p1 ≤ p0)) with hb0 | hb0
  ·
   rw [hb0] at hF
   refine vl tk 6 hF hW fun a w hF hW => ?_
   refine Aa ?_
   exact ⟨hF.re ⟨(Di (by try rw [hb0]; all_goals simp only [Dl])),trivial⟩,hW⟩
  ·
   rw [hb0] at hF
   refine vl tk 6 hF hW fun a w hF hW => ?_
   refine Aa ?_
   exact ⟨hF.re ⟨(Di (by try rw [hb0]; all_goals simp only [Dl])),trivial⟩,hW⟩
 rintro a w ⟨hF,hW⟩
 refine Ah ?_
 subst H
 refine Aw (.inl rfl) hF hW rfl (Ag hF rfl) ?_
 exact ⟨rfl,hW.done⟩
theorem VX : Has Tryz.prog 23 := Bj Tryz.func23
def Cg (p0 : (Int × (List (Int × Int × Int × Int × Int × Int)) × (List (Int × Int))) × List (List Int) × List Int × Int × Int × Int × Int × Int × Int) : Int → Option (Int ⊕ (Unit ⊕ Bool))
  | x1 => (if x1 < (p0.2.2.1.length : Int) then (ix p0.2.2.1 x1).bind fun x2 => (if (!(AM x2 (-1048576) 1048576)) = true then some (.inr (.inr false)) else some (.inl (w64 (x1 + 1)))) else some (.inr (.inl ())))
def CR (p0 : (Int × (List (Int × Int × Int × Int × Int × Int)) × (List (Int × Int))) × List (List Int) × List Int × Int × Int × Int × Int × Int × Int) : Option Bool := GU (Am (Cg p0) 0) fun _ => some (decide ((p0.2.2.1.length : Int) = p0.1.1) && ((AM p0.2.2.2.1 0 500) && ((AM p0.2.2.2.2.1 (p0.1.2.2.length : Int) 64) && ((AM p0.2.2.2.2.2.1 0 65536) && ((AM p0.2.2.2.2.2.2.1 0 65536) && ((AM p0.2.2.2.2.2.2.2.1 0 65536) && (AM p0.2.2.2.2.2.2.2.2 1 65536)))))))
theorem Iv (Y : Nat → Prop) (w0 : World) (v1 : Value) (v2 : Value) (v3 : Value) (v4 : Value) (p0 : (Int × (List (Int × Int × Int × Int × Int × Int)) × (List (Int × Int))) × List (List Int) × List Int × Int × Int × Int × Int × Int × Int) (r : Bool) (H : CR p0 = some r) (h_v1 : Sl w0 (NX []) B8 v1 p0.1.2.1) (h_v2 : Sl w0 (NX []) Cc v2 p0.1.2.2) (h_v3 : Sl w0 (NX []) (Rp.slice (Rp.int .u64)) v3 p0.2.1) (h_v4 : Sl w0 (NX []) (Rp.int .i64) v4 p0.2.2.1) :
    Calls Tryz.prog 24 #[.agg #[.int .i64 p0.1.1,v1,v2,v3,v4,.int .i64 p0.2.2.2.1,.int .i64 p0.2.2.2.2.1,.int .i64 p0.2.2.2.2.2.1,.int .i64 p0.2.2.2.2.2.2.1,.int .i64 p0.2.2.2.2.2.2.2.1,.int .i64 p0.2.2.2.2.2.2.2.2]] w0 fun e w' => e = .returned (.bool r) ∧ Below w0.heap.size w0 w' := by
 refine enter Tryz.func24 rfl Tryz.ntmps24 rfl (fun a hF => ?_)
 have hW := Stw.start Y w0
 obtain ⟨v5,h1,h_v3⟩ := h_v3.ex HW
 unfold CR at H
 refine vc tk 2 hF hW fun a w hF hW => ?_
 refine Cv (cs := [.int .i64 p0.1.1,v1,v2,v3,v4,.int .i64 p0.2.2.2.1,.int .i64 p0.2.2.2.2.1,.int .i64 p0.2.2.2.2.2.1,.int .i64 p0.2.2.2.2.2.2.1,.int .i64 p0.2.2.2.2.2.2.2.1,.int .i64 p0.2.2.2.2.2.2.2.2]) hF hW rfl rfl rfl (fun b1 a w hF hW => ?_)
 refine vl tk 2 hF hW fun a w hF hW => ?_
 refine Aa ?_
 obtain ⟨o1,G1,K1,L1⟩ := KC H
 refine Aj (fun a w => some (Sum.inl ()) = some o1 ∧ Fr 57 [] [(1,.pointer (some ⟨b1,0,none⟩)),(2,.bool false)] a ∧ Stw ⟨Y,[],w0⟩ [(b1,[.int .i64 p0.1.1,v1,v2,v3,v4,.int .i64 p0.2.2.2.1,.int .i64 p0.2.2.2.2.1,.int .i64 p0.2.2.2.2.2.1,.int .i64 p0.2.2.2.2.2.2.1,.int .i64 p0.2.2.2.2.2.2.2.1,.int .i64 p0.2.2.2.2.2.2.2.2])] [] w) ?_ ?_
 ·
  have H := G1
  clear G1 K1
  refine D7 tk 4 [0] hF hW (ai fun a w hF hW => ?_)
  refine ls hF hW rfl ((AK (r := (Rp.int .i64)) (l := p0.2.2.1) GG rfl hF rfl (Ab h_v4)).q) (fun a w hF hW => ?_)
  refine Bc tk 4 hF hW fun a w hF hW => ?_
  refine AD H (fun s a w => Fr 57 [] [(1,.pointer (some ⟨b1,0,none⟩)),(2,.bool false),(6,v4),(7,.int .i64 (p0.2.2.1.length : Int)),(8,.int .i64 s)] a ∧ Stw ⟨Y,[],w0⟩ [(b1,[.int .i64 p0.1.1,v1,v2,v3,v4,.int .i64 p0.2.2.2.1,.int .i64 p0.2.2.2.2.1,.int .i64 p0.2.2.2.2.2.1,.int .i64 p0.2.2.2.2.2.2.1,.int .i64 p0.2.2.2.2.2.2.2.1,.int .i64 p0.2.2.2.2.2.2.2.2])] [] w) ⟨hF.ra rfl,hW⟩ (fun s o a w H L2 hR => ?_)
  obtain ⟨x1,rfl⟩ : ∃ x,x = s := ⟨s,rfl⟩
  obtain ⟨hF,hW⟩ := hR
  have hF : Fr 57 [] [(1,.pointer (some ⟨b1,0,none⟩)),(2,.bool false),(6,v4),(7,.int .i64 (p0.2.2.1.length : Int)),(8,.int .i64 x1)] a := hF
  have hW : Stw ⟨Y,[],w0⟩ [(b1,[.int .i64 p0.1.1,v1,v2,v3,v4,.int .i64 p0.2.2.2.1,.int .i64 p0.2.2.2.2.1,.int .i64 p0.2.2.2.2.2.1,.int .i64 p0.2.2.2.2.2.2.1,.int .i64 p0.2.2.2.2.2.2.2.1,.int .i64 p0.2.2.2.2.2.2.2.2])] [] w := hW
  rw [Cg] at H
  refine vc tk 6 hF hW fun a w hF hW => ?_
  refine AG hF rfl H (fun hF H => ?_) (fun hF H => ?_)
  ·
   refine D2 tk 6 hF hW fun a w hF hW => ?_
   obtain ⟨x2,h2,H⟩ := Ad H
   refine ls hF hW rfl ((Ai (r := (Rp.int .i64)) Do hF rfl rfl (Ab h_v4) h2).q) (fun a w hF hW => ?_)
   refine ls hF hW rfl ((Af (y := Value.int .i64 x2) (j := 0) (i := x1) hF rfl rfl (Ab h_v4) h2 Fl.int.to T3 rfl).q) (fun a w hF hW => ?_)
   refine Bc tk 6 hF hW fun a w hF hW => ?_
   refine ls hF hW rfl (Av (v := Value.bool (AM x2 (-1048576) 1048576)) hF VX rfl (fun w hW => CD any w x2 (-1048576) 1048576 _ rfl)) (fun a w hF hW => ?_)
   refine Bc tk 3 hF hW fun a w hF hW => ?_
   refine BA hF rfl H (fun hF H => ?_) (fun hF H => ?_)
   ·
    refine vc tk 5 hF hW fun a w hF hW => ?_
    refine Ah ?_
    refine Az ?_
    iterate 2 refine Ak ?_
    refine Az ?_
    refine Ak ?_
    have H := L2 _ H
    have H := L1 _ H
    have H := Option.some.inj H
    subst H
    refine Aw (.inl rfl) hF hW rfl (Ag hF rfl) ?_
    exact ⟨rfl,hW.done⟩
   ·
    refine Ay ?_
    refine An ?_
    refine vn tk 4 hF hW fun a w hF hW => ?_
    refine Aa ?_
    exact ⟨_,H,hF.ra rfl,hW⟩
  ·
   refine AE ?_
   iterate 2 refine AQ ?_
   refine AF ?_
   refine Aa ?_
   have H := L2 _ H
   exact ⟨H,hF.ra rfl,hW⟩
 rintro a w ⟨hj,hF,hW⟩
 have H := K1 _ hj
 clear hj G1 K1 L1
 refine Aj (fun a w => Fr 57 [] [(2,.bool (decide ((p0.2.2.1.length : Int) = p0.1.1) && ((AM p0.2.2.2.1 0 500) && ((AM p0.2.2.2.2.1 (p0.1.2.2.length : Int) 64) && ((AM p0.2.2.2.2.2.1 0 65536) && ((AM p0.2.2.2.2.2.2.1 0 65536) && ((AM p0.2.2.2.2.2.2.2.1 0 65536) && (AM p0.2.2.2.2.2.2.2.2 1 65536))))))))] a ∧ Stw ⟨Y,[],w0⟩ [(b1,[.int .i64 p0.1.1,v1,v2,v3,v4,.int .i64 p0.2.2.2.1,.int .i64 p0.2.2.2.2.1,.int .i64 p0.2.2.2.2.2.1,.int .i64 p0.2.2.2.2.2.2.1,.int .i64 p0.2.2.2.2.2.2.2.1,.int .i64 p0.2.2.2.2.2.2.2.2])] [] w) ?_ ?_
 ·
  refine D7 tk 3 [0] hF hW (ai fun a w hF hW => ?_)
  refine ls hF hW rfl ((AK (r := (Rp.int .i64)) (l := p0.2.2.1) GG rfl hF rfl (Ab h_v4)).q) (fun a w hF hW => ?_)
  refine Eb tk 5 [0] hF hW (ai fun a w hF hW => ?_)
  rcases bxq (decide ((p0.2.2.1.length : Int) = p0.1.1)) with hb0 | hb0
  ·
   rw [hb0] at hF
   refine Eb tk 2 [0] hF hW (ai fun a w hF hW => ?_)
   refine Fq (Ac hF rfl rfl rfl rfl) ?_
   refine ls hF hW rfl (Av (v := Value.bool (AM p0.2.2.2.1 0 500)) hF VX rfl (fun w hW => CD any w p0.2.2.2.1 0 500 _ rfl)) (fun a w hF hW => ?_)
   refine vl tk 2 hF hW fun a w hF hW => ?_
   rcases bxq (AM p0.2.2.2.1 0 500) with hb1 | hb1
   ·
    rw [hb1] at hF
    refine Eb tk 5 [0,0] hF hW (ai (ai fun a w hF hW => ?_))
    refine BC hF hW (Ac hF rfl rfl rfl rfl) rfl (ze rfl) ((AK (r := Cc) (l := p0.1.2.2) JG rfl hF rfl (Ab h_v2)).q) (fun a w hF hW => ?_)
    refine Fq (Ac hF rfl rfl rfl rfl) ?_
    refine ls hF hW rfl (Av (v := Value.bool (AM p0.2.2.2.2.1 (p0.1.2.2.length : Int) 64)) hF VX rfl (fun w hW => CD any w p0.2.2.2.2.1 (p0.1.2.2.length : Int) 64 _ rfl)) (fun a w hF hW => ?_)
    refine vl tk 2 hF hW fun a w hF hW => ?_
    rcases bxq (AM p0.2.2.2.2.1 (p0.1.2.2.length : Int) 64) with hb2 | hb2
    ·
     rw [hb2] at hF
     refine Eb tk 2 [0] hF hW (ai fun a w hF hW => ?_)
     refine Fq (Ac hF rfl rfl rfl rfl) ?_
     refine ls hF hW rfl (Av (v := Value.bool (AM p0.2.2.2.2.2.1 0 65536)) hF VX rfl (fun w hW => CD any w p0.2.2.2.2.2.1 0 65536 _ rfl)) (fun a w hF hW => ?_)
     refine vl tk 2 hF hW fun a w hF hW => ?_
     rcases bxq (AM p0.2.2.2.2.2.1 0 65536) with hb3 | hb3
     ·
      rw [hb3] at hF
      refine Eb tk 2 [0] hF hW (ai fun a w hF hW => ?_)
      refine Fq (Ac hF rfl rfl rfl rfl) ?_
      refine ls hF hW rfl (Av (v := Value.bool (AM p0.2.2.2.2.2.2.1 0 65536)) hF VX rfl (fun w hW => CD any w p0.2.2.2.2.2.2.1 0 65536 _ rfl)) (fun a w hF hW => ?_)
      refine vl tk 2 hF hW fun a w hF hW => ?_
      rcases bxq (AM p0.2.2.2.2.2.2.1 0 65536) with hb4 | hb4
      ·
       rw [hb4] at hF
       refine Eb tk 2 [0] hF hW (ai fun a w hF hW => ?_)
       refine Fq (Ac hF rfl rfl rfl rfl) ?_
       refine ls hF hW rfl (Av (v := Value.bool (AM p0.2.2.2.2.2.2.2.1 0 65536)) hF VX rfl (fun w hW => CD any w p0.2.2.2.2.2.2.2.1 0 65536 _ rfl)) (fun a w hF hW => ?_)
       refine vl tk 2 hF hW fun a w hF hW => ?_
       rcases bxq (AM p0.2.2.2.2.2.2.2.1 0 65536) with hb5 | hb5
       ·
        rw [hb5] at hF
        refine Eb tk 2 [0] hF hW (ai fun a w hF hW => ?_)
        refine Fq (Ac hF rfl rfl rfl rfl) ?_
        refine ls hF hW rfl (Av (v := Value.bool (AM p0.2.2.2.2.2.2.2.2 1 65536)) hF VX rfl (fun w hW => CD any w p0.2.2.2.2.2.2.2.2 1 65536 _ rfl)) (fun a w hF hW => ?_)
        refine vl tk 3 hF hW fun a w hF hW => ?_
        refine Aa ?_
        exact ⟨hF.re ⟨(Di (by try rw [hb2]; try rw [hb0]; try rw [hb5]; try rw [hb4]; try rw [hb3]; try rw [hb1]; all_goals simp only [Dl])),trivial⟩,hW⟩
       ·
        rw [hb5] at hF
        refine vl tk 6 hF hW fun a w hF hW => ?_
        refine Aa ?_
        exact ⟨hF.re ⟨(Di (by try rw [hb2]; try rw [hb0]; try rw [hb5]; try rw [hb4]; try rw [hb3]; try rw [hb1]; all_goals simp only [Dl])),trivial⟩,hW⟩
      ·
       rw [hb4] at hF
       refine vl tk 11 hF hW fun a w hF hW => ?_
       refine Aa ?_
       exact ⟨hF.re ⟨(Di (by try rw [hb2]; try rw [hb0]; try rw [hb4]; try rw [hb3]; try rw [hb1]; all_goals simp only [Dl])),trivial⟩,hW⟩
     ·
      rw [hb3] at hF
      refine vl tk 16 hF hW fun a w hF hW => ?_
      refine Aa ?_
      exact ⟨hF.re ⟨(Di (by try rw [hb2]; try rw [hb0]; try rw [hb3]; try rw [hb1]; all_goals simp only [Dl])),trivial⟩,hW⟩
    ·
     rw [hb2] at hF
     refine vl tk 21 hF hW fun a w hF hW => ?_
     refine Aa ?_
     exact ⟨hF.re ⟨(Di (by try rw [hb2]; try rw [hb0]; try rw [hb1]; all_goals simp only [Dl])),trivial⟩,hW⟩
   ·
    rw [hb1] at hF
    refine vl tk 30 hF hW fun a w hF hW => ?_
    refine Aa ?_
    exact ⟨hF.re ⟨(Di (by try rw [hb0]; try rw [hb1]; all_goals simp only [Dl])),trivial⟩,hW⟩
  ·
   rw [hb0] at hF
   refine vl tk 35 hF hW fun a w hF hW => ?_
   refine Aa ?_
   exact ⟨hF.re ⟨(Di (by try rw [hb0]; all_goals simp only [Dl])),trivial⟩,hW⟩
 rintro a w ⟨hF,hW⟩
 refine Ah ?_
 have H := Option.some.inj H
 subst H
 refine Aw (.inl rfl) hF hW rfl (Ag hF rfl) ?_
 exact ⟨rfl,hW.done⟩
theorem iB : Has Tryz.prog 24 := Bj Tryz.func24
theorem PO : Et Tryz.prog 69 131 1 8 := Et.of Mq (by kernel_rfl) (by kernel_rfl) (by kernel_rfl) (by decide)
theorem KG : Ty Tryz.prog 131 false 1 := ⟨by kernel_rfl,by kernel_rfl⟩
theorem R1 : Wx Tryz.prog 102 Extern.MathFloatBits.float64frombits := fun args w => run_callFunc_extern Tryz.func102 (by kernel_rfl) (by kernel_rfl) (by kernel_rfl) (by kernel_rfl) args w
def Ca (p0 : Nat) : Bool := (!(Ni p0 p0))
theorem Jp (Y : Nat → Prop) (w0 : World)  (p0 : Nat) (r : Bool) (H : Ca p0 = r)  :
    Calls Tryz.prog 142 #[.float .f64 p0] w0 fun e w' => e = .returned (.bool r) ∧ Below w0.heap.size w0 w' := by
 refine enter Tryz.func142 rfl Tryz.ntmps142 rfl (fun a hF => ?_)
 have hW := Stw.start Y w0
 unfold Ca at H
 refine vc tk 9 hF hW fun a w hF hW => ?_
 refine ls hF hW rfl ((SR hF rfl rfl).q) (fun a w hF hW => ?_)
 refine Bc tk 3 hF hW fun a w hF hW => ?_
 refine Ah ?_
 subst H
 refine Aw (.inl rfl) hF hW rfl (Ag hF rfl) ?_
 exact ⟨rfl,hW.done⟩
theorem Y4 : Has Tryz.prog 142 := Bj Tryz.func142
def Bv (p0 : Nat) : Nat := (if (Ca p0) = true then 9221120237041090561 else p0)
theorem Ia (Y : Nat → Prop) (w0 : World)  (p0 : Nat) (r : Nat) (H : Bv p0 = r)  :
    Calls Tryz.prog 101 #[.float .f64 p0] w0 fun e w' => e = .returned (.float .f64 r) ∧ Below w0.heap.size w0 w' := by
 refine enter Tryz.func101 rfl Tryz.ntmps101 rfl (fun a hF => ?_)
 have hW := Stw.start Y w0
 unfold Bv at H
 refine vc tk 9 hF hW fun a w hF hW => ?_
 refine ls hF hW rfl (Av (v := Value.bool (Ca p0)) hF Y4 rfl (fun w hW => Jp any w p0 _ rfl)) (fun a w hF hW => ?_)
 refine Bc tk 2 hF hW fun a w hF hW => ?_
 refine BA hF rfl H (fun hF H => ?_) (fun hF H => ?_)
 ·
  refine vc tk 2 hF hW fun a w hF hW => ?_
  refine ls hF hW rfl ((Hm (v := Value.float .f64 9221120237041090561) hF R1 rfl (fun w => rfl)).q) (fun a w hF hW => ?_)
  refine Bc tk 3 hF hW fun a w hF hW => ?_
  refine Ah ?_
  refine Ak ?_
  subst H
  refine Aw (.inl rfl) hF hW rfl (Ag hF rfl) ?_
  exact ⟨rfl,hW.done⟩
 ·
  refine D2 tk 8 hF hW fun a w hF hW => ?_
  refine Ah ?_
  subst H
  refine Aw (.inl rfl) hF hW rfl (Ag hF rfl) ?_
  exact ⟨rfl,hW.done⟩
theorem Zp : Has Tryz.prog 101 := Bj Tryz.func101
def DB (p0 : Int) : Nat := (Bv (Int.toNat p0))
theorem P7 (Y : Nat → Prop) (w0 : World)  (p0 : Int) (r : Nat) (H : DB p0 = r)  :
    Calls Tryz.prog 59 #[.int .u64 p0] w0 fun e w' => e = .returned (.float .f64 r) ∧ Below w0.heap.size w0 w' := by
 refine enter Tryz.func59 rfl Tryz.ntmps59 rfl (fun a hF => ?_)
 have hW := Stw.start Y w0
 unfold DB at H
 refine vc tk 8 hF hW fun a w hF hW => ?_
 refine ls hF hW rfl ((Hm (v := Value.float .f64 (Int.toNat p0)) hF R1 rfl (fun w => rfl)).q) (fun a w hF hW => ?_)
 refine ls hF hW rfl (Av (v := Value.float .f64 (Bv (Int.toNat p0))) hF Zp rfl (fun w hW => Ia any w (Int.toNat p0) _ rfl)) (fun a w hF hW => ?_)
 refine Bc tk 3 hF hW fun a w hF hW => ?_
 refine Ah ?_
 subst H
 refine Aw (.inl rfl) hF hW rfl (Ag hF rfl) ?_
 exact ⟨rfl,hW.done⟩
theorem Pe : type_of% Tryz.underlying89 := Tryz.underlying89
theorem iE : Has Tryz.prog 59 := Bj Tryz.func59
theorem Ti : (Tryz.prog.info? 147).bind (·.zero) = some (.float .f64 0) := by kernel_rfl
theorem LC : Et Tryz.prog 89 147 1 8 := Et.of Pe (by kernel_rfl) (by kernel_rfl) (by kernel_rfl) (by decide)
def E7 (p0 : List Int) : (List Nat × Int) → Option ((List Nat × Int) ⊕ (List Nat))
  | (x2,x3) => (if x3 < (p0.length : Int) then (ix p0 x3).bind fun x4 => (app x2 ([(DB x4)] : List Nat)).bind fun x5 => some (.inl (x5,w64 (x3 + 1))) else some (.inr x2))
def Hx (p0 : List Int) : Option (List Nat) := (Am (E7 p0) ([],0)).bind fun x1 => some x1
theorem PA (Y : Nat → Prop) (w0 : World) (v1 : Value) (p0 : List Int) (r : List Nat) (H : Hx p0 = some r) (h_v1 : Sl w0 (NX []) (Rp.int .u64) v1 p0) :
    Calls Tryz.prog 26 #[v1] w0 fun e w' => ∃ x : Value,e = .returned (x) ∧ Stw ⟨Y,[],w0⟩ [] [row (x) 147 (Rp.flt .f64) r] w' := by
 refine enter Tryz.func26 rfl Tryz.ntmps26 rfl (fun a hF => ?_)
 have hW := Stw.start Y w0
 unfold Hx at H
 refine vc tk 10 hF hW fun a w hF hW => ?_
 obtain ⟨o1,G1,K1⟩ := Ad H
 refine Aj (fun a w => ∃ x1 : List Nat, ∃ v2 : Value,some (x1) = some o1 ∧ Fr 19 [] [(2,.slice none 0 0),(3,v2)] a ∧ Stw ⟨Y,[],w0⟩ [] [row v2 147 (Rp.flt .f64) x1] w) ?_ ?_
 ·
  have H := G1
  clear G1 K1
  refine vc tk 3 hF hW fun a w hF hW => ?_
  refine ls hF hW rfl ((AK (r := (Rp.int .u64)) (l := p0) Mq rfl hF rfl (Ab h_v1)).q) (fun a w hF hW => ?_)
  refine Bc tk 4 hF hW fun a w hF hW => ?_
  have hW := hW.nilRow 147 (Rp.flt .f64)
  refine AD H (fun s a w => ∃ v3 : Value,Fr 19 [] [(2,.slice none 0 0),(3,v3),(6,v1),(7,.int .i64 (p0.length : Int)),(8,.int .i64 s.2)] a ∧ Stw ⟨Y,[],w0⟩ [] [row v3 147 (Rp.flt .f64) s.1] w) ⟨(Value.slice none 0 0),hF.ra rfl,hW⟩ (fun s o a w H L2 hR => ?_)
  obtain ⟨x2,x3⟩ := s
  obtain ⟨v3,hF,hW⟩ := hR
  have hF : Fr 19 [] [(2,.slice none 0 0),(3,v3),(6,v1),(7,.int .i64 (p0.length : Int)),(8,.int .i64 x3)] a := hF
  have hW : Stw ⟨Y,[],w0⟩ [] [row v3 147 (Rp.flt .f64) x2] w := hW
  rw [E7] at H
  refine vc tk 6 hF hW fun a w hF hW => ?_
  refine AG hF rfl H (fun hF H => ?_) (fun hF H => ?_)
  ·
   refine D2 tk 6 hF hW fun a w hF hW => ?_
   obtain ⟨x4,h1,H⟩ := Ad H
   refine ls hF hW rfl ((Ai (r := (Rp.int .u64)) PO hF rfl rfl (Ab h_v1) h1).q) (fun a w hF hW => ?_)
   refine ls hF hW rfl ((Af (y := Value.int .u64 x4) (j := 0) (i := x3) hF rfl rfl (Ab h_v1) h1 Fl.int.to KG rfl).q) (fun a w hF hW => ?_)
   refine Bc tk 6 hF hW fun a w hF hW => ?_
   refine ls hF hW rfl (Av (v := Value.float .f64 (DB x4)) hF iE rfl (fun w hW => P7 any w x4 _ rfl)) (fun a w hF hW => ?_)
   refine CK (z := Value.float .f64 0) (cs := [.float .f64 (DB x4)]) (Rp.flt .f64) ([(DB x4)] : List Nat) hF hW rfl LC Ti rfl rfl rfl rfl rfl rfl (Fl.flt.repL _ _ ([(DB x4)] : List Nat)) (fun v4 a w hF hW => ?_)
   obtain ⟨x5,h2,H⟩ := Ad H
   refine BF (r := (Rp.flt .f64)) (i := 1) hF hW rfl LC rfl rfl rfl rfl (BU hW 0 rfl) h2 rfl (fun v5 a w hF hW => ?_)
   have hW : Stw ⟨Y,[],w0⟩ [] [row v5 147 (Rp.flt .f64) x5,row v4 147 (Rp.flt .f64) ([(DB x4)] : List Nat)] w := hW
   refine vl tk 2 hF hW fun a w hF hW => ?_
   refine An ?_
   refine vn tk 4 hF hW fun a w hF hW => ?_
   refine Aa ?_
   have hW := hW.sub (M' := []) (Z' := [row v5 147 (Rp.flt .f64) x5]) (List.Sublist.refl _) (List.Sublist.cons_cons _ (List.nil_sublist _))
   exact ⟨_,H,(v5),hF.ra rfl,hW⟩
  ·
   refine AE ?_
   iterate 2 refine AQ ?_
   refine AF ?_
   refine Aa ?_
   have H := L2 _ H
   exact ⟨_,(v3),H,hF.ra rfl,hW⟩
 rintro a w ⟨x1,v2,hj,hF,hW⟩
 have hj := Option.some.inj hj
 subst hj
 have H := K1
 clear G1 K1
 refine vc tk 6 hF hW fun a w hF hW => ?_
 refine Ah ?_
 have H := Option.some.inj H
 subst H
 refine Aw (.inl rfl) hF hW rfl (Ag hF rfl) ?_
 exact ⟨(v2),rfl,hW⟩
theorem iJ : Has Tryz.prog 26 := Bj Tryz.func26
theorem JF : Ty Tryz.prog 147 false 1 := ⟨by kernel_rfl,by kernel_rfl⟩
def CY (p0 : Nat) : Bool := (SF p0 0 || Ni p0 0)
theorem NE (Y : Nat → Prop) (w0 : World)  (p0 : Nat) (r : Bool) (H : CY p0 = r)  :
    Calls Tryz.prog 134 #[.float .f64 p0] w0 fun e w' => e = .returned (.bool r) ∧ Below w0.heap.size w0 w' := by
 refine enter Tryz.func134 rfl Tryz.ntmps134 rfl (fun a hF => ?_)
 have hW := Stw.start Y w0
 unfold CY at H
 refine vc tk 8 hF hW fun a w hF hW => ?_
 refine ls hF hW rfl ((T6 hF rfl rfl).q) (fun a w hF hW => ?_)
 refine Bc tk 3 hF hW fun a w hF hW => ?_
 refine Ah ?_
 subst H
 refine Aw (.inl rfl) hF hW rfl (Ag hF rfl) ?_
 exact ⟨rfl,hW.done⟩
theorem bW : Has Tryz.prog 134 := Bj Tryz.func134
def DA (p0 : List Nat) : Int → Option (Int ⊕ (Unit ⊕ Bool))
  | x1 => (if x1 < (p0.length : Int) then (ix p0 x1).bind fun x2 => (if (!(CY x2)) = true then some (.inr (.inr false)) else some (.inl (w64 (x1 + 1)))) else some (.inr (.inl ())))
def E2 (p0 : List Nat) (p1 : Int) : Option Bool := (if (p0.length : Int) ≠ p1 then some false else GU (Am (DA p0) 0) fun _ => some true)
theorem LX (Y : Nat → Prop) (w0 : World) (v1 : Value) (p0 : List Nat) (p1 : Int) (r : Bool) (H : E2 p0 p1 = some r) (h_v1 : Sl w0 (NX []) (Rp.flt .f64) v1 p0) :
    Calls Tryz.prog 97 #[v1,.int .i64 p1] w0 fun e w' => e = .returned (.bool r) ∧ Below w0.heap.size w0 w' := by
 refine enter Tryz.func97 rfl Tryz.ntmps97 rfl (fun a hF => ?_)
 have hW := Stw.start Y w0
 unfold E2 at H
 refine vc tk 9 hF hW fun a w hF hW => ?_
 refine ls hF hW rfl ((AK (r := (Rp.flt .f64)) (l := p0) Pe rfl hF rfl (Ab h_v1)).q) (fun a w hF hW => ?_)
 refine Bc tk 4 hF hW fun a w hF hW => ?_
 refine AG hF rfl H (fun hF H => ?_) (fun hF H => ?_)
 ·
  refine vc tk 5 hF hW fun a w hF hW => ?_
  refine Ah ?_
  refine Ak ?_
  have H := Option.some.inj H
  subst H
  refine Aw (.inl rfl) hF hW rfl (Ag hF rfl) ?_
  exact ⟨rfl,hW.done⟩
 ·
  refine Ay ?_
  refine Aa ?_
  obtain ⟨o1,G1,K1,L1⟩ := KC H
  refine Aj (fun a w => some (Sum.inl ()) = some o1 ∧ Fr 21 [] [(4,.bool false)] a ∧ Stw ⟨Y,[],w0⟩ [] [] w) ?_ ?_
  ·
   have H := G1
   clear G1 K1
   refine vc tk 3 hF hW fun a w hF hW => ?_
   refine ls hF hW rfl ((AK (r := (Rp.flt .f64)) (l := p0) Pe rfl hF rfl (Ab h_v1)).q) (fun a w hF hW => ?_)
   refine Bc tk 4 hF hW fun a w hF hW => ?_
   refine AD H (fun s a w => Fr 21 [] [(4,.bool false),(11,v1),(12,.int .i64 (p0.length : Int)),(13,.int .i64 s)] a ∧ Stw ⟨Y,[],w0⟩ [] [] w) ⟨hF.ra rfl,hW⟩ (fun s o a w H L2 hR => ?_)
   obtain ⟨x1,rfl⟩ : ∃ x,x = s := ⟨s,rfl⟩
   obtain ⟨hF,hW⟩ := hR
   have hF : Fr 21 [] [(4,.bool false),(11,v1),(12,.int .i64 (p0.length : Int)),(13,.int .i64 x1)] a := hF
   have hW : Stw ⟨Y,[],w0⟩ [] [] w := hW
   rw [DA] at H
   refine vc tk 6 hF hW fun a w hF hW => ?_
   refine AG hF rfl H (fun hF H => ?_) (fun hF H => ?_)
   ·
    refine D2 tk 6 hF hW fun a w hF hW => ?_
    obtain ⟨x2,h1,H⟩ := Ad H
    refine ls hF hW rfl ((Ai (r := (Rp.flt .f64)) LC hF rfl rfl (Ab h_v1) h1).q) (fun a w hF hW => ?_)
    refine ls hF hW rfl ((Af (y := Value.float .f64 x2) (j := 0) (i := x1) hF rfl rfl (Ab h_v1) h1 Fl.flt.to JF rfl).q) (fun a w hF hW => ?_)
    refine Bc tk 6 hF hW fun a w hF hW => ?_
    refine ls hF hW rfl (Av (v := Value.bool (CY x2)) hF bW rfl (fun w hW => NE any w x2 _ rfl)) (fun a w hF hW => ?_)
    refine Bc tk 3 hF hW fun a w hF hW => ?_
    refine BA hF rfl H (fun hF H => ?_) (fun hF H => ?_)
    ·
     refine vc tk 5 hF hW fun a w hF hW => ?_
     refine Ah ?_
     refine Az ?_
     iterate 2 refine Ak ?_
     refine Az ?_
     refine Ak ?_
     have H := L2 _ H
     have H := L1 _ H
     have H := Option.some.inj H
     subst H
     refine Aw (.inl rfl) hF hW rfl (Ag hF rfl) ?_
     exact ⟨rfl,hW.done⟩
    ·
     refine Ay ?_
     refine An ?_
     refine vn tk 4 hF hW fun a w hF hW => ?_
     refine Aa ?_
     exact ⟨_,H,hF.ra rfl,hW⟩
   ·
    refine AE ?_
    iterate 2 refine AQ ?_
    refine AF ?_
    refine Aa ?_
    have H := L2 _ H
    exact ⟨H,hF.ra rfl,hW⟩
  rintro a w ⟨hj,hF,hW⟩
  have H := K1 _ hj
  clear hj G1 K1 L1
  refine vc tk 5 hF hW fun a w hF hW => ?_
  refine Ah ?_
  have H := Option.some.inj H
  subst H
  refine Aw (.inl rfl) hF hW rfl (Ag hF rfl) ?_
  exact ⟨rfl,hW.done⟩
theorem gE : Has Tryz.prog 97 := Bj Tryz.func97
def Dv (p0 : Int × (List (Int × Int × Int × Int × Int × Int)) × (List (Int × Int))) (p1 : List Nat) : Option Bool := ((Eg p0).bind fun x2 => (if x2 = true then (E2 p1 (p0.2.1.length : Int)).bind fun x3 => some x3 else some false)).bind fun x1 => some x1
theorem FQ (Y : Nat → Prop) (w0 : World) (v1 : Value) (v2 : Value) (v3 : Value) (p0 : Int × (List (Int × Int × Int × Int × Int × Int)) × (List (Int × Int))) (p1 : List Nat) (r : Bool) (H : Dv p0 p1 = some r) (h_v1 : Sl w0 (NX []) B8 v1 p0.2.1) (h_v2 : Sl w0 (NX []) Cc v2 p0.2.2) (h_v3 : Sl w0 (NX []) (Rp.flt .f64) v3 p1) :
    Calls Tryz.prog 57 #[.agg #[.int .i64 p0.1,v1,v2],v3] w0 fun e w' => e = .returned (.bool r) ∧ Below w0.heap.size w0 w' := by
 refine enter Tryz.func57 rfl Tryz.ntmps57 rfl (fun a hF => ?_)
 have hW := Stw.start Y w0
 unfold Dv at H
 refine vc tk 2 hF hW fun a w hF hW => ?_
 refine Cv (cs := [.int .i64 p0.1,v1,v2]) hF hW rfl rfl rfl (fun b1 a w hF hW => ?_)
 refine vl tk 2 hF hW fun a w hF hW => ?_
 refine Aa ?_
 obtain ⟨o1,G1,K1⟩ := Ad H
 refine Aj (fun a w => ∃ x1 : Bool,some (x1) = some o1 ∧ Fr 14 [] [(4,.bool x1)] a ∧ Stw ⟨Y,[],w0⟩ [(b1,[.int .i64 p0.1,v1,v2])] [] w) ?_ ?_
 ·
  have H := G1
  clear G1 K1
  refine D7 tk 2 [0] hF hW (ai fun a w hF hW => ?_)
  obtain ⟨x2,h1,H⟩ := Ad H
  refine ls hF hW rfl (Av (v := Value.bool x2) hF ZX rfl (fun w hW => Gw any w (v1) (v2) p0 _ h1 (D3 (Ab h_v1) hW) (D3 (Ab h_v2) hW))) (fun a w hF hW => ?_)
  refine ls hF hW rfl ((Al hF rfl).q) (fun a w hF hW => ?_)
  rcases bxq x2 with hb | hb
  ·
   have H := BP hb H
   rw [hb] at hF
   clear hb
   refine Eb tk 3 [0] hF hW (ai fun a w hF hW => ?_)
   refine BC hF hW (Ac hF rfl rfl rfl rfl) rfl (ze rfl) ((AK (r := B8) (l := p0.2.1) JB rfl hF rfl (Ab h_v1)).q) (fun a w hF hW => ?_)
   refine Fq (Ac hF rfl rfl rfl rfl) ?_
   obtain ⟨x3,h2,H⟩ := Ad H
   refine ls hF hW rfl (Av (v := Value.bool x3) hF gE rfl (fun w hW => LX any w (v3) p1 (p0.2.1.length : Int) _ h2 (D3 (Ab h_v3) hW))) (fun a w hF hW => ?_)
   refine vl tk 3 hF hW fun a w hF hW => ?_
   refine Aa ?_
   exact ⟨_,H,hF.ra rfl,hW⟩
  ·
   have H := BQ (by rw [hb]; decide) H
   rw [hb] at hF
   clear hb
   refine vl tk 8 hF hW fun a w hF hW => ?_
   refine Aa ?_
   exact ⟨_,H,hF.ra rfl,hW⟩
 rintro a w ⟨x1,hj,hF,hW⟩
 have hj := Option.some.inj hj
 subst hj
 have H := K1
 clear G1 K1
 refine Ah ?_
 have H := Option.some.inj H
 subst H
 refine Aw (.inl rfl) hF hW rfl (Ag hF rfl) ?_
 exact ⟨rfl,hW.done⟩
theorem UJ : type_of% Tryz.underlying39 := Tryz.underlying39
theorem ZU : Has Tryz.prog 57 := Bj Tryz.func57
abbrev Ez : Dp (Value × Nat × List Int) := (Dp.sl 3 (Rp.int .i64))
abbrev Fy (p : Value × Nat × List Int) : Nat × List Int := p.2
abbrev Vs : (Nat × List Int) → Option (List Int) := Zy
theorem bE : Rst Ez (Rp.slice (Rp.int .i64)) Fy Vs := Rst.sl
theorem Uv : Et Tryz.prog 39 27 1 24 := Et.of UJ (by kernel_rfl) (by kernel_rfl) (by kernel_rfl) (by decide)
theorem eH : (Tryz.prog.info? 27).bind (·.zero) = some (.slice none 0 0) := by kernel_rfl
def EK (p0 : Int) : Option Nat := (if 0 ≤ p0 then some 9218868437227405312 else some 18442240474082181120).bind fun x1 => some (Int.toNat x1)
theorem Gv (Y : Nat → Prop) (w0 : World)  (p0 : Int) (r : Nat) (H : EK p0 = some r)  :
    Calls Tryz.prog 136 #[.int .i64 p0] w0 fun e w' => e = .returned (.float .f64 r) ∧ Below w0.heap.size w0 w' := by
 refine enter Tryz.func136 rfl Tryz.ntmps136 rfl (fun a hF => ?_)
 have hW := Stw.start Y w0
 unfold EK at H
 refine vc tk 10 hF hW fun a w hF hW => ?_
 obtain ⟨o1,G1,K1⟩ := Ad H
 refine Aj (fun a w => ∃ x1 : Int,some (x1) = some o1 ∧ Fr 8 [] [(2,.float .f64 0),(3,.int .u64 x1)] a ∧ Stw ⟨Y,[],w0⟩ [] [] w) ?_ ?_
 ·
  have H := G1
  clear G1 K1
  refine vc tk 6 hF hW fun a w hF hW => ?_
  refine AG hF rfl H (fun hF H => ?_) (fun hF H => ?_)
  ·
   refine vc tk 3 hF hW fun a w hF hW => ?_
   refine Aa ?_
   exact ⟨_,H,hF.ra rfl,hW⟩
  ·
   refine vc tk 3 hF hW fun a w hF hW => ?_
   refine Aa ?_
   exact ⟨_,H,hF.ra rfl,hW⟩
 rintro a w ⟨x1,hj,hF,hW⟩
 have hj := Option.some.inj hj
 subst hj
 have H := K1
 clear G1 K1
 refine vc tk 3 hF hW fun a w hF hW => ?_
 refine ls hF hW rfl ((Hm (v := Value.float .f64 (Int.toNat x1)) hF R1 rfl (fun w => rfl)).q) (fun a w hF hW => ?_)
 refine Bc tk 3 hF hW fun a w hF hW => ?_
 refine Ah ?_
 have H := Option.some.inj H
 subst H
 refine Aw (.inl rfl) hF hW rfl (Ag hF rfl) ?_
 exact ⟨rfl,hW.done⟩
theorem UY : Has Tryz.prog 136 := Bj Tryz.func136
def Bb  : (List Nat × Int) → Option ((List Nat × Int) ⊕ (List Nat))
  | (x3,x4) => (if x4 < (x3.length : Int) then (GF x3 x4 (x3.length : Int)).bind fun x5 => (GF x3 0 x4).bind fun x6 => some (.inl (NV x3 x4 (min x6.length x5.length) x6,w64 (x4 + ((min x6.length x5.length : Nat) : Int)))) else some (.inr x3))
def AV (p0 : List Nat) (p1 : Int) : Option (List Nat) := (if p1 < 0 then none else (if (decide (0 < ((AH (IntKind.u64.wrap (p0.length : Int)) (IntKind.u64.wrap p1)).1)) || decide (9223372036854775807 < ((AH (IntKind.u64.wrap (p0.length : Int)) (IntKind.u64.wrap p1)).2))) = true then none else (mk (w64 ((AH (IntKind.u64.wrap (p0.length : Int)) (IntKind.u64.wrap p1)).2)) (0 : Nat)).bind fun x1 => (Am (Bb) (NV x1 0 (min p0.length x1.length) p0,((min p0.length x1.length : Nat) : Int))).bind fun x2 => some x2))
theorem Bu (Y : Nat → Prop) (w0 : World) (v1 : Value) (p0 : List Nat) (p1 : Int) (r : List Nat) (H : AV p0 p1 = some r) (s_v1 : Sl w0 Y (Rp.flt .f64) v1 p0) :
    Calls Tryz.prog 135 #[v1,.int .i64 p1] w0 fun e w' => ∃ x : Value,e = .returned (x) ∧ Stw ⟨Y,[],w0⟩ [] [row (x) 147 (Rp.flt .f64) r] w' := by
 refine enter Tryz.func135 rfl Tryz.ntmps135 rfl (fun a hF => ?_)
 have hW := Stw.start Y w0
 have h_v1 := hW.nx s_v1
 unfold AV at H
 refine vc tk 12 hF hW fun a w hF hW => ?_
 refine AG hF rfl H (fun hF H => ?_) (fun hF H => ?_)
 ·
  refine F4 ?_
  refine ls hF hW rfl ((FP I9 hF rfl).q) (fun a w hF hW => ?_)
  exact nomatch H
 ·
  refine D2 tk 5 hF hW fun a w hF hW => ?_
  refine ls hF hW rfl ((AK (r := (Rp.flt .f64)) (l := p0) Pe rfl hF rfl (Ab h_v1)).q) (fun a w hF hW => ?_)
  refine ls hF hW rfl ((Ec M4 JT hF rfl).q) (fun a w hF hW => ?_)
  refine ls hF hW rfl ((Al hF rfl).q) (fun a w hF hW => ?_)
  refine ls hF hW rfl ((Ec M4 JT hF rfl).q) (fun a w hF hW => ?_)
  refine ls hF hW rfl (Av (v := Value.tuple #[.int .u64 ((AH (IntKind.u64.wrap (p0.length : Int)) (IntKind.u64.wrap p1)).1),.int .u64 ((AH (IntKind.u64.wrap (p0.length : Int)) (IntKind.u64.wrap p1)).2)]) hF YA rfl (fun w hW => GL any w (IntKind.u64.wrap (p0.length : Int)) (IntKind.u64.wrap p1) _ rfl)) (fun a w hF hW => ?_)
  refine ls hF hW rfl ((Al hF rfl).q) (fun a w hF hW => ?_)
  refine ls hF hW rfl ((A4 (v := Value.int .u64 ((AH (IntKind.u64.wrap (p0.length : Int)) (IntKind.u64.wrap p1)).1)) hF rfl rfl).q) (fun a w hF hW => ?_)
  refine ls hF hW rfl ((A4 (v := Value.int .u64 ((AH (IntKind.u64.wrap (p0.length : Int)) (IntKind.u64.wrap p1)).2)) hF rfl rfl).q) (fun a w hF hW => ?_)
  refine Bc tk 5 hF hW fun a w hF hW => ?_
  refine Aj (fun a w => Fr 48 [] [(0,v1),(4,.slice none 0 0),(6,.int .u64 ((AH (IntKind.u64.wrap (p0.length : Int)) (IntKind.u64.wrap p1)).2)),(26,.bool (decide (0 < ((AH (IntKind.u64.wrap (p0.length : Int)) (IntKind.u64.wrap p1)).1)) || decide (9223372036854775807 < ((AH (IntKind.u64.wrap (p0.length : Int)) (IntKind.u64.wrap p1)).2))))] a ∧ Stw ⟨Y,[],w0⟩ [] [] w) ?_ ?_
  ·
   refine vc tk 4 hF hW fun a w hF hW => ?_
   rcases bxq (decide (0 < ((AH (IntKind.u64.wrap (p0.length : Int)) (IntKind.u64.wrap p1)).1))) with hb0 | hb0
   ·
    rw [hb0] at hF
    refine vl tk 4 hF hW fun a w hF hW => ?_
    refine Aa ?_
    exact ⟨hF.re ⟨rfl,rfl,rfl,(Di (by try rw [hb0]; all_goals simp only [Dl])),trivial⟩,hW⟩
   ·
    rw [hb0] at hF
    refine vl tk 4 hF hW fun a w hF hW => ?_
    refine Aa ?_
    exact ⟨hF.re ⟨rfl,rfl,rfl,(Di (by try rw [hb0]; all_goals simp only [Dl])),trivial⟩,hW⟩
  rintro a w ⟨hF,hW⟩
  refine BA hF rfl H (fun hF H => ?_) (fun hF H => ?_)
  ·
   refine F4 ?_
   refine ls hF hW rfl ((FP I9 hF rfl).q) (fun a w hF hW => ?_)
   exact nomatch H
  ·
   refine D2 tk 5 hF hW fun a w hF hW => ?_
   refine ls hF hW rfl ((Ec JT M4 hF rfl).q) (fun a w hF hW => ?_)
   obtain ⟨x1,h1,H⟩ := Ad H
   refine P5 (r := (Rp.flt .f64)) (0 : Nat) hF hW rfl LC Ti rfl rfl (fun w A => Fl.flt.mk' w A _) h1 rfl (fun v2 a w hF hW => ?_)
   refine Bc tk 7 hF hW fun a w hF hW => ?_
   refine T5 (r := (Rp.flt .f64)) (k := 0) hF hW rfl LC rfl rfl rfl rfl (Q3 hW s_v1) (fun a w hF hW => ?_)
   have hW : Stw ⟨Y,[],w0⟩ [] [row v2 147 (Rp.flt .f64) (NV x1 0 (min p0.length x1.length) p0)] w := hW
   refine vl tk 2 hF hW fun a w hF hW => ?_
   refine Aa ?_
   obtain ⟨o1,G1,K1⟩ := Ad H
   refine Aj (fun a w => ∃ x2 : List Nat,some (x2) = some o1 ∧ Fr 48 [] [(4,.slice none 0 0),(7,v2)] a ∧ Stw ⟨Y,[],w0⟩ [] [row v2 147 (Rp.flt .f64) x2] w) ?_ ?_
   ·
    have H := G1
    clear G1 K1
    refine EI ?_
    refine AD H (fun s a w => Fr 48 [] [(4,.slice none 0 0),(7,v2),(8,.int .i64 s.2)] a ∧ Stw ⟨Y,[],w0⟩ [] [row v2 147 (Rp.flt .f64) s.1] w) ⟨hF.ra rfl,hW⟩ (fun s o a w H L2 hR => ?_)
    obtain ⟨x3,x4⟩ := s
    obtain ⟨hF,hW⟩ := hR
    have hF : Fr 48 [] [(4,.slice none 0 0),(7,v2),(8,.int .i64 x4)] a := hF
    have hW : Stw ⟨Y,[],w0⟩ [] [row v2 147 (Rp.flt .f64) x3] w := hW
    rw [Bb] at H
    refine vc tk 5 hF hW fun a w hF hW => ?_
    refine ls hF hW rfl ((AK (r := (Rp.flt .f64)) (l := x3) Pe rfl hF rfl (Ae 0 rfl)).q) (fun a w hF hW => ?_)
    refine Bc tk 3 hF hW fun a w hF hW => ?_
    refine AG hF rfl H (fun hF H => ?_) (fun hF H => ?_)
    ·
     refine D2 tk 3 hF hW fun a w hF hW => ?_
     refine QK 7 [0] [1,2,3,4,5,6] (fun ch a d v w h => by cases d <;> exact h) hW MO (by kernel_rfl) ?_
     refine hm hF rfl rfl rfl (fun a hF => ?_)
     refine SN ?_
     iterate 2 refine hs hF rfl rfl rfl ((Al hF rfl).q) (fun a hF => ?_)
     obtain ⟨x5,h2,H⟩ := Ad H
     refine hs hF rfl rfl rfl ((GH (r := (Rp.flt .f64)) LC hF rfl rfl rfl (Ae 0 rfl) h2).q) (fun a hF => ?_)
     iterate 2 refine hs hF rfl rfl rfl ((Al hF rfl).q) (fun a hF => ?_)
     obtain ⟨x6,h3,H⟩ := Ad H
     refine hs hF rfl rfl rfl ((GH (r := (Rp.flt .f64)) LC hF rfl rfl rfl (Ae 0 rfl) h3).q) (fun a hF => ?_)
     refine VR (fun w hW => ?_)
     have hW : Stw ⟨Y,[],w0⟩ [] [row v2 147 (Rp.flt .f64) x3] w := hW
     refine Rq (r := (Rp.flt .f64)) (v := v2) (k := 0) hF hW rfl LC rfl rfl rfl rfl h2 (Mg.sub (BU hW 0 rfl) h3) (fun a w hF hW => ?_)
     have hW : Stw ⟨Y,[],w0⟩ [] [row v2 147 (Rp.flt .f64) (NV x3 x4 (min x6.length x5.length) x6)] w := hW
     refine vl tk 3 hF hW fun a w hF hW => ?_
     refine An ?_
     refine Aa ?_
     exact ⟨_,H,hF.ra rfl,hW⟩
    ·
     refine AE ?_
     iterate 2 refine AQ ?_
     refine AF ?_
     refine Aa ?_
     have H := L2 _ H
     exact ⟨_,H,hF.ra rfl,hW⟩
   rintro a w ⟨x2,hj,hF,hW⟩
   have hj := Option.some.inj hj
   subst hj
   have H := K1
   clear G1 K1
   refine vc tk 6 hF hW fun a w hF hW => ?_
   refine Ah ?_
   have H := Option.some.inj H
   subst H
   refine Aw (.inl rfl) hF hW rfl (Ag hF rfl) ?_
   exact ⟨(v2),rfl,hW⟩
theorem Vq : Has Tryz.prog 135 := Bj Tryz.func135
theorem Zw : (Tryz.prog.info? 89).bind (·.zero) = some (.slice none 0 0) := by kernel_rfl
theorem UL : Ty Tryz.prog 89 false 1 := ⟨by kernel_rfl,by kernel_rfl⟩
theorem WW : Wx Tryz.prog 180 Extern.MathFloatBits.float64bits := fun args w => run_callFunc_extern Tryz.func180 (by kernel_rfl) (by kernel_rfl) (by kernel_rfl) (by kernel_rfl) args w
def I0 (p0 : Nat) : Nat := (Int.toNat (IY .u64 (p0 : Int) 9223372036854775808))
theorem Qs (Y : Nat → Prop) (w0 : World)  (p0 : Nat) (r : Nat) (H : I0 p0 = r)  :
    Calls Tryz.prog 264 #[.float .f64 p0] w0 fun e w' => e = .returned (.float .f64 r) ∧ Below w0.heap.size w0 w' := by
 refine enter Tryz.func264 rfl Tryz.ntmps264 rfl (fun a hF => ?_)
 have hW := Stw.start Y w0
 unfold I0 at H
 refine vc tk 8 hF hW fun a w hF hW => ?_
 refine ls hF hW rfl ((Hm (v := Value.int .u64 (p0 : Int)) hF WW rfl (fun w => rfl)).q) (fun a w hF hW => ?_)
 refine ls hF hW rfl ((LQ hF rfl rfl).q) (fun a w hF hW => ?_)
 refine ls hF hW rfl ((Hm (v := Value.float .f64 (Int.toNat (IY .u64 (p0 : Int) 9223372036854775808))) hF R1 rfl (fun w => rfl)).q) (fun a w hF hW => ?_)
 refine Bc tk 3 hF hW fun a w hF hW => ?_
 refine Ah ?_
 subst H
 refine Aw (.inl rfl) hF hW rfl (Ag hF rfl) ?_
 exact ⟨rfl,hW.done⟩
theorem Z5 : Has Tryz.prog 264 := Bj Tryz.func264
def DD (p0 : Nat) (p1 : Int) : Option Bool := (if p1 = 0 then some (I0 p0) else (if p1 < 0 then some (Op.negFloat .f64 p0) else some p0)).bind fun x1 => some (SF x1 9218868437227405311)
theorem Jk (Y : Nat → Prop) (w0 : World)  (p0 : Nat) (p1 : Int) (r : Bool) (H : DD p0 p1 = some r)  :
    Calls Tryz.prog 251 #[.float .f64 p0,.int .i64 p1] w0 fun e w' => e = .returned (.bool r) ∧ Below w0.heap.size w0 w' := by
 refine enter Tryz.func251 rfl Tryz.ntmps251 rfl (fun a hF => ?_)
 have hW := Stw.start Y w0
 unfold DD at H
 refine vc tk 5 hF hW fun a w hF hW => ?_
 obtain ⟨o1,G1,K1⟩ := Ad H
 refine Aj (fun a w => ∃ x1 : Nat,some (x1) = some o1 ∧ Fr 15 [] [(0,.float .f64 x1),(4,.bool false)] a ∧ Stw ⟨Y,[],w0⟩ [] [] w) ?_ ?_
 ·
  have H := G1
  clear G1 K1
  refine vc tk 6 hF hW fun a w hF hW => ?_
  refine AG hF rfl H (fun hF H => ?_) (fun hF H => ?_)
  ·
   refine vc tk 2 hF hW fun a w hF hW => ?_
   refine ls hF hW rfl (Av (v := Value.float .f64 (I0 p0)) hF Z5 rfl (fun w hW => Qs any w p0 _ rfl)) (fun a w hF hW => ?_)
   refine vl tk 2 hF hW fun a w hF hW => ?_
   refine Aa ?_
   exact ⟨_,H,hF.ra rfl,hW⟩
  ·
   refine vc tk 6 hF hW fun a w hF hW => ?_
   refine AG hF rfl H (fun hF H => ?_) (fun hF H => ?_)
   ·
    refine vc tk 2 hF hW fun a w hF hW => ?_
    refine ls hF hW rfl ((SS hF rfl).q) (fun a w hF hW => ?_)
    refine vl tk 2 hF hW fun a w hF hW => ?_
    refine Aa ?_
    exact ⟨_,H,hF.ra rfl,hW⟩
   ·
    refine Ay ?_
    refine Aa ?_
    exact ⟨_,H,hF.ra rfl,hW⟩
 rintro a w ⟨x1,hj,hF,hW⟩
 have hj := Option.some.inj hj
 subst hj
 have H := K1
 clear G1 K1
 refine vc tk 3 hF hW fun a w hF hW => ?_
 refine ls hF hW rfl ((NO hF rfl rfl).q) (fun a w hF hW => ?_)
 refine Bc tk 3 hF hW fun a w hF hW => ?_
 refine Ah ?_
 have H := Option.some.inj H
 subst H
 refine Aw (.inl rfl) hF hW rfl (Ag hF rfl) ?_
 exact ⟨rfl,hW.done⟩
theorem iM : type_of% Tryz.underlying2 := Tryz.underlying2
theorem Yv : Has Tryz.prog 251 := Bj Tryz.func251
def DY (p0 : Nat) : Bool := decide ((w64 (p0 : Int)) < 0)
theorem KI (Y : Nat → Prop) (w0 : World)  (p0 : Nat) (r : Bool) (H : DY p0 = r)  :
    Calls Tryz.prog 252 #[.float .f64 p0] w0 fun e w' => e = .returned (.bool r) ∧ Below w0.heap.size w0 w' := by
 refine enter Tryz.func252 rfl Tryz.ntmps252 rfl (fun a hF => ?_)
 have hW := Stw.start Y w0
 unfold DY at H
 refine vc tk 8 hF hW fun a w hF hW => ?_
 refine ls hF hW rfl ((Hm (v := Value.int .u64 (p0 : Int)) hF WW rfl (fun w => rfl)).q) (fun a w hF hW => ?_)
 refine ls hF hW rfl ((Ec VN iM hF rfl).q) (fun a w hF hW => ?_)
 refine Bc tk 4 hF hW fun a w hF hW => ?_
 refine Ah ?_
 subst H
 refine Aw (.inl rfl) hF hW rfl (Ag hF rfl) ?_
 exact ⟨rfl,hW.done⟩
theorem a7 : Has Tryz.prog 252 := Bj Tryz.func252
def E4 (p0 : Nat) : Option Int := (if (Ca p0) = true then some 0 else (DD p0 (-1)).bind fun x1 => (if x1 = true then some 1 else (if (RO p0 0) = true then some 2 else (DD p0 1).bind fun x2 => (if x2 = true then some 6 else (if (SF p0 0) = true then some 5 else (if (DY p0) = true then some 3 else some 4))))))
theorem Mj (Y : Nat → Prop) (w0 : World)  (p0 : Nat) (r : Int) (H : E4 p0 = some r)  :
    Calls Tryz.prog 217 #[.float .f64 p0] w0 fun e w' => e = .returned (.int .i64 r) ∧ Below w0.heap.size w0 w' := by
 refine enter Tryz.func217 rfl Tryz.ntmps217 rfl (fun a hF => ?_)
 have hW := Stw.start Y w0
 unfold E4 at H
 refine vc tk 10 hF hW fun a w hF hW => ?_
 refine ls hF hW rfl (Av (v := Value.bool (Ca p0)) hF Y4 rfl (fun w hW => Jp any w p0 _ rfl)) (fun a w hF hW => ?_)
 refine Bc tk 3 hF hW fun a w hF hW => ?_
 refine Dw hF rfl (fun hb => ?_) (fun hb => ?_)
 ·
  have H := BP hb H
  rw [hb] at hF
  clear hb
  refine vc tk 5 hF hW fun a w hF hW => ?_
  refine Ah ?_
  refine Az ?_
  refine Ak ?_
  have H := Option.some.inj H
  subst H
  refine Aw (.inl rfl) hF hW rfl (Ag hF rfl) ?_
  exact ⟨rfl,hW.done⟩
 ·
  have H := BQ (by rw [hb]; decide) H
  rw [hb] at hF
  clear hb
  refine vc tk 3 hF hW fun a w hF hW => ?_
  obtain ⟨x1,h1,H⟩ := Ad H
  refine ls hF hW rfl (Av (v := Value.bool x1) hF Yv rfl (fun w hW => Jk any w p0 (-1) _ h1)) (fun a w hF hW => ?_)
  refine Bc tk 3 hF hW fun a w hF hW => ?_
  refine Dw hF rfl (fun hb => ?_) (fun hb => ?_)
  ·
   have H := BP hb H
   rw [hb] at hF
   clear hb
   refine vc tk 5 hF hW fun a w hF hW => ?_
   refine Ah ?_
   refine Az ?_
   refine Ak ?_
   have H := Option.some.inj H
   subst H
   refine Aw (.inl rfl) hF hW rfl (Ag hF rfl) ?_
   exact ⟨rfl,hW.done⟩
  ·
   have H := BQ (by rw [hb]; decide) H
   rw [hb] at hF
   clear hb
   refine vc tk 3 hF hW fun a w hF hW => ?_
   refine ls hF hW rfl ((KP hF rfl rfl).q) (fun a w hF hW => ?_)
   refine Bc tk 3 hF hW fun a w hF hW => ?_
   refine Dw hF rfl (fun hb => ?_) (fun hb => ?_)
   ·
    have H := BP hb H
    rw [hb] at hF
    clear hb
    refine vc tk 5 hF hW fun a w hF hW => ?_
    refine Ah ?_
    refine Az ?_
    refine Ak ?_
    have H := Option.some.inj H
    subst H
    refine Aw (.inl rfl) hF hW rfl (Ag hF rfl) ?_
    exact ⟨rfl,hW.done⟩
   ·
    have H := BQ (by rw [hb]; decide) H
    rw [hb] at hF
    clear hb
    refine vc tk 3 hF hW fun a w hF hW => ?_
    obtain ⟨x2,h2,H⟩ := Ad H
    refine ls hF hW rfl (Av (v := Value.bool x2) hF Yv rfl (fun w hW => Jk any w p0 1 _ h2)) (fun a w hF hW => ?_)
    refine Bc tk 3 hF hW fun a w hF hW => ?_
    refine Dw hF rfl (fun hb => ?_) (fun hb => ?_)
    ·
     have H := BP hb H
     rw [hb] at hF
     clear hb
     refine vc tk 5 hF hW fun a w hF hW => ?_
     refine Ah ?_
     refine Az ?_
     refine Ak ?_
     have H := Option.some.inj H
     subst H
     refine Aw (.inl rfl) hF hW rfl (Ag hF rfl) ?_
     exact ⟨rfl,hW.done⟩
    ·
     have H := BQ (by rw [hb]; decide) H
     rw [hb] at hF
     clear hb
     refine vc tk 3 hF hW fun a w hF hW => ?_
     refine ls hF hW rfl ((NO hF rfl rfl).q) (fun a w hF hW => ?_)
     refine Bc tk 3 hF hW fun a w hF hW => ?_
     refine Dw hF rfl (fun hb => ?_) (fun hb => ?_)
     ·
      have H := BP hb H
      rw [hb] at hF
      clear hb
      refine vc tk 5 hF hW fun a w hF hW => ?_
      refine Ah ?_
      refine Az ?_
      refine Ak ?_
      have H := Option.some.inj H
      subst H
      refine Aw (.inl rfl) hF hW rfl (Ag hF rfl) ?_
      exact ⟨rfl,hW.done⟩
     ·
      have H := BQ (by rw [hb]; decide) H
      rw [hb] at hF
      clear hb
      refine vc tk 3 hF hW fun a w hF hW => ?_
      refine ls hF hW rfl (Av (v := Value.bool (DY p0)) hF a7 rfl (fun w hW => KI any w p0 _ rfl)) (fun a w hF hW => ?_)
      refine Bc tk 3 hF hW fun a w hF hW => ?_
      refine Dw hF rfl (fun hb => ?_) (fun hb => ?_)
      ·
       have H := BP hb H
       rw [hb] at hF
       clear hb
       refine vc tk 5 hF hW fun a w hF hW => ?_
       refine Ah ?_
       refine Az ?_
       refine Ak ?_
       have H := Option.some.inj H
       subst H
       refine Aw (.inl rfl) hF hW rfl (Ag hF rfl) ?_
       exact ⟨rfl,hW.done⟩
      ·
       have H := BQ (by rw [hb]; decide) H
       rw [hb] at hF
       clear hb
       refine Ay ?_
       refine An ?_
       refine vn tk 5 hF hW fun a w hF hW => ?_
       refine Ah ?_
       have H := Option.some.inj H
       subst H
       refine Aw (.inl rfl) hF hW rfl (Ag hF rfl) ?_
       exact ⟨rfl,hW.done⟩
theorem dJ : Has Tryz.prog 217 := Bj Tryz.func217
def ET (p0 : Nat) : Option Int := (E4 p0).bind fun x1 => (if x1 ≠ 0 then some x1 else some 7)
theorem IM (Y : Nat → Prop) (w0 : World)  (p0 : Nat) (r : Int) (H : ET p0 = some r)  :
    Calls Tryz.prog 177 #[.float .f64 p0] w0 fun e w' => e = .returned (.int .i64 r) ∧ Below w0.heap.size w0 w' := by
 refine enter Tryz.func177 rfl Tryz.ntmps177 rfl (fun a hF => ?_)
 have hW := Stw.start Y w0
 unfold ET at H
 refine vc tk 9 hF hW fun a w hF hW => ?_
 obtain ⟨x1,h1,H⟩ := Ad H
 refine ls hF hW rfl (Av (v := Value.int .i64 x1) hF dJ rfl (fun w hW => Mj any w p0 _ h1)) (fun a w hF hW => ?_)
 refine Bc tk 9 hF hW fun a w hF hW => ?_
 refine AG hF rfl H (fun hF H => ?_) (fun hF H => ?_)
 ·
  refine vc tk 6 hF hW fun a w hF hW => ?_
  refine Ah ?_
  refine Ak ?_
  have H := Option.some.inj H
  subst H
  refine Aw (.inl rfl) hF hW rfl (Ag hF rfl) ?_
  exact ⟨rfl,hW.done⟩
 ·
  refine D2 tk 7 hF hW fun a w hF hW => ?_
  refine Ah ?_
  have H := Option.some.inj H
  subst H
  refine Aw (.inl rfl) hF hW rfl (Ag hF rfl) ?_
  exact ⟨rfl,hW.done⟩
theorem Ym : Has Tryz.prog 177 := Bj Tryz.func177
def D8 (p0 : Nat) (p1 : Nat) : Option Int := (ET p0).bind fun x1 => (ET p1).bind fun x2 => (if x1 < x2 then some (-1) else (if x2 < x1 then some 1 else (if (RO p0 p1) = true then some (-1) else (if (SF p0 p1) = true then some 1 else some 0))))
theorem Kf (Y : Nat → Prop) (w0 : World)  (p0 : Nat) (p1 : Nat) (r : Int) (H : D8 p0 p1 = some r)  :
    Calls Tryz.prog 139 #[.float .f64 p0,.float .f64 p1] w0 fun e w' => e = .returned (.int .i64 r) ∧ Below w0.heap.size w0 w' := by
 refine enter Tryz.func139 rfl Tryz.ntmps139 rfl (fun a hF => ?_)
 have hW := Stw.start Y w0
 unfold D8 at H
 refine vc tk 9 hF hW fun a w hF hW => ?_
 obtain ⟨x1,h1,H⟩ := Ad H
 refine ls hF hW rfl (Av (v := Value.int .i64 x1) hF Ym rfl (fun w hW => IM any w p0 _ h1)) (fun a w hF hW => ?_)
 refine ls hF hW rfl ((Al hF rfl).q) (fun a w hF hW => ?_)
 obtain ⟨x2,h2,H⟩ := Ad H
 refine ls hF hW rfl (Av (v := Value.int .i64 x2) hF Ym rfl (fun w hW => IM any w p1 _ h2)) (fun a w hF hW => ?_)
 refine Bc tk 13 hF hW fun a w hF hW => ?_
 refine Dw hF rfl (fun hb => ?_) (fun hb => ?_)
 ·
  have H := BP (of_decide_eq_true hb) H
  rw [hb] at hF
  clear hb
  refine vc tk 5 hF hW fun a w hF hW => ?_
  refine Ah ?_
  refine Az ?_
  refine Ak ?_
  have H := Option.some.inj H
  subst H
  refine Aw (.inl rfl) hF hW rfl (Ag hF rfl) ?_
  exact ⟨rfl,hW.done⟩
 ·
  have H := BQ (of_decide_eq_false hb) H
  rw [hb] at hF
  clear hb
  refine vc tk 8 hF hW fun a w hF hW => ?_
  refine Dw hF rfl (fun hb => ?_) (fun hb => ?_)
  ·
   have H := BP (of_decide_eq_true hb) H
   rw [hb] at hF
   clear hb
   refine vc tk 5 hF hW fun a w hF hW => ?_
   refine Ah ?_
   refine Az ?_
   refine Ak ?_
   have H := Option.some.inj H
   subst H
   refine Aw (.inl rfl) hF hW rfl (Ag hF rfl) ?_
   exact ⟨rfl,hW.done⟩
  ·
   have H := BQ (of_decide_eq_false hb) H
   rw [hb] at hF
   clear hb
   refine vc tk 4 hF hW fun a w hF hW => ?_
   refine ls hF hW rfl ((KP hF rfl rfl).q) (fun a w hF hW => ?_)
   refine Bc tk 3 hF hW fun a w hF hW => ?_
   refine Dw hF rfl (fun hb => ?_) (fun hb => ?_)
   ·
    have H := BP hb H
    rw [hb] at hF
    clear hb
    refine vc tk 5 hF hW fun a w hF hW => ?_
    refine Ah ?_
    refine Az ?_
    refine Ak ?_
    have H := Option.some.inj H
    subst H
    refine Aw (.inl rfl) hF hW rfl (Ag hF rfl) ?_
    exact ⟨rfl,hW.done⟩
   ·
    have H := BQ (by rw [hb]; decide) H
    rw [hb] at hF
    clear hb
    refine vc tk 4 hF hW fun a w hF hW => ?_
    refine ls hF hW rfl ((NO hF rfl rfl).q) (fun a w hF hW => ?_)
    refine Bc tk 3 hF hW fun a w hF hW => ?_
    refine Dw hF rfl (fun hb => ?_) (fun hb => ?_)
    ·
     have H := BP hb H
     rw [hb] at hF
     clear hb
     refine vc tk 5 hF hW fun a w hF hW => ?_
     refine Ah ?_
     refine Az ?_
     refine Ak ?_
     have H := Option.some.inj H
     subst H
     refine Aw (.inl rfl) hF hW rfl (Ag hF rfl) ?_
     exact ⟨rfl,hW.done⟩
    ·
     have H := BQ (by rw [hb]; decide) H
     rw [hb] at hF
     clear hb
     refine Ay ?_
     refine An ?_
     refine vn tk 5 hF hW fun a w hF hW => ?_
     refine Ah ?_
     have H := Option.some.inj H
     subst H
     refine Aw (.inl rfl) hF hW rfl (Ag hF rfl) ?_
     exact ⟨rfl,hW.done⟩
theorem b9 : Has Tryz.prog 139 := Bj Tryz.func139
def D5 (p0 : Int) (p1 : Int) (p2 : List Nat) : Option Int := (ix p2 p0).bind fun x1 => (ix p2 p1).bind fun x2 => (D8 x1 x2).bind fun x3 => some x3
theorem Km (Y : Nat → Prop) (w0 : World) (q_p2 : Nat) (v1 : Value) (p0 : Int) (p1 : Int) (p2 : List Nat) (r : Int) (H : D5 p0 p1 p2 = some r) (h_v1 : Sl w0 (NX []) (Rp.flt .f64) v1 p2) (a_q_p2 : At ⟨Y,[],w0⟩ q_p2 0 [v1]) :
    Calls Tryz.prog 138 #[.int .i64 p0,.int .i64 p1,.pointer (some ⟨q_p2,0,none⟩)] w0 fun e w' => e = .returned (.int .i64 r) ∧ Below w0.heap.size w0 w' := by
 refine enter Tryz.func138 rfl Tryz.ntmps138 rfl (fun a hF => ?_)
 have hW := Stw.start Y w0
 unfold D5 at H
 refine vc tk 6 hF hW fun a w hF hW => ?_
 refine BV hW MO (by kernel_rfl) ?_
 refine qs hF rfl ((MD (y := v1) (j := 0) hF rfl (Nat.zero_add _).symm a_q_p2 UL rfl).q) (fun a hF => ?_)
 refine qs hF rfl ((Al hF rfl).q) (fun a hF => ?_)
 obtain ⟨x1,h1,H⟩ := Ad H
 refine qs hF rfl ((Ai (r := (Rp.flt .f64)) LC hF rfl rfl (Ab h_v1) h1).q) (fun a hF => ?_)
 refine qs hF rfl ((Af (y := Value.float .f64 x1) (j := 0) (i := p0) hF rfl rfl (Ab h_v1) h1 Fl.flt.to JF rfl).q) (fun a hF => ?_)
 refine qs hF rfl ((MD (y := v1) (j := 0) hF rfl (Nat.zero_add _).symm a_q_p2 UL rfl).q) (fun a hF => ?_)
 refine qs hF rfl ((Al hF rfl).q) (fun a hF => ?_)
 obtain ⟨x2,h2,H⟩ := Ad H
 refine qs hF rfl ((Ai (r := (Rp.flt .f64)) LC hF rfl rfl (Ab h_v1) h2).q) (fun a hF => ?_)
 refine qs hF rfl ((Af (y := Value.float .f64 x2) (j := 0) (i := p1) hF rfl rfl (Ab h_v1) h2 Fl.flt.to JF rfl).q) (fun a hF => ?_)
 obtain ⟨x3,h3,H⟩ := Ad H
 refine qs hF rfl (Av (v := Value.int .i64 x3) hF b9 rfl (fun w hW => Kf any w x1 x2 _ h3)) (fun a hF => ?_)
 refine qs hF rfl ((BB hF rfl).q) (fun a hF => ?_)
 refine AX (fun w hW => ?_)
 refine Aa ?_
 refine Ah ?_
 have H := Option.some.inj H
 subst H
 refine Aw (.inl rfl) hF hW rfl (Ag hF rfl) ?_
 exact ⟨rfl,hW.done⟩
theorem cX : Has Tryz.prog 138 := Bj Tryz.func138
def A6 (p1 : Int) (p3c0 : List Nat) : (List Int × Int) → Option ((List Int × Int) ⊕ (List Int))
  | (x4,x5) => (if p1 < x5 then (ix x4 x5).bind fun x7 => (ix x4 (w64 (x5 - 1))).bind fun x8 => (D5 x7 x8 p3c0).bind fun x9 => some (decide (x9 < 0)) else some false).bind fun x6 => (if x6 = true then (ix x4 (w64 (x5 - 1))).bind fun x10 => (ix x4 x5).bind fun x11 => (ix x4 x5).bind fun x12 => (ix (Ao x4 x5 x10) (w64 (x5 - 1))).bind fun x13 => some (.inl ((Ao (Ao x4 x5 x10) (w64 (x5 - 1)) x11),w64 (x5 - 1))) else some (.inr x4))
def AU (p1 : Int) (p2 : Int) (p3c0 : List Nat) : (List Int × Int) → Option ((List Int × Int) ⊕ (List Int))
  | (x1,x2) => (if x2 < p2 then (Am (A6 p1 p3c0) (x1,x2)).bind fun x3 => some (.inl (x3,w64 (x2 + 1))) else some (.inr x1))
def Bq (p0 : List Int) (p1 : Int) (p2 : Int) (p3c0 : List Nat) : Option (List Int) := Am (AU p1 p2 p3c0) (p0,w64 (p1 + 1))
theorem EB (Y : Nat → Prop) (X : List Nat) (w0 : World) (v1 : Value) (q_p3c0 : Nat) (v2 : Value) (p0 : List Int) (p1 : Int) (p2 : Int) (p3c0 : List Nat) (r : List Int) (H : Bq p0 p1 p2 p3c0 = some r) (h_v2 : Sl w0 (NX X) (Rp.flt .f64) v2 p3c0) (a_q_p3c0 : At ⟨Y,X,w0⟩ q_p3c0 0 [v2]) (hL : Stw ⟨Y,X,w0⟩ [] [row v1 3 (Rp.int .i64) p0] w0) :
    Calls Tryz.prog 209 #[v1,.int .i64 p1,.int .i64 p2,.func (.func 138) #[] #[.pointer (some ⟨q_p3c0,0,none⟩)]] w0 fun e w' => ∃ x : Unit,e = .returned (.tuple #[]) ∧ Stw ⟨Y,X,w0⟩ [] [row v1 3 (Rp.int .i64) r] w' := by
 refine enter Tryz.func209 rfl Tryz.ntmps209 rfl (fun a hF => ?_)
 have hW := hL
 unfold Bq at H
 refine vc tk 8 hF hW fun a w hF hW => ?_
 refine AD H (fun s a w => Fr 53 [] [(0,v1),(1,.int .i64 p1),(2,.int .i64 p2),(3,.func (.func 138) #[] #[.pointer (some ⟨q_p3c0,0,none⟩)]),(8,.int .i64 s.2)] a ∧ Stw ⟨Y,X,w0⟩ [] [row v1 3 (Rp.int .i64) s.1] w) ⟨hF.ra rfl,hW⟩ (fun s o a w H L1 hR => ?_)
 obtain ⟨x1,x2⟩ := s
 obtain ⟨hF,hW⟩ := hR
 have hF : Fr 53 [] [(0,v1),(1,.int .i64 p1),(2,.int .i64 p2),(3,.func (.func 138) #[] #[.pointer (some ⟨q_p3c0,0,none⟩)]),(8,.int .i64 x2)] a := hF
 have hW : Stw ⟨Y,X,w0⟩ [] [row v1 3 (Rp.int .i64) x1] w := hW
 rw [AU] at H
 refine vc tk 8 hF hW fun a w hF hW => ?_
 refine AG hF rfl H (fun hF H => ?_) (fun hF H => ?_)
 ·
  refine Ay ?_
  refine Aa ?_
  obtain ⟨o2,G2,K2⟩ := Ad H
  refine Aj (fun a w => ∃ x3 : List Int,some (x3) = some o2 ∧ Fr 53 [] [(0,v1),(1,.int .i64 p1),(2,.int .i64 p2),(3,.func (.func 138) #[] #[.pointer (some ⟨q_p3c0,0,none⟩)]),(8,.int .i64 x2)] a ∧ Stw ⟨Y,X,w0⟩ [] [row v1 3 (Rp.int .i64) x3] w) ?_ ?_
  ·
   have H := G2
   clear G2 K2
   refine vc tk 8 hF hW fun a w hF hW => ?_
   refine AD H (fun s a w => Fr 53 [] [(0,v1),(1,.int .i64 p1),(2,.int .i64 p2),(3,.func (.func 138) #[] #[.pointer (some ⟨q_p3c0,0,none⟩)]),(8,.int .i64 x2),(9,.int .i64 s.2)] a ∧ Stw ⟨Y,X,w0⟩ [] [row v1 3 (Rp.int .i64) s.1] w) ⟨hF.ra rfl,hW⟩ (fun s o a w H L3 hR => ?_)
   obtain ⟨x4,x5⟩ := s
   obtain ⟨hF,hW⟩ := hR
   have hF : Fr 53 [] [(0,v1),(1,.int .i64 p1),(2,.int .i64 p2),(3,.func (.func 138) #[] #[.pointer (some ⟨q_p3c0,0,none⟩)]),(8,.int .i64 x2),(9,.int .i64 x5)] a := hF
   have hW : Stw ⟨Y,X,w0⟩ [] [row v1 3 (Rp.int .i64) x4] w := hW
   rw [A6] at H
   refine Ly ?_
   obtain ⟨o4,G4,K4⟩ := Ad H
   refine Aj (fun a w => ∃ x6 : Bool,some (x6) = some o4 ∧ Fr 53 [] [(0,v1),(1,.int .i64 p1),(2,.int .i64 p2),(3,.func (.func 138) #[] #[.pointer (some ⟨q_p3c0,0,none⟩)]),(8,.int .i64 x2),(9,.int .i64 x5),(34,.bool x6)] a ∧ Stw ⟨Y,X,w0⟩ [] [row v1 3 (Rp.int .i64) x4] w) ?_ ?_
   ·
    have H := G4
    clear G4 K4
    refine BV hW MO (by kernel_rfl) ?_
    iterate 2 refine qs hF rfl ((Al hF rfl).q) (fun a hF => ?_)
    refine qs hF rfl ((QO hF rfl rfl).q) (fun a hF => ?_)
    refine qs hF rfl ((Al hF rfl).q) (fun a hF => ?_)
    rcases bxq (decide (p1 < x5)) with hb | hb
    ·
     have H := BP (of_decide_eq_true hb) H
     rw [hb] at hF
     clear hb
     iterate 3 refine Bf hF (Ac hF rfl rfl rfl rfl) rfl (ze rfl) ((Al hF rfl).q) (fun a hF => ?_)
     obtain ⟨x7,h1,H⟩ := Ad H
     refine Bf hF (Ac hF rfl rfl rfl rfl) rfl (ze rfl) ((Ai (r := (Rp.int .i64)) Do hF rfl rfl (Ae 0 rfl) h1).q) (fun a hF => ?_)
     refine Bf hF (Ac hF rfl rfl rfl rfl) rfl (ze rfl) ((Af (y := Value.int .i64 x7) (j := 0) (i := x5) hF rfl rfl (Ae 0 rfl) h1 Fl.int.to T3 rfl).q) (fun a hF => ?_)
     iterate 2 refine Bf hF (Ac hF rfl rfl rfl rfl) rfl (ze rfl) ((Al hF rfl).q) (fun a hF => ?_)
     refine Bf hF (Ac hF rfl rfl rfl rfl) rfl (ze rfl) ((IX hF rfl rfl rfl).q) (fun a hF => ?_)
     obtain ⟨x8,h2,H⟩ := Ad H
     refine Bf hF (Ac hF rfl rfl rfl rfl) rfl (ze rfl) ((Ai (r := (Rp.int .i64)) Do hF rfl rfl (Ae 0 rfl) h2).q) (fun a hF => ?_)
     refine Bf hF (Ac hF rfl rfl rfl rfl) rfl (ze rfl) ((Af (y := Value.int .i64 x8) (j := 0) (i := w64 (x5 - 1)) hF rfl rfl (Ae 0 rfl) h2 Fl.int.to T3 rfl).q) (fun a hF => ?_)
     obtain ⟨x9,h3,H⟩ := Ad H
     refine Bf hF (Ac hF rfl rfl rfl rfl) rfl (ze rfl) (Nj (ws := [.int .i64 x7,.int .i64 x8,.pointer (some ⟨q_p3c0,0,none⟩)]) (v := Value.int .i64 x9) hF cX rfl (fun w hW => Km any w q_p3c0 (v2) x7 x8 p3c0 _ h3 (D3 (Ab h_v2) hW) (At.re a_q_p3c0 hW))) (fun a hF => ?_)
     refine Bf hF (Ac hF rfl rfl rfl rfl) rfl (ze rfl) ((O1 hF rfl rfl).q) (fun a hF => ?_)
     refine qs hF rfl ((CE hF rfl rfl rfl).q) (fun a hF => ?_)
     refine AX (fun w hW => ?_)
     refine Aa ?_
     exact ⟨_,H,hF.ra rfl,hW⟩
    ·
     have H := BQ (of_decide_eq_false hb) H
     rw [hb] at hF
     clear hb
     iterate 12 refine DS hF (B4 hF rfl rfl rfl rfl rfl) rfl rfl (fun a hF => ?_)
     refine qs hF rfl ((Cy hF rfl rfl rfl).q) (fun a hF => ?_)
     refine AX (fun w hW => ?_)
     refine Aa ?_
     exact ⟨_,H,hF.ra rfl,hW⟩
   rintro a w ⟨x6,hj,hF,hW⟩
   have hj := Option.some.inj hj
   subst hj
   have H := K4
   clear G4 K4
   refine BA hF rfl H (fun hF H => ?_) (fun hF H => ?_)
   ·
    refine D2 tk 4 hF hW fun a w hF hW => ?_
    refine Gp [(true,0),(true,1),(true,2),(true,3),(true,4),(true,5),(true,6),(true,7),(true,8),(true,9),(true,10),(true,11),(true,12),(true,13),(true,14),(false,15),(true,16),(false,17)] (CN ⟨Y,X,w0⟩ [] [(some 15,row v1 3 (Rp.int .i64) x4)]) (fun ch a d v w h => by cases d <;> exact h) MO (by kernel_rfl) hW (fun w hW => ⟨_,_,hW,As,(all_cons (fun _ => (.head _)) As)⟩) (fun w hW => ?_)
    iterate 4 refine Cp (R := []) hF rfl rfl (yC fun M Z hN hZ => Al hF rfl) rfl rfl (fun a hF => ?_)
    refine Cp (R := []) hF rfl rfl (yC fun M Z hN hZ => IX hF rfl rfl rfl) rfl rfl (fun a hF => ?_)
    iterate 2 refine Cp (R := []) hF rfl rfl (yC fun M Z hN hZ => Al hF rfl) rfl rfl (fun a hF => ?_)
    refine Cp (R := []) hF rfl rfl (yC fun M Z hN hZ => IX hF rfl rfl rfl) rfl rfl (fun a hF => ?_)
    obtain ⟨x10,h4,H⟩ := Ad H
    refine Cp (R := []) hF rfl rfl (yC fun M Z hN hZ => E8 (r := (Rp.int .i64)) Do hF rfl rfl (J3 hW (Ae 0 rfl)) h4) rfl rfl (fun a hF => ?_)
    refine Cp (R := [15]) hF rfl rfl (yC fun M Z hN hZ => Af (y := Value.int .i64 x10) (j := 0) (i := w64 (x5 - 1)) hF rfl rfl (Ji (hZ ((some 15),row v1 3 (Rp.int .i64) x4) (.head _) rfl)) h4 Fl.int.to T3 rfl) (by kernel_rfl) rfl (fun a hF => ?_)
    iterate 2 refine Cp (R := []) hF rfl rfl (yC fun M Z hN hZ => Al hF rfl) rfl rfl (fun a hF => ?_)
    obtain ⟨x11,h5,H⟩ := Ad H
    refine Cp (R := []) hF rfl rfl (yC fun M Z hN hZ => E8 (r := (Rp.int .i64)) Do hF rfl rfl (J3 hW (Ae 0 rfl)) h5) rfl rfl (fun a hF => ?_)
    refine Cp (R := [15]) hF rfl rfl (yC fun M Z hN hZ => Af (y := Value.int .i64 x11) (j := 0) (i := x5) hF rfl rfl (Ji (hZ ((some 15),row v1 3 (Rp.int .i64) x4) (.head _) rfl)) h5 Fl.int.to T3 rfl) (by kernel_rfl) rfl (fun a hF => ?_)
    obtain ⟨x12,h6,H⟩ := Ad H
    refine Cp (R := []) hF rfl rfl (yC fun M Z hN hZ => E8 (r := (Rp.int .i64)) Do hF rfl rfl (J3 hW (Ae 0 rfl)) h6) rfl rfl (fun a hF => ?_)
    refine HD rfl ?_
    refine BE (i := x5) (j := 0) (vs := [.int .i64 x10]) (x' := x10) hF hW rfl rfl rfl (k := 0) rfl rfl h6 T3 rfl rfl rfl rfl (fun A cs _ => Fl.int.sto (by rfl) _ _ _) (fun w hW => ?_)
    refine CC (N2 := []) (NZ2 := []) (N3 := []) (NZ3 := [(some 15,row v1 3 (Rp.int .i64) x4)]) hW rfl rfl As (all_cons (fun h => Bl (by kernel_rfl) h) As) ?_
    obtain ⟨x13,h7,H⟩ := Ad H
    refine Cp (R := []) hF rfl rfl (yC fun M Z hN hZ => E8 (r := (Rp.int .i64)) Do hF rfl rfl (J3 hW (Ae 0 rfl)) h7) rfl rfl (fun a hF => ?_)
    refine HD rfl ?_
    refine BE (i := w64 (x5 - 1)) (j := 0) (vs := [.int .i64 x11]) (x' := x11) hF hW rfl rfl rfl (k := 0) rfl rfl h7 T3 rfl rfl rfl rfl (fun A cs _ => Fl.int.sto (by rfl) _ _ _) (fun w hW => ?_)
    refine CC (N2 := []) (NZ2 := []) (N3 := []) (NZ3 := [(some 15,row v1 3 (Rp.int .i64) x4)]) hW rfl rfl As (all_cons (fun h => Bl (by kernel_rfl) h) As) ?_
    refine JE ?_
    refine An ?_
    refine vn tk 5 hF hW fun a w hF hW => ?_
    refine Aa ?_
    exact ⟨_,H,hF.ra rfl,hW⟩
   ·
    refine AE ?_
    iterate 2 refine AQ ?_
    refine AF ?_
    refine An ?_
    refine Aa ?_
    have H := L3 _ H
    exact ⟨_,H,hF.ra rfl,hW⟩
  rintro a w ⟨x3,hj,hF,hW⟩
  have hj := Option.some.inj hj
  subst hj
  have H := K2
  clear G2 K2
  refine vc tk 5 hF hW fun a w hF hW => ?_
  refine Aa ?_
  exact ⟨_,H,hF.ra rfl,hW⟩
 ·
  refine AE ?_
  iterate 2 refine AQ ?_
  refine AF ?_
  have H := L1 _ H
  have H := Option.some.inj H
  subst H
  refine GO (.inr rfl) hF rfl ?_
  exact ⟨(),rfl,hW⟩
theorem bL : Has Tryz.prog 209 := Bj Tryz.func209
def Cb (p0 : List Int) (p1 : Int) (p2 : Int) (p4c0 : List Nat) : Unit → Option (Unit ⊕ (List Int))
  | _ => (if (w64 (p2 - p1)) ≤ 12 then (Bq p0 p1 p2 p4c0).bind fun x1 => some (.inr x1) else none)
def Bz (p0 : List Int) (p1 : Int) (p2 : Int) (p3 : Int) (p4c0 : List Nat) : Option (List Int) := Am (Cb p0 p1 p2 p4c0) ()
theorem Fe (Y : Nat → Prop) (X : List Nat) (w0 : World) (v1 : Value) (q_p4c0 : Nat) (v2 : Value) (p0 : List Int) (p1 : Int) (p2 : Int) (p3 : Int) (p4c0 : List Nat) (r : List Int) (H : Bz p0 p1 p2 p3 p4c0 = some r) (h_v2 : Sl w0 (NX X) (Rp.flt .f64) v2 p4c0) (a_q_p4c0 : At ⟨Y,X,w0⟩ q_p4c0 0 [v2]) (hL : Stw ⟨Y,X,w0⟩ [] [row v1 3 (Rp.int .i64) p0] w0) :
    Calls Tryz.prog 176 #[v1,.int .i64 p1,.int .i64 p2,.int .i64 p3,.func (.func 138) #[] #[.pointer (some ⟨q_p4c0,0,none⟩)]] w0 fun e w' => ∃ x : Unit,e = .returned (.tuple #[]) ∧ Stw ⟨Y,X,w0⟩ [] [row v1 3 (Rp.int .i64) r] w' := by
 refine enter Tryz.func176 rfl Tryz.ntmps176 rfl (fun a hF => ?_)
 have hW := hL
 unfold Bz at H
 refine vc tk 11 hF hW fun a w hF hW => ?_
 refine AD H (fun s a w => Fr 148 [] [(0,v1),(1,.int .i64 p1),(2,.int .i64 p2),(3,.int .i64 p3),(4,.func (.func 138) #[] #[.pointer (some ⟨q_p4c0,0,none⟩)]),(10,.bool true),(11,.bool true)] a ∧ Stw ⟨Y,X,w0⟩ [] [row v1 3 (Rp.int .i64) p0] w) ⟨hF.ra rfl,hW⟩ (fun s o a w H L1 hR => ?_)
 obtain ⟨hF,hW⟩ := hR
 have hF : Fr 148 [] [(0,v1),(1,.int .i64 p1),(2,.int .i64 p2),(3,.int .i64 p3),(4,.func (.func 138) #[] #[.pointer (some ⟨q_p4c0,0,none⟩)]),(10,.bool true),(11,.bool true)] a := hF
 have hW : Stw ⟨Y,X,w0⟩ [] [row v1 3 (Rp.int .i64) p0] w := hW
 rw [Cb] at H
 refine vc tk 16 hF hW fun a w hF hW => ?_
 refine AG hF rfl H (fun hF H => ?_) (fun hF H => ?_)
 ·
  refine vc tk 6 hF hW fun a w hF hW => ?_
  obtain ⟨x1,h1,H⟩ := Ad H
  refine A9 (Ml := []) (Zl := [row v1 3 (Rp.int .i64) p0]) (β := Unit) (rv := fun x => .tuple #[]) (MM := fun x => []) (ZZ := fun x => [row v1 3 (Rp.int .i64) x1]) hF hW bL rfl rfl (fun hL => EB _ _ w (v1) q_p4c0 (v2) p0 p1 p2 p4c0 _ h1 (hW.roX h_v2 (fun g hg => QZ hg)) (At.reX (Ml := []) (Zl := [row v1 3 (Rp.int .i64) p0]) (M := []) (Z := []) a_q_p4c0 hW) hL) (fun x a w hF hW => ?_)
  have hW : Stw ⟨Y,X,w0⟩ [] [row v1 3 (Rp.int .i64) x1] w := hW
  refine Bc tk 2 hF hW fun a w hF hW => ?_
  refine Ah ?_
  refine Ak ?_
  refine Az ?_
  refine Ak ?_
  refine Az ?_
  have H := L1 _ H
  have H := Option.some.inj H
  subst H
  refine GO (.inl rfl) hF rfl ?_
  exact ⟨(),rfl,hW⟩
 ·
  exact nomatch H
theorem aI : Has Tryz.prog 176 := Bj Tryz.func176
def BM (p0 : List Int) (p1c0 : List Nat) : Option (List Int) := (Dh (IntKind.u64.wrap (p0.length : Int))).bind fun x1 => (Bz p0 0 (p0.length : Int) x1 p1c0).bind fun x2 => some x2
theorem FF (Y : Nat → Prop) (X : List Nat) (w0 : World) (v1 : Value) (q_p1c0 : Nat) (v2 : Value) (p0 : List Int) (p1c0 : List Nat) (r : List Int) (H : BM p0 p1c0 = some r) (h_v2 : Sl w0 (NX X) (Rp.flt .f64) v2 p1c0) (a_q_p1c0 : At ⟨Y,X,w0⟩ q_p1c0 0 [v2]) (hL : Stw ⟨Y,X,w0⟩ [] [row v1 3 (Rp.int .i64) p0] w0) :
    Calls Tryz.prog 137 #[v1,.func (.func 138) #[] #[.pointer (some ⟨q_p1c0,0,none⟩)]] w0 fun e w' => ∃ x : Unit,e = .returned (.tuple #[]) ∧ Stw ⟨Y,X,w0⟩ [] [row v1 3 (Rp.int .i64) r] w' := by
 refine enter Tryz.func137 rfl Tryz.ntmps137 rfl (fun a hF => ?_)
 have hW := hL
 unfold BM at H
 refine vc tk 3 hF hW fun a w hF hW => ?_
 refine ls hF hW rfl ((AK (r := (Rp.int .i64)) (l := p0) GG rfl hF rfl (Ae 0 rfl)).q) (fun a w hF hW => ?_)
 refine Bc tk 7 hF hW fun a w hF hW => ?_
 refine ls hF hW rfl ((Ec M4 JT hF rfl).q) (fun a w hF hW => ?_)
 obtain ⟨x1,h1,H⟩ := Ad H
 refine ls hF hW rfl (Av (v := Value.int .i64 x1) hF Zj rfl (fun w hW => GP any w (IntKind.u64.wrap (p0.length : Int)) _ h1)) (fun a w hF hW => ?_)
 refine ls hF hW rfl ((Al hF rfl).q) (fun a w hF hW => ?_)
 obtain ⟨x2,h2,H⟩ := Ad H
 refine A9 (Ml := []) (Zl := [row v1 3 (Rp.int .i64) p0]) (β := Unit) (rv := fun x => .tuple #[]) (MM := fun x => []) (ZZ := fun x => [row v1 3 (Rp.int .i64) x2]) hF hW aI rfl rfl (fun hL => Fe _ _ w (v1) q_p1c0 (v2) p0 0 (p0.length : Int) x1 p1c0 _ h2 (hW.roX h_v2 (fun g hg => QZ hg)) (At.reX (Ml := []) (Zl := [row v1 3 (Rp.int .i64) p0]) (M := []) (Z := []) a_q_p1c0 hW) hL) (fun x a w hF hW => ?_)
 have hW : Stw ⟨Y,X,w0⟩ [] [row v1 3 (Rp.int .i64) x2] w := hW
 refine D1 ?_
 have H := Option.some.inj H
 subst H
 refine GO (.inr rfl) hF rfl ?_
 exact ⟨(),rfl,hW⟩
theorem dY : Has Tryz.prog 137 := Bj Tryz.func137
def C5 (p0 : List Nat) (p1 : Int) : Bool := (decide (0 ≤ p1) && decide (p1 < (p0.length : Int)))
theorem KR (Y : Nat → Prop) (w0 : World) (v1 : Value) (p0 : List Nat) (p1 : Int) (r : Bool) (H : C5 p0 p1 = r) (h_v1 : Sl w0 (NX []) (Rp.flt .f64) v1 p0) :
    Calls Tryz.prog 178 #[v1,.int .i64 p1] w0 fun e w' => e = .returned (.bool r) ∧ Below w0.heap.size w0 w' := by
 refine enter Tryz.func178 rfl Tryz.ntmps178 rfl (fun a hF => ?_)
 have hW := Stw.start Y w0
 unfold C5 at H
 refine vc tk 5 hF hW fun a w hF hW => ?_
 refine Aj (fun a w => Fr 13 [] [(4,.bool (decide (0 ≤ p1) && decide (p1 < (p0.length : Int))))] a ∧ Stw ⟨Y,[],w0⟩ [] [] w) ?_ ?_
 ·
  refine vc tk 4 hF hW fun a w hF hW => ?_
  rcases bxq (decide (0 ≤ p1)) with hb0 | hb0
  ·
   rw [hb0] at hF
   refine vl tk 2 hF hW fun a w hF hW => ?_
   refine BC hF hW (Ac hF rfl rfl rfl rfl) rfl (ze rfl) ((AK (r := (Rp.flt .f64)) (l := p0) Pe rfl hF rfl (Ab h_v1)).q) (fun a w hF hW => ?_)
   refine vl tk 4 hF hW fun a w hF hW => ?_
   refine Aa ?_
   exact ⟨hF.re ⟨(Di (by try rw [hb0]; all_goals simp only [Dl])),trivial⟩,hW⟩
  ·
   rw [hb0] at hF
   refine vl tk 7 hF hW fun a w hF hW => ?_
   refine Aa ?_
   exact ⟨hF.re ⟨(Di (by try rw [hb0]; all_goals simp only [Dl])),trivial⟩,hW⟩
 rintro a w ⟨hF,hW⟩
 refine Ah ?_
 subst H
 refine Aw (.inl rfl) hF hW rfl (Ag hF rfl) ?_
 exact ⟨rfl,hW.done⟩
theorem cB : Has Tryz.prog 178 := Bj Tryz.func178
def FC (p0 : List Nat) (p1 : Int) : Option Bool := (if (C5 p0 p1) = true then (ix p0 p1).bind fun x2 => (EK 1).bind fun x3 => some (RO x2 x3) else some false).bind fun x1 => some x1
theorem KO (Y : Nat → Prop) (w0 : World) (v1 : Value) (p0 : List Nat) (p1 : Int) (r : Bool) (H : FC p0 p1 = some r) (h_v1 : Sl w0 (NX []) (Rp.flt .f64) v1 p0) :
    Calls Tryz.prog 140 #[v1,.int .i64 p1] w0 fun e w' => e = .returned (.bool r) ∧ Below w0.heap.size w0 w' := by
 refine enter Tryz.func140 rfl Tryz.ntmps140 rfl (fun a hF => ?_)
 have hW := Stw.start Y w0
 unfold FC at H
 refine vc tk 5 hF hW fun a w hF hW => ?_
 obtain ⟨o1,G1,K1⟩ := Ad H
 refine Aj (fun a w => ∃ x1 : Bool,some (x1) = some o1 ∧ Fr 16 [] [(4,.bool x1)] a ∧ Stw ⟨Y,[],w0⟩ [] [] w) ?_ ?_
 ·
  have H := G1
  clear G1 K1
  refine BV hW MO (by kernel_rfl) ?_
  iterate 2 refine qs hF rfl ((Al hF rfl).q) (fun a hF => ?_)
  refine qs hF rfl (Av (v := Value.bool (C5 p0 p1)) hF cB rfl (fun w hW => KR any w (v1) p0 p1 _ rfl (D3 (Ab h_v1) hW))) (fun a hF => ?_)
  refine qs hF rfl ((Al hF rfl).q) (fun a hF => ?_)
  rcases bxq (C5 p0 p1) with hb | hb
  ·
   have H := BP hb H
   rw [hb] at hF
   clear hb
   iterate 2 refine Bf hF (Ac hF rfl rfl rfl rfl) rfl (ze rfl) ((Al hF rfl).q) (fun a hF => ?_)
   obtain ⟨x2,h1,H⟩ := Ad H
   refine Bf hF (Ac hF rfl rfl rfl rfl) rfl (ze rfl) ((Ai (r := (Rp.flt .f64)) LC hF rfl rfl (Ab h_v1) h1).q) (fun a hF => ?_)
   refine Bf hF (Ac hF rfl rfl rfl rfl) rfl (ze rfl) ((Af (y := Value.float .f64 x2) (j := 0) (i := p1) hF rfl rfl (Ab h_v1) h1 Fl.flt.to JF rfl).q) (fun a hF => ?_)
   obtain ⟨x3,h2,H⟩ := Ad H
   refine Bf hF (Ac hF rfl rfl rfl rfl) rfl (ze rfl) (Av (v := Value.float .f64 x3) hF UY rfl (fun w hW => Gv any w 1 _ h2)) (fun a hF => ?_)
   refine Bf hF (Ac hF rfl rfl rfl rfl) rfl (ze rfl) ((KP hF rfl rfl).q) (fun a hF => ?_)
   refine qs hF rfl ((CE hF rfl rfl rfl).q) (fun a hF => ?_)
   refine qs hF rfl ((BB hF rfl).q) (fun a hF => ?_)
   refine AX (fun w hW => ?_)
   refine Aa ?_
   exact ⟨_,H,hF.ra rfl,hW⟩
  ·
   have H := BQ (by rw [hb]; decide) H
   rw [hb] at hF
   clear hb
   iterate 6 refine DS hF (B4 hF rfl rfl rfl rfl rfl) rfl rfl (fun a hF => ?_)
   refine qs hF rfl ((Cy hF rfl rfl rfl).q) (fun a hF => ?_)
   refine qs hF rfl ((BB hF rfl).q) (fun a hF => ?_)
   refine AX (fun w hW => ?_)
   refine Aa ?_
   exact ⟨_,H,hF.ra rfl,hW⟩
 rintro a w ⟨x1,hj,hF,hW⟩
 have hj := Option.some.inj hj
 subst hj
 have H := K1
 clear G1 K1
 refine Ah ?_
 have H := Option.some.inj H
 subst H
 refine Aw (.inl rfl) hF hW rfl (Ag hF rfl) ?_
 exact ⟨rfl,hW.done⟩
theorem Lp {a b : Nat} (h : FE a = FE b) : Bv a = Bv b := by
  refine V3 (f := fun a : Nat => Bv a) (fun a h => ?_) h
  first
  | (have e1 : Ca a = true := by unfold Ca; rw [QG h]; rfl
     have e2 : Ca 9221120237041090561 = true := by unfold Ca; rw [QG (by decide)]; rfl
     show Bv a = Bv 9221120237041090561
     unfold Bv
     simp only [e1,e2,if_true]; done)
  | exact HZ h
theorem Ys : Has Tryz.prog 140 := Bj Tryz.func140
def Bm (p0 : Nat) (p1 : Nat) : Nat := (if (Ni (Bv (FS p0 p1)) 0) = true then 0 else (Bv (FS p0 p1)))
theorem IU (Y : Nat → Prop) (w0 : World)  (p0 : Nat) (p1 : Nat) (r : Nat) (H : Bm p0 p1 = r)  :
    Calls Tryz.prog 141 #[.float .f64 p0,.float .f64 p1] w0 fun e w' => e = .returned (.float .f64 r) ∧ Below w0.heap.size w0 w' := by
 refine enter Tryz.func141 rfl Tryz.ntmps141 rfl (fun a hF => ?_)
 have hW := Stw.start Y w0
 unfold Bm at H
 refine vc tk 9 hF hW fun a w hF hW => ?_
 refine S4 hF hW rfl rfl rfl (fun b1 a w c_b1 hF hW => ?_)
 refine ls hF hW rfl (Av (v := Value.float .f64 (Bv b1)) hF Zp rfl (fun w hW => Ia any w b1 _ rfl)) (fun a w hF hW => ?_)
 rw [Lp c_b1] at hF
 refine Bc tk 7 hF hW fun a w hF hW => ?_
 refine ls hF hW rfl ((Pp hF rfl rfl).q) (fun a w hF hW => ?_)
 refine Bc tk 2 hF hW fun a w hF hW => ?_
 refine BA hF rfl H (fun hF H => ?_) (fun hF H => ?_)
 ·
  refine vc tk 5 hF hW fun a w hF hW => ?_
  refine Ah ?_
  refine Ak ?_
  subst H
  refine Aw (.inl rfl) hF hW rfl (Ag hF rfl) ?_
  exact ⟨rfl,hW.done⟩
 ·
  refine D2 tk 8 hF hW fun a w hF hW => ?_
  refine Ah ?_
  subst H
  refine Aw (.inl rfl) hF hW rfl (Ag hF rfl) ?_
  exact ⟨rfl,hW.done⟩
end
end Go.Proofs.YtbiekjhlijdjbaaGreat
