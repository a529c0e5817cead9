/- The functions of CtlCheck, Hu. Conditions: none. -/
import Derived.Test.YtbiekjhlijdjbaaGreatbA1
set_option linter.unusedVariables false
set_option linter.unusedSimpArgs false
open Go Go.RowKit
namespace Go.Proofs.YtbiekjhlijdjbaaGreat
noncomputable section
set_option maxRecDepth 20000
set_option maxHeartbeats 1600000
theorem YI : Has Tryz.prog 141 := Bj Tryz.func141
def CP (p2 : Int) (x4 : List Nat) : (List Int × Int) → Option ((List Int × Int) ⊕ (List Int))
  | (x7,x8) => (if x8 < ((Ao x4 p2 0).length : Int) then (app x7 ([x8] : List Int)).bind fun x9 => some (.inl (x9,w64 (x8 + 1))) else some (.inr x7))
def B3 (p1 : List Nat) (x13 : List Int) (x14 : Int) (x16 : (List (Int × Int × Int))) : (Int × List Nat) → Option ((Int × List Nat) ⊕ ((List Int × List Nat) ⊕ (List Nat)))
  | (x17,x18) => (if x17 < (x16.length : Int) then ((ix x16 x17).bind fun x20 => (FC p1 x20.2.2).bind fun x21 => (if x21 = true then (ix x18 x20.2.1).bind fun x22 => (ix p1 x20.2.2).bind fun x23 => (ix x18 x14).bind fun x24 => (Le x22 (Bm x23 x24)).bind fun x25 => (ix x18 x20.2.1).bind fun x26 => some (Ao x18 x20.2.1 x25) else some x18)).bind fun x19 => some (.inl (w64 (x17 + 1),x19)) else (GF x13 1 (x13.length : Int)).bind fun x27 => some (.inr (.inl (x27,x18))))
def CO (p0 : Int × (List (Int × Int × Int × Int × Int × Int)) × (List (Int × Int))) (p1 : List Nat) : (List Int × List Nat) → Option ((List Int × List Nat) ⊕ (List Nat))
  | (x11,x12) => (if 0 < (x11.length : Int) then (BM x11 x12).bind fun x13 => (ix x13 0).bind fun x14 => (GF x13 1 (x13.length : Int)).bind fun x15 => (Dk p0 x14).bind fun x16 => Am (B3 p1 x13 x14 x16) (0,x12) else some (.inr x12))
def CU (p0 : Int × (List (Int × Int × Int × Int × Int × Int)) × (List (Int × Int))) (p1 : List Nat) (p2 : Int) : Option (List Nat) := ((Dv p0 p1).bind fun x2 => (if (!x2) = true then some true else (if p2 < 0 then some true else some (decide (p0.1 ≤ p2))))).bind fun x1 => (if x1 = true then some ([] : List Nat) else (EK 1).bind fun x3 => (AV ([x3] : List Nat) p0.1).bind fun x4 => (ix x4 p2).bind fun x5 => (Am (CP p2 x4) ([],0)).bind fun x6 => (Am (CO p0 p1) (x6,(Ao x4 p2 0))).bind fun x10 => (aP x10).bind fun x28 => some x10)
theorem HY (Y : Nat → Prop) (w0 : World) (v1 : Value) (v2 : Value) (v3 : Value) (p0 : Int × (List (Int × Int × Int × Int × Int × Int)) × (List (Int × Int))) (p1 : List Nat) (p2 : Int) (r : List Nat) (H : CU p0 p1 p2 = some r) (h_v1 : Sl w0 (NX []) B8 v1 p0.2.1) (h_v2 : Sl w0 (NX []) Cc v2 p0.2.2) (h_v3 : Sl w0 (NX []) (Rp.flt .f64) v3 p1) :
    Calls Tryz.prog 98 #[.agg #[.int .i64 p0.1,v1,v2],v3,.int .i64 p2] w0 fun e w' => ∃ x : {x : Value // NN x (r)},e = .returned (x.1) ∧ Stw ⟨Y,[],w0⟩ [] [row (x.1) 147 (Rp.flt .f64) r] w' := by
 refine enter Tryz.func98 rfl Tryz.ntmps98 rfl (fun a hF => ?_)
 have hW := Stw.start Y w0
 unfold CU at H
 refine vc tk 2 hF hW fun a w hF hW => ?_
 refine Cv (cs := [.int .i64 p0.1,v1,v2]) hF hW rfl rfl rfl (fun b1 a w hF hW => ?_)
 refine Bc tk 4 hF hW fun a w hF hW => ?_
 obtain ⟨o1,G1,K1⟩ := Ad H
 refine Aj (fun a w => ∃ x1 : Bool,some (x1) = some o1 ∧ Fr 90 [] [(1,v3),(2,.int .i64 p2),(3,.pointer (some ⟨b1,0,none⟩)),(6,.slice none 0 0),(26,.bool x1)] a ∧ Stw ⟨Y,[],w0⟩ [(b1,[.int .i64 p0.1,v1,v2])] [] w) ?_ ?_
 ·
  have H := G1
  clear G1 K1
  refine D7 tk 3 [0] hF hW (ai fun a w hF hW => ?_)
  obtain ⟨x2,h1,H⟩ := Ad H
  refine ls hF hW rfl (Av (v := Value.bool x2) hF ZU rfl (fun w hW => FQ any w (v1) (v2) (v3) p0 p1 _ h1 (D3 (Ab h_v1) hW) (D3 (Ab h_v2) hW) (D3 (Ab h_v3) hW))) (fun a w hF hW => ?_)
  refine vl tk 2 hF hW fun a w hF hW => ?_
  rcases bxq (!x2) with hb | hb
  ·
   have H := BP hb H
   rw [hb] at hF
   clear hb
   refine vl tk 10 hF hW fun a w hF hW => ?_
   refine Aa ?_
   exact ⟨_,H,hF.ra rfl,hW⟩
  ·
   have H := BQ (by rw [hb]; decide) H
   rw [hb] at hF
   clear hb
   refine vl tk 4 hF hW fun a w hF hW => ?_
   rcases bxq (decide (p2 < 0)) with hb | hb
   ·
    have H := BP (of_decide_eq_true hb) H
    rw [hb] at hF
    clear hb
    refine vl tk 6 hF hW fun a w hF hW => ?_
    refine Aa ?_
    exact ⟨_,H,hF.ra rfl,hW⟩
   ·
    have H := BQ (of_decide_eq_false hb) H
    rw [hb] at hF
    clear hb
    refine Eb tk 6 [0] hF hW (ai fun a w hF hW => ?_)
    refine Aa ?_
    exact ⟨_,H,hF.ra rfl,hW⟩
 rintro a w ⟨x1,hj,hF,hW⟩
 have hj := Option.some.inj hj
 subst hj
 have H := K1
 clear G1 K1
 refine BA hF rfl H (fun hF H => ?_) (fun hF H => ?_)
 ·
  refine vc tk 5 hF hW fun a w hF hW => ?_
  refine Ah ?_
  refine Ak ?_
  have H := Option.some.inj H
  subst H
  refine Aw (.inl rfl) hF hW rfl (Ag hF rfl) ?_
  have hW := hW.nilRow 147 (Rp.flt .f64)
  have hW := hW.sub (M' := []) (Z' := [row (Value.slice none 0 0) 147 (Rp.flt .f64) ([])]) (List.nil_sublist _) (List.Sublist.refl _)
  exact ⟨⟨Value.slice none 0 0,fun h => nomatch h⟩,rfl,hW⟩
 ·
  refine D2 tk 3 hF hW fun a w hF hW => ?_
  obtain ⟨x3,h2,H⟩ := Ad H
  obtain ⟨x4,h3,H⟩ := Ad H
  refine US (fun a w => ∃ b2 : Nat, ∃ v4 : Value, ∃ v5 : Value,Fr 90 [] [(1,v3),(2,.int .i64 p2),(3,.pointer (some ⟨b1,0,none⟩)),(6,.slice none 0 0),(7,.pointer (some ⟨b2,0,none⟩)),(26,.bool false),(27,.float .f64 x3),(28,v4),(29,.pointer (some ⟨b1,0,none⟩)),(30,.int .i64 p0.1),(31,v5)] a ∧ Stw ⟨Y,[],w0⟩ [(b2,[v5]),(b1,[.int .i64 p0.1,v1,v2])] [row v5 147 (Rp.flt .f64) x4,KB v4 (Rp.flt .f64) ([x3] : List Nat)] w) ?_ ?_
  ·
   refine Uq (PT.st 2 (PT.st 3 (PT.alt 0 (PT.alt 1 (PT.alt 4 (PT.alt 5 (PT.alt 6 PT.done PT.stop) PT.stop) (PT.alt 5 (PT.alt 4 (PT.alt 6 PT.done PT.stop) PT.stop) PT.stop)) (PT.alt 5 (PT.alt 1 (PT.alt 4 (PT.alt 6 PT.done PT.stop) PT.stop) PT.stop) PT.stop)) (PT.alt 5 (PT.alt 0 (PT.alt 1 (PT.alt 4 (PT.alt 6 PT.done PT.stop) PT.stop) PT.stop) PT.stop) PT.stop)))) (CN ⟨Y,[],w0⟩ [(some 4,b1,[.int .i64 p0.1,v1,v2])] []) (fun ch a d v w h => by cases d <;> exact h) MO (by kernel_rfl) hW (fun w hW => ⟨_,_,hW,(all_cons (fun _ => (.head _)) As),As⟩) (fun w hW => ?_)
   refine YR (R := []) hF rfl rfl (yC fun M Z hN hZ => Au SG rfl rfl rfl T3 hF rfl 0 rfl) rfl rfl (fun a hF => ?_)
   refine YR (R := [4]) hF rfl rfl (yC fun M Z hN hZ => Gh (cs := [.int .i64 p0.1,v1,v2]) (v := Value.int .i64 p0.1) hF rfl (hN ((some 4),b1,[.int .i64 p0.1,v1,v2]) (.head _) rfl) T3 rfl) (by kernel_rfl) rfl (fun a hF => ?_)
   refine Qg rfl ?_ ?_
   ·
    refine ls hF hW rfl (Av (v := Value.float .f64 x3) hF UY rfl (fun w hW => Gv any w 1 _ h2)) (fun a w hF hW => ?_)
    refine CA (N2 := []) (NZ2 := []) (N3 := [(some 4,b1,[.int .i64 p0.1,v1,v2])]) (NZ3 := []) hW rfl rfl (all_cons (fun _ => (.head _)) As) As ?_
    refine Qg rfl ?_ ?_
    ·
     refine CK (z := Value.float .f64 0) (cs := [.float .f64 x3]) (Rp.flt .f64) ([x3] : List Nat) hF hW rfl LC Ti rfl rfl rfl rfl rfl rfl (Fl.flt.repL _ _ ([x3] : List Nat)) (fun v4 a w hF hW => ?_)
     refine CA (N2 := []) (NZ2 := []) (N3 := [(some 4,b1,[.int .i64 p0.1,v1,v2])]) (NZ3 := []) hW rfl rfl (all_cons (fun _ => (.head _)) As) As ?_
     refine Qg rfl ?_ ?_
     ·
      have hW := hW.freeze
      refine A9 (Ml := []) (Zl := []) (β := Value) (rv := fun x => x) (MM := fun x => []) (ZZ := fun x => [row x 147 (Rp.flt .f64) x4]) hF hW Vq rfl rfl (fun hL => Bu _ w (v4) ([x3] : List Nat) p0.1 _ h3 (hW.item (i := 0) rfl)) (fun x a w hF hW => ?_)
      obtain ⟨v5,rfl⟩ : ∃ y,y = x := ⟨x,rfl⟩
      have hW : Stw ⟨Y,[],w0⟩ [(b1,[.int .i64 p0.1,v1,v2])] [row v5 147 (Rp.flt .f64) x4,KB v4 (Rp.flt .f64) ([x3] : List Nat)] w := hW
      refine CA (N2 := []) (NZ2 := []) (N3 := [(some 4,b1,[.int .i64 p0.1,v1,v2])]) (NZ3 := []) hW rfl rfl (all_cons (fun h => Bl (by kernel_rfl) h) As) As ?_
      refine Hj rfl ?_
      refine Ck (cs := [.slice none 0 0]) hF hW rfl Zw rfl (fun b2 a w hF hW => ?_)
      refine CA (N2 := []) (NZ2 := []) (N3 := [(some 4,b1,[.int .i64 p0.1,v1,v2])]) (NZ3 := []) hW rfl rfl (all_cons (fun h => Bl (by kernel_rfl) h) As) As ?_
      refine Hj rfl ?_
      refine IZ (M' := [(b2,[v5]),(b1,[.int .i64 p0.1,v1,v2])]) 0 hF hW rfl rfl rfl UL (hW.one (k := 0) rfl) rfl rfl (fun w hW => ?_)
      refine CA (N2 := []) (NZ2 := []) (N3 := [(some 4,b1,[.int .i64 p0.1,v1,v2])]) (NZ3 := []) hW rfl rfl (all_cons (fun h => Bl (by kernel_rfl) h) As) As ?_
      have hW := hW.frontZ (i := 1) rfl rfl
      have hW := hW.frontZ (i := 1) rfl rfl
      have hW := hW.frontM (i := 1) rfl rfl
      have hW := hW.frontM (i := 1) rfl rfl
      refine Nq ?_
      exact ⟨b2,v4,v5,hF.ra rfl,hW⟩
     refine Qg rfl ?_ ?_
     ·
      refine Ck (cs := [.slice none 0 0]) hF hW rfl Zw rfl (fun b2 a w hF hW => ?_)
      refine CA (N2 := []) (NZ2 := []) (N3 := [(some 4,b1,[.int .i64 p0.1,v1,v2])]) (NZ3 := []) hW rfl rfl (all_cons (fun _ => (.tail _ (.head _))) As) As ?_
      refine Hj rfl ?_
      have hW := hW.freeze
      refine A9 (Ml := []) (Zl := []) (β := Value) (rv := fun x => x) (MM := fun x => []) (ZZ := fun x => [row x 147 (Rp.flt .f64) x4]) hF hW Vq rfl rfl (fun hL => Bu _ w (v4) ([x3] : List Nat) p0.1 _ h3 (hW.item (i := 0) rfl)) (fun x a w hF hW => ?_)
      obtain ⟨v5,rfl⟩ : ∃ y,y = x := ⟨x,rfl⟩
      have hW : Stw ⟨Y,[],w0⟩ [(b2,[.slice none 0 0]),(b1,[.int .i64 p0.1,v1,v2])] [row v5 147 (Rp.flt .f64) x4,KB v4 (Rp.flt .f64) ([x3] : List Nat)] w := hW
      refine CA (N2 := []) (NZ2 := []) (N3 := [(some 4,b1,[.int .i64 p0.1,v1,v2])]) (NZ3 := []) hW rfl rfl (all_cons (fun h => Bl (by kernel_rfl) h) As) As ?_
      refine Hj rfl ?_
      refine IZ (M' := [(b2,[v5]),(b1,[.int .i64 p0.1,v1,v2])]) 0 hF hW rfl rfl rfl UL (hW.one (k := 0) rfl) rfl rfl (fun w hW => ?_)
      refine CA (N2 := []) (NZ2 := []) (N3 := [(some 4,b1,[.int .i64 p0.1,v1,v2])]) (NZ3 := []) hW rfl rfl (all_cons (fun h => Bl (by kernel_rfl) h) As) As ?_
      have hW := hW.frontZ (i := 1) rfl rfl
      have hW := hW.frontZ (i := 1) rfl rfl
      have hW := hW.frontM (i := 1) rfl rfl
      have hW := hW.frontM (i := 1) rfl rfl
      refine Nq ?_
      exact ⟨b2,v4,v5,hF.ra rfl,hW⟩
     exact trivial
    refine Qg rfl ?_ ?_
    ·
     refine Ck (cs := [.slice none 0 0]) hF hW rfl Zw rfl (fun b2 a w hF hW => ?_)
     refine CA (N2 := []) (NZ2 := []) (N3 := [(some 4,b1,[.int .i64 p0.1,v1,v2])]) (NZ3 := []) hW rfl rfl (all_cons (fun _ => (.tail _ (.head _))) As) As ?_
     refine Hj rfl ?_
     refine CK (z := Value.float .f64 0) (cs := [.float .f64 x3]) (Rp.flt .f64) ([x3] : List Nat) hF hW rfl LC Ti rfl rfl rfl rfl rfl rfl (Fl.flt.repL _ _ ([x3] : List Nat)) (fun v4 a w hF hW => ?_)
     refine CA (N2 := []) (NZ2 := []) (N3 := [(some 4,b1,[.int .i64 p0.1,v1,v2])]) (NZ3 := []) hW rfl rfl (all_cons (fun _ => (.tail _ (.head _))) As) As ?_
     refine Hj rfl ?_
     have hW := hW.freeze
     refine A9 (Ml := []) (Zl := []) (β := Value) (rv := fun x => x) (MM := fun x => []) (ZZ := fun x => [row x 147 (Rp.flt .f64) x4]) hF hW Vq rfl rfl (fun hL => Bu _ w (v4) ([x3] : List Nat) p0.1 _ h3 (hW.item (i := 0) rfl)) (fun x a w hF hW => ?_)
     obtain ⟨v5,rfl⟩ : ∃ y,y = x := ⟨x,rfl⟩
     have hW : Stw ⟨Y,[],w0⟩ [(b2,[.slice none 0 0]),(b1,[.int .i64 p0.1,v1,v2])] [row v5 147 (Rp.flt .f64) x4,KB v4 (Rp.flt .f64) ([x3] : List Nat)] w := hW
     refine CA (N2 := []) (NZ2 := []) (N3 := [(some 4,b1,[.int .i64 p0.1,v1,v2])]) (NZ3 := []) hW rfl rfl (all_cons (fun h => Bl (by kernel_rfl) h) As) As ?_
     refine Hj rfl ?_
     refine IZ (M' := [(b2,[v5]),(b1,[.int .i64 p0.1,v1,v2])]) 0 hF hW rfl rfl rfl UL (hW.one (k := 0) rfl) rfl rfl (fun w hW => ?_)
     refine CA (N2 := []) (NZ2 := []) (N3 := [(some 4,b1,[.int .i64 p0.1,v1,v2])]) (NZ3 := []) hW rfl rfl (all_cons (fun h => Bl (by kernel_rfl) h) As) As ?_
     have hW := hW.frontZ (i := 1) rfl rfl
     have hW := hW.frontZ (i := 1) rfl rfl
     have hW := hW.frontM (i := 1) rfl rfl
     have hW := hW.frontM (i := 1) rfl rfl
     refine Nq ?_
     exact ⟨b2,v4,v5,hF.ra rfl,hW⟩
    exact trivial
   refine Qg rfl ?_ ?_
   ·
    refine Ck (cs := [.slice none 0 0]) hF hW rfl Zw rfl (fun b2 a w hF hW => ?_)
    refine CA (N2 := []) (NZ2 := []) (N3 := [(some 4,b1,[.int .i64 p0.1,v1,v2])]) (NZ3 := []) hW rfl rfl (all_cons (fun _ => (.tail _ (.head _))) As) As ?_
    refine Hj rfl ?_
    refine ls hF hW rfl (Av (v := Value.float .f64 x3) hF UY rfl (fun w hW => Gv any w 1 _ h2)) (fun a w hF hW => ?_)
    refine CA (N2 := []) (NZ2 := []) (N3 := [(some 4,b1,[.int .i64 p0.1,v1,v2])]) (NZ3 := []) hW rfl rfl (all_cons (fun _ => (.tail _ (.head _))) As) As ?_
    refine Hj rfl ?_
    refine CK (z := Value.float .f64 0) (cs := [.float .f64 x3]) (Rp.flt .f64) ([x3] : List Nat) hF hW rfl LC Ti rfl rfl rfl rfl rfl rfl (Fl.flt.repL _ _ ([x3] : List Nat)) (fun v4 a w hF hW => ?_)
    refine CA (N2 := []) (NZ2 := []) (N3 := [(some 4,b1,[.int .i64 p0.1,v1,v2])]) (NZ3 := []) hW rfl rfl (all_cons (fun _ => (.tail _ (.head _))) As) As ?_
    refine Hj rfl ?_
    have hW := hW.freeze
    refine A9 (Ml := []) (Zl := []) (β := Value) (rv := fun x => x) (MM := fun x => []) (ZZ := fun x => [row x 147 (Rp.flt .f64) x4]) hF hW Vq rfl rfl (fun hL => Bu _ w (v4) ([x3] : List Nat) p0.1 _ h3 (hW.item (i := 0) rfl)) (fun x a w hF hW => ?_)
    obtain ⟨v5,rfl⟩ : ∃ y,y = x := ⟨x,rfl⟩
    have hW : Stw ⟨Y,[],w0⟩ [(b2,[.slice none 0 0]),(b1,[.int .i64 p0.1,v1,v2])] [row v5 147 (Rp.flt .f64) x4,KB v4 (Rp.flt .f64) ([x3] : List Nat)] w := hW
    refine CA (N2 := []) (NZ2 := []) (N3 := [(some 4,b1,[.int .i64 p0.1,v1,v2])]) (NZ3 := []) hW rfl rfl (all_cons (fun h => Bl (by kernel_rfl) h) As) As ?_
    refine Hj rfl ?_
    refine IZ (M' := [(b2,[v5]),(b1,[.int .i64 p0.1,v1,v2])]) 0 hF hW rfl rfl rfl UL (hW.one (k := 0) rfl) rfl rfl (fun w hW => ?_)
    refine CA (N2 := []) (NZ2 := []) (N3 := [(some 4,b1,[.int .i64 p0.1,v1,v2])]) (NZ3 := []) hW rfl rfl (all_cons (fun h => Bl (by kernel_rfl) h) As) As ?_
    have hW := hW.frontZ (i := 1) rfl rfl
    have hW := hW.frontZ (i := 1) rfl rfl
    have hW := hW.frontM (i := 1) rfl rfl
    have hW := hW.frontM (i := 1) rfl rfl
    refine Nq ?_
    exact ⟨b2,v4,v5,hF.ra rfl,hW⟩
   exact trivial
  rintro a w ⟨b2,v4,v5,hF,hW⟩
  refine eZ tk 4 [0] hF hW (ai fun a w hF hW => ?_)
  obtain ⟨x5,h4,H⟩ := Ad H
  refine ls hF hW rfl ((Ai (r := (Rp.flt .f64)) LC hF rfl rfl (Ae 0 rfl) h4).q) (fun a w hF hW => ?_)
  refine BE (i := p2) (j := 0) (vs := [.float .f64 0]) (x' := 0) hF hW rfl rfl rfl (k := 0) rfl rfl h4 JF rfl rfl rfl rfl (fun A cs _ => Fl.flt.sto (by rfl) _ _ _) (fun w hW => ?_)
  refine Bc tk 7 hF hW fun a w hF hW => ?_
  obtain ⟨o2,G2,K2⟩ := Ad H
  refine Aj (fun a w => ∃ x6 : List Int, ∃ v6 : Value,some (x6) = some o2 ∧ Fr 90 [] [(1,v3),(3,.pointer (some ⟨b1,0,none⟩)),(6,.slice none 0 0),(7,.pointer (some ⟨b2,0,none⟩)),(8,v6)] a ∧ Stw ⟨Y,[],w0⟩ [(b2,[v5]),(b1,[.int .i64 p0.1,v1,v2])] [row v6 3 (Rp.int .i64) x6,row v5 147 (Rp.flt .f64) (Ao x4 p2 0)] w) ?_ ?_
  ·
   have H := G2
   clear G2 K2
   refine D7 tk 3 [0] hF hW (ai fun a w hF hW => ?_)
   refine ls hF hW rfl ((AK (r := (Rp.flt .f64)) (l := (Ao x4 p2 0)) Pe rfl hF rfl (Ae 0 rfl)).q) (fun a w hF hW => ?_)
   refine Bc tk 4 hF hW fun a w hF hW => ?_
   have hW := hW.nilRow 3 (Rp.int .i64)
   have hW := hW.frontZ (i := 1) rfl rfl
   have hW := hW.frontZ (i := 1) rfl rfl
   have hW := hW.frontM (i := 1) rfl rfl
   have hW := hW.frontM (i := 1) rfl rfl
   have hW := hW.sub (M' := [(b2,[v5]),(b1,[.int .i64 p0.1,v1,v2])]) (Z' := [row (Value.slice none 0 0) 3 (Rp.int .i64) ([]),row v5 147 (Rp.flt .f64) (Ao x4 p2 0)]) (List.Sublist.refl _) (List.Sublist.cons_cons _ (List.Sublist.cons_cons _ (List.nil_sublist _)))
   refine AD H (fun s a w => ∃ v7 : Value,Fr 90 [] [(1,v3),(3,.pointer (some ⟨b1,0,none⟩)),(6,.slice none 0 0),(7,.pointer (some ⟨b2,0,none⟩)),(8,v7),(36,.int .i64 ((Ao x4 p2 0).length : Int)),(37,.int .i64 s.2)] a ∧ Stw ⟨Y,[],w0⟩ [(b2,[v5]),(b1,[.int .i64 p0.1,v1,v2])] [row v7 3 (Rp.int .i64) s.1,row v5 147 (Rp.flt .f64) (Ao x4 p2 0)] w) ⟨(Value.slice none 0 0),hF.ra rfl,hW⟩ (fun s o a w H L3 hR => ?_)
   obtain ⟨x7,x8⟩ := s
   obtain ⟨v7,hF,hW⟩ := hR
   have hF : Fr 90 [] [(1,v3),(3,.pointer (some ⟨b1,0,none⟩)),(6,.slice none 0 0),(7,.pointer (some ⟨b2,0,none⟩)),(8,v7),(36,.int .i64 ((Ao x4 p2 0).length : Int)),(37,.int .i64 x8)] a := hF
   have hW : Stw ⟨Y,[],w0⟩ [(b2,[v5]),(b1,[.int .i64 p0.1,v1,v2])] [row v7 3 (Rp.int .i64) x7,row v5 147 (Rp.flt .f64) (Ao x4 p2 0)] w := hW
   rw [CP] at H
   refine vc tk 6 hF hW fun a w hF hW => ?_
   refine AG hF rfl H (fun hF H => ?_) (fun hF H => ?_)
   ·
    refine D2 tk 13 hF hW fun a w hF hW => ?_
    refine CK (z := Value.int .i64 0) (cs := [.int .i64 x8]) (Rp.int .i64) ([x8] : List Int) hF hW rfl Do Z3 rfl rfl rfl rfl rfl rfl (Fl.int.repL _ _ ([x8] : List Int)) (fun v8 a w hF hW => ?_)
    obtain ⟨x9,h5,H⟩ := Ad H
    refine BF (r := (Rp.int .i64)) (i := 1) hF hW rfl Do rfl rfl rfl rfl (BU hW 0 rfl) h5 rfl (fun v9 a w hF hW => ?_)
    have hW : Stw ⟨Y,[],w0⟩ [(b2,[v5]),(b1,[.int .i64 p0.1,v1,v2])] [row v9 3 (Rp.int .i64) x9,row v8 3 (Rp.int .i64) ([x8] : List Int),row v5 147 (Rp.flt .f64) (Ao x4 p2 0)] w := hW
    refine vl tk 2 hF hW fun a w hF hW => ?_
    refine An ?_
    refine vn tk 4 hF hW fun a w hF hW => ?_
    refine Aa ?_
    have hW := hW.frontZ (i := 2) rfl rfl
    have hW := hW.frontZ (i := 1) rfl rfl
    have hW := hW.frontM (i := 1) rfl rfl
    have hW := hW.frontM (i := 1) rfl rfl
    have hW := hW.sub (M' := [(b2,[v5]),(b1,[.int .i64 p0.1,v1,v2])]) (Z' := [row v9 3 (Rp.int .i64) x9,row v5 147 (Rp.flt .f64) (Ao x4 p2 0)]) (List.Sublist.refl _) (List.Sublist.cons_cons _ (List.Sublist.cons_cons _ (List.nil_sublist _)))
    exact ⟨_,H,(v9),hF.ra rfl,hW⟩
   ·
    refine AE ?_
    iterate 2 refine AQ ?_
    refine AF ?_
    refine Aa ?_
    have hW := hW.frontZ (i := 1) rfl rfl
    have hW := hW.frontZ (i := 1) rfl rfl
    have hW := hW.frontM (i := 1) rfl rfl
    have hW := hW.frontM (i := 1) rfl rfl
    have H := L3 _ H
    exact ⟨_,(v7),H,hF.ra rfl,hW⟩
  rintro a w ⟨x6,v6,hj,hF,hW⟩
  have hj := Option.some.inj hj
  subst hj
  have H := K2
  clear G2 K2
  obtain ⟨o4,G4,K4⟩ := Ad H
  refine Aj (fun a w => ∃ x10 : List Nat,some (x10) = some o4 ∧ Fr 90 [] [(6,.slice none 0 0),(7,.pointer (some ⟨b2,0,none⟩))] a ∧ Stw ⟨Y,[],w0⟩ [(b2,[v5]),(b1,[.int .i64 p0.1,v1,v2])] [row v5 147 (Rp.flt .f64) x10] w) ?_ ?_
  ·
   have H := G4
   clear G4 K4
   refine EI ?_
   have hW := hW.frontZ (i := 1) rfl rfl
   have hW := hW.frontZ (i := 1) rfl rfl
   have hW := hW.frontM (i := 1) rfl rfl
   have hW := hW.frontM (i := 1) rfl rfl
   refine AD H (fun s a w => ∃ v10 : Value,Fr 90 [] [(1,v3),(3,.pointer (some ⟨b1,0,none⟩)),(6,.slice none 0 0),(7,.pointer (some ⟨b2,0,none⟩)),(8,v10)] a ∧ Stw ⟨Y,[],w0⟩ [(b2,[v5]),(b1,[.int .i64 p0.1,v1,v2])] [row v10 3 (Rp.int .i64) s.1,row v5 147 (Rp.flt .f64) s.2] w) ⟨(v6),hF.ra rfl,hW⟩ (fun s o a w H L5 hR => ?_)
   obtain ⟨x11,x12⟩ := s
   obtain ⟨v10,hF,hW⟩ := hR
   have hF : Fr 90 [] [(1,v3),(3,.pointer (some ⟨b1,0,none⟩)),(6,.slice none 0 0),(7,.pointer (some ⟨b2,0,none⟩)),(8,v10)] a := hF
   have hW : Stw ⟨Y,[],w0⟩ [(b2,[v5]),(b1,[.int .i64 p0.1,v1,v2])] [row v10 3 (Rp.int .i64) x11,row v5 147 (Rp.flt .f64) x12] w := hW
   rw [CO] at H
   refine vc tk 4 hF hW fun a w hF hW => ?_
   refine ls hF hW rfl ((AK (r := (Rp.int .i64)) (l := x11) GG rfl hF rfl (Ae 0 rfl)).q) (fun a w hF hW => ?_)
   refine Bc tk 3 hF hW fun a w hF hW => ?_
   refine AG hF rfl H (fun hF H => ?_) (fun hF H => ?_)
   ·
    refine D2 tk 6 hF hW fun a w hF hW => ?_
    refine ls hF hW rfl ((PN (us := []) (vs := [.pointer (some ⟨b2,0,none⟩)]) hF rfl rfl).q) (fun a w hF hW => ?_)
    obtain ⟨x13,h6,H⟩ := Ad H
    refine A9 (Ml := []) (Zl := [row v10 3 (Rp.int .i64) x11]) (β := Unit) (rv := fun x => .tuple #[]) (MM := fun x => []) (ZZ := fun x => [row v10 3 (Rp.int .i64) x13]) hF hW dY rfl rfl (fun hL => FF _ _ w (v10) b2 (v5) x11 x12 _ h6 (cT (Ml := []) (Zl := [row v10 3 (Rp.int .i64) x11]) (M := [(b2,[v5]),(b1,[.int .i64 p0.1,v1,v2])]) (Z := [row v5 147 (Rp.flt .f64) x12]) hW 0 rfl) (YU (Ml := []) (Zl := [row v10 3 (Rp.int .i64) x11]) hW 0 rfl) hL) (fun x a w hF hW => ?_)
    have hW : Stw ⟨Y,[],w0⟩ [(b2,[v5]),(b1,[.int .i64 p0.1,v1,v2])] [row v10 3 (Rp.int .i64) x13,row v5 147 (Rp.flt .f64) x12] w := hW
    refine Bc tk 5 hF hW fun a w hF hW => ?_
    obtain ⟨x14,h7,H⟩ := Ad H
    refine ls hF hW rfl ((Ai (r := (Rp.int .i64)) Do hF rfl rfl (Ae 0 rfl) h7).q) (fun a w hF hW => ?_)
    refine ls hF hW rfl ((Af (y := Value.int .i64 x14) (j := 0) (i := 0) hF rfl rfl (Ae 0 rfl) h7 Fl.int.to T3 rfl).q) (fun a w hF hW => ?_)
    refine Bc tk 6 hF hW fun a w hF hW => ?_
    obtain ⟨x15,h8,H⟩ := Ad H
    refine ls hF hW rfl ((GH (r := (Rp.int .i64)) Do hF rfl rfl rfl (Ae 0 rfl) h8).q) (fun a w hF hW => ?_)
    refine E9 tk 7 [1] hF hW (ai fun a w hF hW => ?_)
    obtain ⟨x16,h9,H⟩ := Ad H
    refine A9 (Ml := []) (Zl := []) (β := Value) (rv := fun x => x) (MM := fun x => []) (ZZ := fun x => [row x 187 A7 x16]) hF hW Zs rfl rfl (fun hL => FI _ w (v1) (v2) p0 x14 _ h9 ((Ab h_v1) w hW).nx ((Ab h_v2) w hW).nx) (fun x a w hF hW => ?_)
    obtain ⟨v11,rfl⟩ : ∃ y,y = x := ⟨x,rfl⟩
    have hW : Stw ⟨Y,[],w0⟩ [(b2,[v5]),(b1,[.int .i64 p0.1,v1,v2])] [row v11 187 A7 x16,row v10 3 (Rp.int .i64) x13,row v5 147 (Rp.flt .f64) x12] w := hW
    refine ls hF hW rfl ((AK (r := A7) (l := x16) MW rfl hF rfl (Ae 0 rfl)).q) (fun a w hF hW => ?_)
    refine Bc tk 4 hF hW fun a w hF hW => ?_
    have hW := hW.frontZ (i := 2) rfl rfl
    have hW := hW.frontZ (i := 1) rfl rfl
    have hW := hW.frontZ (i := 2) rfl rfl
    have hW := hW.frontM (i := 1) rfl rfl
    have hW := hW.frontM (i := 1) rfl rfl
    refine AD H (fun s a w => Fr 90 [] [(1,v3),(3,.pointer (some ⟨b1,0,none⟩)),(6,.slice none 0 0),(7,.pointer (some ⟨b2,0,none⟩)),(8,(Ct v10 (1 : Int) (x13.length : Int) 1)),(10,.int .i64 x14),(58,v11),(59,.int .i64 (x16.length : Int)),(60,.int .i64 s.1)] a ∧ Stw ⟨Y,[],w0⟩ [(b2,[v5]),(b1,[.int .i64 p0.1,v1,v2])] [row v10 3 (Rp.int .i64) x13,row v11 187 A7 x16,row v5 147 (Rp.flt .f64) s.2] w) ⟨hF.ra rfl,hW⟩ (fun s o a w H L6 hR => ?_)
    obtain ⟨x17,x18⟩ := s
    obtain ⟨hF,hW⟩ := hR
    have hF : Fr 90 [] [(1,v3),(3,.pointer (some ⟨b1,0,none⟩)),(6,.slice none 0 0),(7,.pointer (some ⟨b2,0,none⟩)),(8,(Ct v10 (1 : Int) (x13.length : Int) 1)),(10,.int .i64 x14),(58,v11),(59,.int .i64 (x16.length : Int)),(60,.int .i64 x17)] a := hF
    have hW : Stw ⟨Y,[],w0⟩ [(b2,[v5]),(b1,[.int .i64 p0.1,v1,v2])] [row v10 3 (Rp.int .i64) x13,row v11 187 A7 x16,row v5 147 (Rp.flt .f64) x18] w := hW
    rw [B3] at H
    refine vc tk 6 hF hW fun a w hF hW => ?_
    refine AG hF rfl H (fun hF H => ?_) (fun hF H => ?_)
    ·
     refine Ay ?_
     refine Aa ?_
     obtain ⟨o7,G7,K7⟩ := Ad H
     refine Aj (fun a w => ∃ x19 : List Nat,some (x19) = some o7 ∧ Fr 90 [] [(1,v3),(3,.pointer (some ⟨b1,0,none⟩)),(6,.slice none 0 0),(7,.pointer (some ⟨b2,0,none⟩)),(8,(Ct v10 (1 : Int) (x13.length : Int) 1)),(10,.int .i64 x14),(58,v11),(59,.int .i64 (x16.length : Int)),(60,.int .i64 x17)] a ∧ Stw ⟨Y,[],w0⟩ [(b2,[v5]),(b1,[.int .i64 p0.1,v1,v2])] [row v10 3 (Rp.int .i64) x13,row v11 187 A7 x16,row v5 147 (Rp.flt .f64) x19] w) ?_ ?_
     ·
      have H := G7
      clear G7 K7
      refine vc tk 3 hF hW fun a w hF hW => ?_
      obtain ⟨x20,h10,H⟩ := Ad H
      refine ls hF hW rfl ((Ai (r := A7) Jh hF rfl rfl (Ae 1 rfl) h10).q) (fun a w hF hW => ?_)
      refine ls hF hW rfl ((Af (y := Value.agg #[.int .i64 x20.1,.int .i64 x20.2.1,.int .i64 x20.2.2]) (j := 0) (i := x17) hF rfl rfl (Ae 1 rfl) h10 Kb.to I8 rfl).q) (fun a w hF hW => ?_)
      refine Ck (cs := [.int .i64 0,.int .i64 0,.int .i64 0]) hF hW rfl RU rfl (fun b3 a w hF hW => ?_)
      refine Iw 0 hF hW rfl rfl rfl I8 rfl rfl rfl (fun w hW => ?_)
      refine E9 tk 7 [0] hF hW (ai fun a w hF hW => ?_)
      obtain ⟨x21,h11,H⟩ := Ad H
      refine ls hF hW rfl (Av (v := Value.bool x21) hF Ys rfl (fun w hW => KO any w (v3) p1 x20.2.2 _ h11 (D3 (Ab h_v3) hW))) (fun a w hF hW => ?_)
      refine Bc tk 2 hF hW fun a w hF hW => ?_
      refine BA hF rfl H (fun hF H => ?_) (fun hF H => ?_)
      ·
       refine Lc 20 hW MO (by kernel_rfl) ?_
       refine qs hF rfl ((B5 (v := v5) 1 hF rfl rfl UL rfl).q) (fun a hF => ?_)
       refine qs hF rfl ((Au IW rfl rfl rfl T3 hF rfl 1 rfl).q) (fun a hF => ?_)
       refine qs hF rfl ((B5 (v := Value.int .i64 x20.2.1) 0 hF rfl rfl T3 rfl).q) (fun a hF => ?_)
       refine qs hF rfl ((B5 (v := v5) 1 hF rfl rfl UL rfl).q) (fun a hF => ?_)
       refine qs hF rfl ((Au IW rfl rfl rfl T3 hF rfl 1 rfl).q) (fun a hF => ?_)
       refine qs hF rfl ((B5 (v := Value.int .i64 x20.2.1) 0 hF rfl rfl T3 rfl).q) (fun a hF => ?_)
       obtain ⟨x22,h12,H⟩ := Ad H
       refine qs hF rfl ((Ai (r := (Rp.flt .f64)) LC hF rfl rfl (Ae 2 rfl) h12).q) (fun a hF => ?_)
       refine qs hF rfl ((Af (y := Value.float .f64 x22) (j := 0) (i := x20.2.1) hF rfl rfl (Ae 2 rfl) h12 Fl.flt.to JF rfl).q) (fun a hF => ?_)
       refine qs hF rfl ((Al hF rfl).q) (fun a hF => ?_)
       refine qs hF rfl ((Au IW rfl rfl rfl T3 hF rfl 2 rfl).q) (fun a hF => ?_)
       refine qs hF rfl ((B5 (v := Value.int .i64 x20.2.2) 0 hF rfl rfl T3 rfl).q) (fun a hF => ?_)
       obtain ⟨x23,h13,H⟩ := Ad H
       refine qs hF rfl ((Ai (r := (Rp.flt .f64)) LC hF rfl rfl (Ab h_v3) h13).q) (fun a hF => ?_)
       refine qs hF rfl ((Af (y := Value.float .f64 x23) (j := 0) (i := x20.2.2) hF rfl rfl (Ab h_v3) h13 Fl.flt.to JF rfl).q) (fun a hF => ?_)
       refine qs hF rfl ((B5 (v := v5) 1 hF rfl rfl UL rfl).q) (fun a hF => ?_)
       refine qs hF rfl ((Al hF rfl).q) (fun a hF => ?_)
       obtain ⟨x24,h14,H⟩ := Ad H
       refine qs hF rfl ((Ai (r := (Rp.flt .f64)) LC hF rfl rfl (Ae 2 rfl) h14).q) (fun a hF => ?_)
       refine qs hF rfl ((Af (y := Value.float .f64 x24) (j := 0) (i := x14) hF rfl rfl (Ae 2 rfl) h14 Fl.flt.to JF rfl).q) (fun a hF => ?_)
       refine qs hF rfl (Av (v := Value.float .f64 (Bm x23 x24)) hF YI rfl (fun w hW => IU any w x23 x24 _ rfl)) (fun a hF => ?_)
       obtain ⟨x25,h15,H⟩ := Ad H
       refine qs hF rfl ((Tb hF rfl rfl h15).q) (fun a hF => ?_)
       obtain ⟨x26,h16,H⟩ := Ad H
       refine qs hF rfl ((Ai (r := (Rp.flt .f64)) LC hF rfl rfl (Ae 2 rfl) h16).q) (fun a hF => ?_)
       refine AX (fun w hW => ?_)
       refine BE (i := x20.2.1) (j := 0) (vs := [.float .f64 x25]) (x' := x25) hF hW rfl rfl rfl (k := 2) rfl rfl h16 JF rfl rfl rfl rfl (fun A cs _ => Fl.flt.sto (by rfl) _ _ _) (fun w hW => ?_)
       refine D1 ?_
       refine An ?_
       refine Aa ?_
       have hW := hW.frontZ (i := 2) rfl rfl
       have hW := hW.frontZ (i := 2) rfl rfl
       have hW := hW.frontM (i := 2) rfl rfl
       have hW := hW.frontM (i := 2) rfl rfl
       have hW := hW.sub (M' := [(b2,[v5]),(b1,[.int .i64 p0.1,v1,v2])]) (Z' := [row v10 3 (Rp.int .i64) x13,row v11 187 A7 x16,row v5 147 (Rp.flt .f64) (Ao x18 x20.2.1 x25)]) (List.Sublist.cons_cons _ (List.Sublist.cons_cons _ (List.nil_sublist _))) (List.Sublist.refl _)
       exact ⟨_,H,hF.ra rfl,hW⟩
      ·
       refine Ay ?_
       refine An ?_
       refine Aa ?_
       have hW := hW.frontZ (i := 2) rfl rfl
       have hW := hW.frontZ (i := 2) rfl rfl
       have hW := hW.frontZ (i := 2) rfl rfl
       have hW := hW.frontM (i := 2) rfl rfl
       have hW := hW.frontM (i := 2) rfl rfl
       have hW := hW.sub (M' := [(b2,[v5]),(b1,[.int .i64 p0.1,v1,v2])]) (Z' := [row v10 3 (Rp.int .i64) x13,row v11 187 A7 x16,row v5 147 (Rp.flt .f64) x18]) (List.Sublist.cons_cons _ (List.Sublist.cons_cons _ (List.nil_sublist _))) (List.Sublist.refl _)
       exact ⟨_,H,hF.ra rfl,hW⟩
     rintro a w ⟨x19,hj,hF,hW⟩
     have hj := Option.some.inj hj
     subst hj
     have H := K7
     clear G7 K7
     refine vc tk 4 hF hW fun a w hF hW => ?_
     refine Aa ?_
     have hW := hW.frontZ (i := 2) rfl rfl
     have hW := hW.frontZ (i := 2) rfl rfl
     have hW := hW.frontZ (i := 2) rfl rfl
     have hW := hW.frontM (i := 1) rfl rfl
     have hW := hW.frontM (i := 1) rfl rfl
     exact ⟨_,H,hF.ra rfl,hW⟩
    ·
     refine AE ?_
     iterate 2 refine AQ ?_
     refine AF ?_
     refine An ?_
     refine Aa ?_
     obtain ⟨x27,h17,H⟩ := Ad H
     have hW := hW.subRow (k := 0) rfl rfl h17
     have hW := hW.frontZ (i := 2) rfl rfl
     have hW := hW.frontZ (i := 1) rfl rfl
     have hW := hW.frontM (i := 1) rfl rfl
     have hW := hW.frontM (i := 1) rfl rfl
     have hW := hW.sub (M' := [(b2,[v5]),(b1,[.int .i64 p0.1,v1,v2])]) (Z' := [row (Ct v10 (1 : Int) (x13.length : Int) 1) 3 (Rp.int .i64) x27,row v5 147 (Rp.flt .f64) x18]) (List.Sublist.refl _) (List.Sublist.cons_cons _ (List.Sublist.cons_cons _ (List.nil_sublist _)))
     have H := L6 _ H
     exact ⟨_,H,((Ct v10 (1 : Int) (x13.length : Int) 1)),hF.ra rfl,hW⟩
   ·
    refine AE ?_
    iterate 2 refine AQ ?_
    refine AF ?_
    refine Aa ?_
    have hW := hW.frontZ (i := 1) rfl rfl
    have hW := hW.frontM (i := 1) rfl rfl
    have hW := hW.frontM (i := 1) rfl rfl
    have hW := hW.sub (M' := [(b2,[v5]),(b1,[.int .i64 p0.1,v1,v2])]) (Z' := [row v5 147 (Rp.flt .f64) x12]) (List.Sublist.refl _) (List.Sublist.cons_cons _ (List.nil_sublist _))
    have H := L5 _ H
    exact ⟨_,H,hF.ra rfl,hW⟩
  rintro a w ⟨x10,hj,hF,hW⟩
  have hj := Option.some.inj hj
  subst hj
  have H := K4
  clear G4 K4
  refine D7 tk 6 [0] hF hW (ai fun a w hF hW => ?_)
  refine Ah ?_
  obtain ⟨x28,h18,H⟩ := Ad H
  have H := Option.some.inj H
  subst H
  refine Aw (.inl rfl) hF hW rfl (Ag hF rfl) ?_
  have hW := hW.sub (M' := []) (Z' := [row v5 147 (Rp.flt .f64) x10]) (List.nil_sublist _) (List.Sublist.refl _)
  exact ⟨⟨v5,fun _ => WC h18⟩,rfl,hW⟩
theorem eO : Has Tryz.prog 98 := Bj Tryz.func98
def DP (p0 : List Nat) (p1 : List Nat) (p2 : Int) (p3 : Int) (p4 : Int) : Option Bool := ((FC p0 p3).bind fun x2 => (if x2 = true then (ix p1 p2).bind fun x3 => (EK 1).bind fun x4 => (if (RO x3 x4) = true then (ix p0 p3).bind fun x5 => (ix p1 p4).bind fun x6 => (ix p1 p2).bind fun x7 => some (Ni (Bm x5 x6) x7) else some false) else some false)).bind fun x1 => some x1
theorem Hs (Y : Nat → Prop) (w0 : World) (v1 : Value) (v2 : Value) (p0 : List Nat) (p1 : List Nat) (p2 : Int) (p3 : Int) (p4 : Int) (r : Bool) (H : DP p0 p1 p2 p3 p4 = some r) (h_v1 : Sl w0 (NX []) (Rp.flt .f64) v1 p0) (h_v2 : Sl w0 (NX []) (Rp.flt .f64) v2 p1) :
    Calls Tryz.prog 100 #[v1,v2,.int .i64 p2,.int .i64 p3,.int .i64 p4] w0 fun e w' => e = .returned (.bool r) ∧ Below w0.heap.size w0 w' := by
 refine enter Tryz.func100 rfl Tryz.ntmps100 rfl (fun a hF => ?_)
 have hW := Stw.start Y w0
 unfold DP at H
 refine vc tk 5 hF hW fun a w hF hW => ?_
 obtain ⟨o1,G1,K1⟩ := Ad H
 refine Aj (fun a w => ∃ x1 : Bool,some (x1) = some o1 ∧ Fr 38 [] [(10,.bool x1)] a ∧ Stw ⟨Y,[],w0⟩ [] [] w) ?_ ?_
 ·
  have H := G1
  clear G1 K1
  refine BV hW MO (by kernel_rfl) ?_
  iterate 2 refine qs hF rfl ((Al hF rfl).q) (fun a hF => ?_)
  obtain ⟨x2,h1,H⟩ := Ad H
  refine qs hF rfl (Av (v := Value.bool x2) hF Ys rfl (fun w hW => KO any w (v1) p0 p3 _ h1 (D3 (Ab h_v1) hW))) (fun a hF => ?_)
  refine qs hF rfl ((Al hF rfl).q) (fun a hF => ?_)
  rcases bxq x2 with hb | hb
  ·
   have H := BP hb H
   rw [hb] at hF
   clear hb
   iterate 2 refine Bf hF (Ac hF rfl rfl rfl rfl) rfl (ze rfl) ((Al hF rfl).q) (fun a hF => ?_)
   obtain ⟨x3,h2,H⟩ := Ad H
   refine Bf hF (Ac hF rfl rfl rfl rfl) rfl (ze rfl) ((Ai (r := (Rp.flt .f64)) LC hF rfl rfl (Ab h_v2) h2).q) (fun a hF => ?_)
   refine Bf hF (Ac hF rfl rfl rfl rfl) rfl (ze rfl) ((Af (y := Value.float .f64 x3) (j := 0) (i := p2) hF rfl rfl (Ab h_v2) h2 Fl.flt.to JF rfl).q) (fun a hF => ?_)
   obtain ⟨x4,h3,H⟩ := Ad H
   refine Bf hF (Ac hF rfl rfl rfl rfl) rfl (ze rfl) (Av (v := Value.float .f64 x4) hF UY rfl (fun w hW => Gv any w 1 _ h3)) (fun a hF => ?_)
   refine Bf hF (Ac hF rfl rfl rfl rfl) rfl (ze rfl) ((KP hF rfl rfl).q) (fun a hF => ?_)
   refine qs hF rfl ((CE hF rfl rfl rfl).q) (fun a hF => ?_)
   refine qs hF rfl ((Al hF rfl).q) (fun a hF => ?_)
   rcases bxq (RO x3 x4) with hb | hb
   ·
    have H := BP hb H
    rw [hb] at hF
    clear hb
    iterate 2 refine Bf hF (Ac hF rfl rfl rfl rfl) rfl (ze rfl) ((Al hF rfl).q) (fun a hF => ?_)
    obtain ⟨x5,h4,H⟩ := Ad H
    refine Bf hF (Ac hF rfl rfl rfl rfl) rfl (ze rfl) ((Ai (r := (Rp.flt .f64)) LC hF rfl rfl (Ab h_v1) h4).q) (fun a hF => ?_)
    refine Bf hF (Ac hF rfl rfl rfl rfl) rfl (ze rfl) ((Af (y := Value.float .f64 x5) (j := 0) (i := p3) hF rfl rfl (Ab h_v1) h4 Fl.flt.to JF rfl).q) (fun a hF => ?_)
    iterate 2 refine Bf hF (Ac hF rfl rfl rfl rfl) rfl (ze rfl) ((Al hF rfl).q) (fun a hF => ?_)
    obtain ⟨x6,h5,H⟩ := Ad H
    refine Bf hF (Ac hF rfl rfl rfl rfl) rfl (ze rfl) ((Ai (r := (Rp.flt .f64)) LC hF rfl rfl (Ab h_v2) h5).q) (fun a hF => ?_)
    refine Bf hF (Ac hF rfl rfl rfl rfl) rfl (ze rfl) ((Af (y := Value.float .f64 x6) (j := 0) (i := p4) hF rfl rfl (Ab h_v2) h5 Fl.flt.to JF rfl).q) (fun a hF => ?_)
    refine Bf hF (Ac hF rfl rfl rfl rfl) rfl (ze rfl) (Av (v := Value.float .f64 (Bm x5 x6)) hF YI rfl (fun w hW => IU any w x5 x6 _ rfl)) (fun a hF => ?_)
    iterate 2 refine Bf hF (Ac hF rfl rfl rfl rfl) rfl (ze rfl) ((Al hF rfl).q) (fun a hF => ?_)
    obtain ⟨x7,h6,H⟩ := Ad H
    refine Bf hF (Ac hF rfl rfl rfl rfl) rfl (ze rfl) ((Ai (r := (Rp.flt .f64)) LC hF rfl rfl (Ab h_v2) h6).q) (fun a hF => ?_)
    refine Bf hF (Ac hF rfl rfl rfl rfl) rfl (ze rfl) ((Af (y := Value.float .f64 x7) (j := 0) (i := p2) hF rfl rfl (Ab h_v2) h6 Fl.flt.to JF rfl).q) (fun a hF => ?_)
    refine Bf hF (Ac hF rfl rfl rfl rfl) rfl (ze rfl) ((Pp hF rfl rfl).q) (fun a hF => ?_)
    refine qs hF rfl ((CE hF rfl rfl rfl).q) (fun a hF => ?_)
    refine qs hF rfl ((BB hF rfl).q) (fun a hF => ?_)
    refine AX (fun w hW => ?_)
    refine Aa ?_
    exact ⟨_,H,hF.ra rfl,hW⟩
   ·
    have H := BQ (by rw [hb]; decide) H
    rw [hb] at hF
    clear hb
    iterate 14 refine DS hF (B4 hF rfl rfl rfl rfl rfl) rfl rfl (fun a hF => ?_)
    refine qs hF rfl ((Cy hF rfl rfl rfl).q) (fun a hF => ?_)
    refine qs hF rfl ((BB hF rfl).q) (fun a hF => ?_)
    refine AX (fun w hW => ?_)
    refine Aa ?_
    exact ⟨_,H,hF.ra rfl,hW⟩
  ·
   have H := BQ (by rw [hb]; decide) H
   rw [hb] at hF
   clear hb
   iterate 6 refine DS hF (B4 hF rfl rfl rfl rfl rfl) rfl rfl (fun a hF => ?_)
   refine qs hF rfl ((Cy hF rfl rfl rfl).q) (fun a hF => ?_)
   refine qs hF rfl ((Al hF rfl).q) (fun a hF => ?_)
   iterate 14 refine DS hF (B4 hF rfl rfl rfl rfl rfl) rfl rfl (fun a hF => ?_)
   refine qs hF rfl ((Cy hF rfl rfl rfl).q) (fun a hF => ?_)
   refine qs hF rfl ((BB hF rfl).q) (fun a hF => ?_)
   refine AX (fun w hW => ?_)
   refine Aa ?_
   exact ⟨_,H,hF.ra rfl,hW⟩
 rintro a w ⟨x1,hj,hF,hW⟩
 have hj := Option.some.inj hj
 subst hj
 have H := K1
 clear G1 K1
 refine Ah ?_
 have H := Option.some.inj H
 subst H
 refine Aw (.inl rfl) hF hW rfl (Ag hF rfl) ?_
 exact ⟨rfl,hW.done⟩
theorem Y0 : Has Tryz.prog 100 := Bj Tryz.func100
def B7 (p1 : List Nat) (x1 : List Nat) (x7 : Int) (x9 : (List (Int × Int × Int))) : (List Int × List Int × Int) → Option ((List Int × List Int × Int) ⊕ ((List Int × List Int) ⊕ (List Int)))
  | (x10,x11,x12) => (if x12 < (x9.length : Int) then ((ix x9 x12).bind fun x15 => ((ix x10 x15.2.1).bind fun x17 => (if x17 < 0 then (DP p1 x1 x15.2.1 x15.2.2 x7).bind fun x18 => some x18 else some false)).bind fun x16 => (if x16 = true then (ix x10 x7).bind fun x19 => (ix x10 x15.2.1).bind fun x20 => (app x11 ([x15.2.1] : List Int)).bind fun x21 => some ((Ao x10 x15.2.1 (w64 (x19 + 1))),x21) else some (x10,x11))).bind fun (x13,x14) => some (.inl (x13,x14,w64 (x12 + 1))) else some (.inr (.inl (x10,x11))))
def Cx (p0 : Int × (List (Int × Int × Int × Int × Int × Int)) × (List (Int × Int))) (p1 : List Nat) (x1 : List Nat) : (List Int × List Int) → Option ((List Int × List Int) ⊕ (List Int))
  | (x5,x6) => (if 0 < (x6.length : Int) then (ix x6 0).bind fun x7 => (GF x6 1 (x6.length : Int)).bind fun x8 => (Dk p0 x7).bind fun x9 => Am (B7 p1 x1 x7 x9) (x5,x8,0) else some (.inr x5))
def Ej (p0 : Int × (List (Int × Int × Int × Int × Int × Int)) × (List (Int × Int))) (p1 : List Nat) (p2 : Int) : Option (List Int) := (CU p0 p1 p2).bind fun x1 => (if x1.length = 0 then some ([] : List Int) else (Aq ([(-1)] : List Int) p0.1).bind fun x2 => (ix x2 p2).bind fun x3 => (Am (Cx p0 p1 x1) ((Ao x2 p2 0),([p2] : List Int))).bind fun x4 => some x4)
theorem Mr (Y : Nat → Prop) (w0 : World) (v1 : Value) (v2 : Value) (v3 : Value) (p0 : Int × (List (Int × Int × Int × Int × Int × Int)) × (List (Int × Int))) (p1 : List Nat) (p2 : Int) (r : List Int) (H : Ej p0 p1 p2 = some r) (h_v1 : Sl w0 (NX []) B8 v1 p0.2.1) (h_v2 : Sl w0 (NX []) Cc v2 p0.2.2) (h_v3 : Sl w0 (NX []) (Rp.flt .f64) v3 p1) :
    Calls Tryz.prog 99 #[.agg #[.int .i64 p0.1,v1,v2],v3,.int .i64 p2] w0 fun e w' => ∃ x : Value,e = .returned (x) ∧ Stw ⟨Y,[],w0⟩ [] [row (x) 3 (Rp.int .i64) r] w' := by
 refine enter Tryz.func99 rfl Tryz.ntmps99 rfl (fun a hF => ?_)
 have hW := Stw.start Y w0
 unfold Ej at H
 refine vc tk 2 hF hW fun a w hF hW => ?_
 refine Cv (cs := [.int .i64 p0.1,v1,v2]) hF hW rfl rfl rfl (fun b1 a w hF hW => ?_)
 refine E9 tk 8 [0] hF hW (ai fun a w hF hW => ?_)
 obtain ⟨x1,h1,H⟩ := Ad H
 refine A9 (Ml := []) (Zl := []) (β := {x : Value // NN x (x1)}) (rv := fun x => x.1) (MM := fun x => []) (ZZ := fun x => [row x.1 147 (Rp.flt .f64) x1]) hF hW eO rfl rfl (fun hL => HY _ w (v1) (v2) (v3) p0 p1 p2 _ h1 ((Ab h_v1) w hW).nx ((Ab h_v2) w hW).nx ((Ab h_v3) w hW).nx) (fun x a w hF hW => ?_)
 obtain ⟨v4,rfl⟩ : ∃ y,y = x := ⟨x,rfl⟩
 have hW : Stw ⟨Y,[],w0⟩ [(b1,[.int .i64 p0.1,v1,v2])] [row v4.1 147 (Rp.flt .f64) x1] w := hW
 refine Bc tk 7 hF hW fun a w hF hW => ?_
 refine ls hF hW rfl ((Tv (r := (Rp.flt .f64)) Pe hF rfl (Ae 0 rfl)).q) (fun a w hF hW => ?_)
 refine D1 (Aa ?_)
 rcases Sf (Ae 0 rfl) hW with ⟨hb,hl⟩ | hb
 ·
  have hq : x1.length = 0 := by rw [hl]; rfl
  rw [if_pos hq] at H
  rw [hb] at hF
  refine vc tk 6 hF hW fun a w hF hW => ?_
  refine Ah ?_
  refine Ak ?_
  have H := Option.some.inj H
  subst H
  refine Aw (.inl rfl) hF hW rfl (Ag hF rfl) ?_
  have hW := hW.nilRow 3 (Rp.int .i64)
  have hW := hW.sub (M' := []) (Z' := [row (Value.slice none 0 0) 3 (Rp.int .i64) ([])]) (List.nil_sublist _) (List.Sublist.cons_cons _ (List.nil_sublist _))
  exact ⟨(Value.slice none 0 0),rfl,hW⟩
 ·
  have hq : ¬ x1.length = 0 := fun hq => v4.2 hb (List.eq_nil_of_length_eq_zero hq)
  rw [if_neg hq] at H
  rw [hb] at hF
  refine D2 tk 5 hF hW fun a w hF hW => ?_
  refine CK (z := Value.int .i64 0) (cs := [.int .i64 (-1)]) (Rp.int .i64) ([(-1)] : List Int) hF hW rfl Do Z3 rfl rfl rfl rfl rfl rfl (Fl.int.repL _ _ ([(-1)] : List Int)) (fun v5 a w hF hW => ?_)
  refine Eb tk 2 [0] hF hW (ai fun a w hF hW => ?_)
  obtain ⟨x2,h2,H⟩ := Ad H
  have hW := hW.freeze
  refine A9 (Ml := []) (Zl := []) (β := Value) (rv := fun x => x) (MM := fun x => []) (ZZ := fun x => [row x 3 (Rp.int .i64) x2]) hF hW eX rfl rfl (fun hL => Ek _ w (v5) ([(-1)] : List Int) p0.1 _ h2 (hW.item (i := 0) rfl)) (fun x a w hF hW => ?_)
  obtain ⟨v6,rfl⟩ : ∃ y,y = x := ⟨x,rfl⟩
  have hW : Stw ⟨Y,[],w0⟩ [(b1,[.int .i64 p0.1,v1,v2])] [row v6 3 (Rp.int .i64) x2,KB v5 (Rp.int .i64) ([(-1)] : List Int),row v4.1 147 (Rp.flt .f64) x1] w := hW
  refine Bc tk 7 hF hW fun a w hF hW => ?_
  obtain ⟨x3,h3,H⟩ := Ad H
  refine ls hF hW rfl ((Ai (r := (Rp.int .i64)) Do hF rfl rfl (Ae 0 rfl) h3).q) (fun a w hF hW => ?_)
  refine BE (i := p2) (j := 0) (vs := [.int .i64 0]) (x' := 0) hF hW rfl rfl rfl (k := 0) rfl rfl h3 T3 rfl rfl rfl rfl (fun A cs _ => Fl.int.sto (by rfl) _ _ _) (fun w hW => ?_)
  refine Bc tk 5 hF hW fun a w hF hW => ?_
  refine CK (z := Value.int .i64 0) (cs := [.int .i64 p2]) (Rp.int .i64) ([p2] : List Int) hF hW rfl Do Z3 rfl rfl rfl rfl rfl rfl (Fl.int.repL _ _ ([p2] : List Int)) (fun v7 a w hF hW => ?_)
  refine vl tk 2 hF hW fun a w hF hW => ?_
  refine Aa ?_
  obtain ⟨o1,G1,K1⟩ := Ad H
  refine Aj (fun a w => ∃ x4 : List Int,some (x4) = some o1 ∧ Fr 76 [] [(6,.slice none 0 0),(8,v6)] a ∧ Stw ⟨Y,[],w0⟩ [(b1,[.int .i64 p0.1,v1,v2])] [row v6 3 (Rp.int .i64) x4] w) ?_ ?_
  ·
   have H := G1
   clear G1 K1
   refine EI ?_
   have hW := hW.frontZ (i := 1) rfl rfl
   have hW := hW.frontZ (i := 3) rfl rfl
   have hW := hW.sub (M' := [(b1,[.int .i64 p0.1,v1,v2])]) (Z' := [row v4.1 147 (Rp.flt .f64) x1,row v6 3 (Rp.int .i64) (Ao x2 p2 0),row v7 3 (Rp.int .i64) ([p2] : List Int)]) (List.Sublist.refl _) (List.Sublist.cons_cons _ (List.Sublist.cons_cons _ (List.Sublist.cons_cons _ (List.nil_sublist _))))
   refine AD H (fun s a w => ∃ v8 : Value,Fr 76 [] [(1,v3),(3,.pointer (some ⟨b1,0,none⟩)),(6,.slice none 0 0),(7,v4.1),(8,v6),(9,v8)] a ∧ Stw ⟨Y,[],w0⟩ [(b1,[.int .i64 p0.1,v1,v2])] [row v4.1 147 (Rp.flt .f64) x1,row v6 3 (Rp.int .i64) s.1,row v8 3 (Rp.int .i64) s.2] w) ⟨(v7),hF.ra rfl,hW⟩ (fun s o a w H L2 hR => ?_)
   obtain ⟨x5,x6⟩ := s
   obtain ⟨v8,hF,hW⟩ := hR
   have hF : Fr 76 [] [(1,v3),(3,.pointer (some ⟨b1,0,none⟩)),(6,.slice none 0 0),(7,v4.1),(8,v6),(9,v8)] a := hF
   have hW : Stw ⟨Y,[],w0⟩ [(b1,[.int .i64 p0.1,v1,v2])] [row v4.1 147 (Rp.flt .f64) x1,row v6 3 (Rp.int .i64) x5,row v8 3 (Rp.int .i64) x6] w := hW
   rw [Cx] at H
   refine vc tk 4 hF hW fun a w hF hW => ?_
   refine ls hF hW rfl ((AK (r := (Rp.int .i64)) (l := x6) GG rfl hF rfl (Ae 2 rfl)).q) (fun a w hF hW => ?_)
   refine Bc tk 3 hF hW fun a w hF hW => ?_
   refine AG hF rfl H (fun hF H => ?_) (fun hF H => ?_)
   ·
    refine D2 tk 6 hF hW fun a w hF hW => ?_
    obtain ⟨x7,h4,H⟩ := Ad H
    refine ls hF hW rfl ((Ai (r := (Rp.int .i64)) Do hF rfl rfl (Ae 2 rfl) h4).q) (fun a w hF hW => ?_)
    refine ls hF hW rfl ((Af (y := Value.int .i64 x7) (j := 0) (i := 0) hF rfl rfl (Ae 2 rfl) h4 Fl.int.to T3 rfl).q) (fun a w hF hW => ?_)
    refine Bc tk 6 hF hW fun a w hF hW => ?_
    obtain ⟨x8,h5,H⟩ := Ad H
    refine ls hF hW rfl ((GH (r := (Rp.int .i64)) Do hF rfl rfl rfl (Ae 2 rfl) h5).q) (fun a w hF hW => ?_)
    refine E9 tk 7 [0] hF hW (ai fun a w hF hW => ?_)
    obtain ⟨x9,h6,H⟩ := Ad H
    refine A9 (Ml := []) (Zl := []) (β := Value) (rv := fun x => x) (MM := fun x => []) (ZZ := fun x => [row x 187 A7 x9]) hF hW Zs rfl rfl (fun hL => FI _ w (v1) (v2) p0 x7 _ h6 ((Ab h_v1) w hW).nx ((Ab h_v2) w hW).nx) (fun x a w hF hW => ?_)
    obtain ⟨v9,rfl⟩ : ∃ y,y = x := ⟨x,rfl⟩
    have hW : Stw ⟨Y,[],w0⟩ [(b1,[.int .i64 p0.1,v1,v2])] [row v9 187 A7 x9,row v4.1 147 (Rp.flt .f64) x1,row v6 3 (Rp.int .i64) x5,row v8 3 (Rp.int .i64) x6] w := hW
    refine ls hF hW rfl ((AK (r := A7) (l := x9) MW rfl hF rfl (Ae 0 rfl)).q) (fun a w hF hW => ?_)
    refine Bc tk 4 hF hW fun a w hF hW => ?_
    have hW := hW.subRow (k := 3) rfl rfl h5
    have hW := hW.frontZ (i := 1) rfl rfl
    have hW := hW.frontZ (i := 1) rfl rfl
    have hW := hW.frontZ (i := 3) rfl rfl
    have hW := hW.frontZ (i := 3) rfl rfl
    refine AD H (fun s a w => ∃ v10 : Value,Fr 76 [] [(1,v3),(3,.pointer (some ⟨b1,0,none⟩)),(6,.slice none 0 0),(7,v4.1),(8,v6),(9,v10),(10,.int .i64 x7),(38,v9),(39,.int .i64 (x9.length : Int)),(40,.int .i64 s.2.2)] a ∧ Stw ⟨Y,[],w0⟩ [(b1,[.int .i64 p0.1,v1,v2])] [row v4.1 147 (Rp.flt .f64) x1,row v6 3 (Rp.int .i64) s.1,row v10 3 (Rp.int .i64) s.2.1,row v9 187 A7 x9] w) ⟨((Ct v8 (1 : Int) (x6.length : Int) 1)),hF.ra rfl,hW⟩ (fun s o a w H L3 hR => ?_)
    obtain ⟨x10,x11,x12⟩ := s
    obtain ⟨v10,hF,hW⟩ := hR
    have hF : Fr 76 [] [(1,v3),(3,.pointer (some ⟨b1,0,none⟩)),(6,.slice none 0 0),(7,v4.1),(8,v6),(9,v10),(10,.int .i64 x7),(38,v9),(39,.int .i64 (x9.length : Int)),(40,.int .i64 x12)] a := hF
    have hW : Stw ⟨Y,[],w0⟩ [(b1,[.int .i64 p0.1,v1,v2])] [row v4.1 147 (Rp.flt .f64) x1,row v6 3 (Rp.int .i64) x10,row v10 3 (Rp.int .i64) x11,row v9 187 A7 x9] w := hW
    rw [B7] at H
    refine vc tk 6 hF hW fun a w hF hW => ?_
    refine AG hF rfl H (fun hF H => ?_) (fun hF H => ?_)
    ·
     refine Ay ?_
     refine Aa ?_
     obtain ⟨o4,G4,K4⟩ := Ad H
     refine Aj (fun a w => ∃ x13 : List Int, ∃ x14 : List Int, ∃ v11 : Value,some ((x13,x14)) = some o4 ∧ Fr 76 [] [(1,v3),(3,.pointer (some ⟨b1,0,none⟩)),(6,.slice none 0 0),(7,v4.1),(8,v6),(9,v11),(10,.int .i64 x7),(38,v9),(39,.int .i64 (x9.length : Int)),(40,.int .i64 x12)] a ∧ Stw ⟨Y,[],w0⟩ [(b1,[.int .i64 p0.1,v1,v2])] [row v4.1 147 (Rp.flt .f64) x1,row v6 3 (Rp.int .i64) x13,row v11 3 (Rp.int .i64) x14,row v9 187 A7 x9] w) ?_ ?_
     ·
      have H := G4
      clear G4 K4
      refine vc tk 3 hF hW fun a w hF hW => ?_
      obtain ⟨x15,h7,H⟩ := Ad H
      refine ls hF hW rfl ((Ai (r := A7) Jh hF rfl rfl (Ae 3 rfl) h7).q) (fun a w hF hW => ?_)
      refine ls hF hW rfl ((Af (y := Value.agg #[.int .i64 x15.1,.int .i64 x15.2.1,.int .i64 x15.2.2]) (j := 0) (i := x12) hF rfl rfl (Ae 3 rfl) h7 Kb.to I8 rfl).q) (fun a w hF hW => ?_)
      refine Ck (cs := [.int .i64 0,.int .i64 0,.int .i64 0]) hF hW rfl RU rfl (fun b2 a w hF hW => ?_)
      refine Iw 0 hF hW rfl rfl rfl I8 rfl rfl rfl (fun w hW => ?_)
      refine D1 (Aa ?_)
      obtain ⟨o5,G5,K5⟩ := Ad H
      refine Aj (fun a w => ∃ x16 : Bool,some (x16) = some o5 ∧ Fr 76 [] [(1,v3),(3,.pointer (some ⟨b1,0,none⟩)),(6,.slice none 0 0),(7,v4.1),(8,v6),(9,v10),(10,.int .i64 x7),(12,.pointer (some ⟨b2,0,none⟩)),(38,v9),(39,.int .i64 (x9.length : Int)),(40,.int .i64 x12),(59,.bool x16)] a ∧ Stw ⟨Y,[],w0⟩ [(b2,[.int .i64 x15.1,.int .i64 x15.2.1,.int .i64 x15.2.2]),(b1,[.int .i64 p0.1,v1,v2])] [row v4.1 147 (Rp.flt .f64) x1,row v6 3 (Rp.int .i64) x10,row v10 3 (Rp.int .i64) x11,row v9 187 A7 x9] w) ?_ ?_
      ·
       have H := G5
       clear G5 K5
       refine D7 tk 4 [0] hF hW (ai fun a w hF hW => ?_)
       obtain ⟨x17,h8,H⟩ := Ad H
       refine ls hF hW rfl ((Ai (r := (Rp.int .i64)) Do hF rfl rfl (Ae 1 rfl) h8).q) (fun a w hF hW => ?_)
       refine ls hF hW rfl ((Af (y := Value.int .i64 x17) (j := 0) (i := x15.2.1) hF rfl rfl (Ae 1 rfl) h8 Fl.int.to T3 rfl).q) (fun a w hF hW => ?_)
       refine vl tk 2 hF hW fun a w hF hW => ?_
       rcases bxq (decide (x17 < 0)) with hb | hb
       ·
        have H := BP (of_decide_eq_true hb) H
        rw [hb] at hF
        clear hb
        refine Eb tk 7 [0,0] hF hW (ai (ai fun a w hF hW => ?_))
        refine Fq (Ac hF rfl rfl rfl rfl) ?_
        obtain ⟨x18,h9,H⟩ := Ad H
        refine ls hF hW rfl (Av (v := Value.bool x18) hF Y0 rfl (fun w hW => Hs any w (v3) (v4.1) p1 x1 x15.2.1 x15.2.2 x7 _ h9 (D3 (Ab h_v3) hW) (D3 (Ae 0 rfl) hW))) (fun a w hF hW => ?_)
        refine vl tk 2 hF hW fun a w hF hW => ?_
        refine Aa ?_
        have hW := hW.frontZ (i := 3) rfl rfl
        have hW := hW.frontZ (i := 3) rfl rfl
        have hW := hW.frontZ (i := 3) rfl rfl
        have hW := hW.frontZ (i := 3) rfl rfl
        have hW := hW.frontM (i := 1) rfl rfl
        have hW := hW.frontM (i := 1) rfl rfl
        exact ⟨_,H,hF.ra rfl,hW⟩
       ·
        have H := BQ (of_decide_eq_false hb) H
        rw [hb] at hF
        clear hb
        refine vl tk 10 hF hW fun a w hF hW => ?_
        refine Aa ?_
        have hW := hW.frontZ (i := 3) rfl rfl
        have hW := hW.frontZ (i := 3) rfl rfl
        have hW := hW.frontZ (i := 3) rfl rfl
        have hW := hW.frontZ (i := 3) rfl rfl
        have hW := hW.frontM (i := 1) rfl rfl
        have hW := hW.frontM (i := 1) rfl rfl
        exact ⟨_,H,hF.ra rfl,hW⟩
      rintro a w ⟨x16,hj,hF,hW⟩
      have hj := Option.some.inj hj
      subst hj
      have H := K5
      clear G5 K5
      refine BA hF rfl H (fun hF H => ?_) (fun hF H => ?_)
      ·
       refine Ly ?_
       refine Lc 9 hW MO (by kernel_rfl) ?_
       refine qs hF rfl ((Al hF rfl).q) (fun a hF => ?_)
       refine qs hF rfl ((Au IW rfl rfl rfl T3 hF rfl 1 rfl).q) (fun a hF => ?_)
       refine qs hF rfl ((B5 (v := Value.int .i64 x15.2.1) 0 hF rfl rfl T3 rfl).q) (fun a hF => ?_)
       iterate 2 refine qs hF rfl ((Al hF rfl).q) (fun a hF => ?_)
       obtain ⟨x19,h10,H⟩ := Ad H
       refine qs hF rfl ((Ai (r := (Rp.int .i64)) Do hF rfl rfl (Ae 1 rfl) h10).q) (fun a hF => ?_)
       refine qs hF rfl ((Af (y := Value.int .i64 x19) (j := 0) (i := x7) hF rfl rfl (Ae 1 rfl) h10 Fl.int.to T3 rfl).q) (fun a hF => ?_)
       refine qs hF rfl ((OV hF rfl rfl rfl).q) (fun a hF => ?_)
       obtain ⟨x20,h11,H⟩ := Ad H
       refine qs hF rfl ((Ai (r := (Rp.int .i64)) Do hF rfl rfl (Ae 1 rfl) h11).q) (fun a hF => ?_)
       refine AX (fun w hW => ?_)
       refine BE (i := x15.2.1) (j := 0) (vs := [.int .i64 (w64 (x19 + 1))]) (x' := w64 (x19 + 1)) hF hW rfl rfl rfl (k := 1) rfl rfl h11 T3 rfl rfl rfl rfl (fun A cs _ => Fl.int.sto (by rfl) _ _ _) (fun w hW => ?_)
       refine E9 tk 6 [0] hF hW (ai fun a w hF hW => ?_)
       refine CK (z := Value.int .i64 0) (cs := [.int .i64 x15.2.1]) (Rp.int .i64) ([x15.2.1] : List Int) hF hW rfl Do Z3 rfl rfl rfl rfl rfl rfl (Fl.int.repL _ _ ([x15.2.1] : List Int)) (fun v12 a w hF hW => ?_)
       obtain ⟨x21,h12,H⟩ := Ad H
       refine BF (r := (Rp.int .i64)) (i := 3) hF hW rfl Do rfl rfl rfl rfl (BU hW 0 rfl) h12 rfl (fun v13 a w hF hW => ?_)
       have hW : Stw ⟨Y,[],w0⟩ [(b2,[.int .i64 x15.1,.int .i64 x15.2.1,.int .i64 x15.2.2]),(b1,[.int .i64 p0.1,v1,v2])] [row v13 3 (Rp.int .i64) x21,row v12 3 (Rp.int .i64) ([x15.2.1] : List Int),row v6 3 (Rp.int .i64) (Ao x10 x15.2.1 (w64 (x19 + 1))),row v4.1 147 (Rp.flt .f64) x1,row v9 187 A7 x9] w := hW
       refine vl tk 2 hF hW fun a w hF hW => ?_
       refine An ?_
       refine Aa ?_
       have hW := hW.frontZ (i := 4) rfl rfl
       have hW := hW.frontZ (i := 1) rfl rfl
       have hW := hW.frontZ (i := 3) rfl rfl
       have hW := hW.frontZ (i := 4) rfl rfl
       have hW := hW.frontM (i := 1) rfl rfl
       have hW := hW.sub (M' := [(b1,[.int .i64 p0.1,v1,v2])]) (Z' := [row v4.1 147 (Rp.flt .f64) x1,row v6 3 (Rp.int .i64) (Ao x10 x15.2.1 (w64 (x19 + 1))),row v13 3 (Rp.int .i64) x21,row v9 187 A7 x9]) (List.Sublist.cons_cons _ (List.nil_sublist _)) (List.Sublist.cons_cons _ (List.Sublist.cons_cons _ (List.Sublist.cons_cons _ (List.Sublist.cons_cons _ (List.nil_sublist _)))))
       exact ⟨_,_,(v13),H,hF.ra rfl,hW⟩
      ·
       refine Ay ?_
       refine An ?_
       refine Aa ?_
       have hW := hW.frontZ (i := 3) rfl rfl
       have hW := hW.frontZ (i := 3) rfl rfl
       have hW := hW.frontZ (i := 3) rfl rfl
       have hW := hW.frontZ (i := 3) rfl rfl
       have hW := hW.frontM (i := 1) rfl rfl
       have hW := hW.sub (M' := [(b1,[.int .i64 p0.1,v1,v2])]) (Z' := [row v4.1 147 (Rp.flt .f64) x1,row v6 3 (Rp.int .i64) x10,row v10 3 (Rp.int .i64) x11,row v9 187 A7 x9]) (List.Sublist.cons_cons _ (List.nil_sublist _)) (List.Sublist.refl _)
       exact ⟨_,_,(v10),H,hF.ra rfl,hW⟩
     rintro a w ⟨x13,x14,v11,hj,hF,hW⟩
     have hj := Option.some.inj hj
     subst hj
     have H := K4
     clear G4 K4
     refine vc tk 4 hF hW fun a w hF hW => ?_
     refine Aa ?_
     have hW := hW.frontZ (i := 3) rfl rfl
     have hW := hW.frontZ (i := 3) rfl rfl
     have hW := hW.frontZ (i := 3) rfl rfl
     have hW := hW.frontZ (i := 3) rfl rfl
     exact ⟨_,H,(v11),hF.ra rfl,hW⟩
    ·
     refine AE ?_
     iterate 2 refine AQ ?_
     refine AF ?_
     refine An ?_
     refine Aa ?_
     have hW := hW.frontZ (i := 2) rfl rfl
     have hW := hW.frontZ (i := 2) rfl rfl
     have hW := hW.frontZ (i := 2) rfl rfl
     have hW := hW.sub (M' := [(b1,[.int .i64 p0.1,v1,v2])]) (Z' := [row v4.1 147 (Rp.flt .f64) x1,row v6 3 (Rp.int .i64) x10,row v10 3 (Rp.int .i64) x11]) (List.Sublist.refl _) (List.Sublist.cons_cons _ (List.Sublist.cons_cons _ (List.Sublist.cons_cons _ (List.nil_sublist _))))
     have H := L3 _ H
     exact ⟨_,H,(v10),hF.ra rfl,hW⟩
   ·
    refine AE ?_
    iterate 2 refine AQ ?_
    refine AF ?_
    refine Aa ?_
    have hW := hW.frontZ (i := 1) rfl rfl
    have hW := hW.sub (M' := [(b1,[.int .i64 p0.1,v1,v2])]) (Z' := [row v6 3 (Rp.int .i64) x5]) (List.Sublist.refl _) (List.Sublist.cons_cons _ (List.nil_sublist _))
    have H := L2 _ H
    exact ⟨_,H,hF.ra rfl,hW⟩
  rintro a w ⟨x4,hj,hF,hW⟩
  have hj := Option.some.inj hj
  subst hj
  have H := K1
  clear G1 K1
  refine vc tk 6 hF hW fun a w hF hW => ?_
  refine Ah ?_
  have H := Option.some.inj H
  subst H
  refine Aw (.inl rfl) hF hW rfl (Ag hF rfl) ?_
  have hW := hW.sub (M' := []) (Z' := [row v6 3 (Rp.int .i64) x4]) (List.nil_sublist _) (List.Sublist.refl _)
  exact ⟨(v6),rfl,hW⟩
theorem fN : Has Tryz.prog 99 := Bj Tryz.func99
def Cn (p1 : List Nat) (x3 : List Nat) (x4 : List Int) (x7 : Int) (x12 : (List (Int × Int × Int))) : (Int × Int) → Option ((Int × Int) ⊕ Int)
  | (x13,x14) => (if x14 < (x12.length : Int) then ((ix x12 x14).bind fun x16 => (if x13 < 0 then (ix x4 x16.2.1).bind fun x18 => (ix x4 x7).bind fun x19 => (if x18 = (w64 (x19 - 1)) then (DP p1 x3 x7 x16.2.2 x16.2.1).bind fun x20 => some x20 else some false) else some false).bind fun x17 => (if x17 = true then some x16.1 else some x13)).bind fun x15 => some (.inl (x15,w64 (x14 + 1))) else some (.inr x13))
def Dc (p0 : Int × (List (Int × Int × Int × Int × Int × Int)) × (List (Int × Int))) (p1 : List Nat) (p2 : Int) (x2 : Int × Int) (x3 : List Nat) (x4 : List Int) : (List Int × Int) → Option ((List Int × Int) ⊕ (List Int))
  | (x6,x7) => (if x7 < p0.1 then ((if x7 = x2.1 then (ix p0.2.2 p2).bind fun x10 => some x10.2 else some (-1)).bind fun x9 => ((Dk p0 x7).bind fun x12 => Am (Cn p1 x3 x4 x7 x12) (x9,0)).bind fun x11 => (app x6 ([x11] : List Int)).bind fun x21 => some x21).bind fun x8 => some (.inl (x8,w64 (x7 + 1))) else some (.inr x6))
def Ee (p0 : Int × (List (Int × Int × Int × Int × Int × Int)) × (List (Int × Int))) (p1 : List Nat) (p2 : Int) : Option (List Int × Int) := (Dv p0 p1).bind fun x1 => (if (!x1) = true then some (([] : List Int),2) else (if (decide (p2 < 0) || decide ((p0.2.2.length : Int) ≤ p2)) = true then some (([] : List Int),7) else (ix p0.2.2 p2).bind fun x2 => (CU p0 p1 x2.1).bind fun x3 => (Ej p0 p1 x2.1).bind fun x4 => (Am (Dc p0 p1 p2 x2 x3 x4) ([],0)).bind fun x5 => some (x5,0)))
theorem Nt (Y : Nat → Prop) (w0 : World) (v1 : Value) (v2 : Value) (v3 : Value) (p0 : Int × (List (Int × Int × Int × Int × Int × Int)) × (List (Int × Int))) (p1 : List Nat) (p2 : Int) (r : List Int × Int) (H : Ee p0 p1 p2 = some r) (h_v1 : Sl w0 (NX []) B8 v1 p0.2.1) (h_v2 : Sl w0 (NX []) Cc v2 p0.2.2) (h_v3 : Sl w0 (NX []) (Rp.flt .f64) v3 p1) :
    Calls Tryz.prog 58 #[.agg #[.int .i64 p0.1,v1,v2],v3,.int .i64 p2] w0 fun e w' => ∃ x : Value,e = .returned (.tuple #[x,.int .i64 r.2]) ∧ Stw ⟨Y,[],w0⟩ [] [row (x) 3 (Rp.int .i64) r.1] w' := by
 refine enter Tryz.func58 rfl Tryz.ntmps58 rfl (fun a hF => ?_)
 have hW := Stw.start Y w0
 unfold Ee at H
 refine vc tk 2 hF hW fun a w hF hW => ?_
 refine Cv (cs := [.int .i64 p0.1,v1,v2]) hF hW rfl rfl rfl (fun b1 a w hF hW => ?_)
 refine E9 tk 9 [0] hF hW (ai fun a w hF hW => ?_)
 obtain ⟨x1,h1,H⟩ := Ad H
 refine ls hF hW rfl (Av (v := Value.bool x1) hF ZU rfl (fun w hW => FQ any w (v1) (v2) (v3) p0 p1 _ h1 (D3 (Ab h_v1) hW) (D3 (Ab h_v2) hW) (D3 (Ab h_v3) hW))) (fun a w hF hW => ?_)
 refine Bc tk 3 hF hW fun a w hF hW => ?_
 refine BA hF rfl H (fun hF H => ?_) (fun hF H => ?_)
 ·
  refine vc tk 6 hF hW fun a w hF hW => ?_
  refine Ah ?_
  refine Ak ?_
  have H := Option.some.inj H
  subst H
  refine Dz (.inl rfl) hF hW rfl (Ag hF rfl) (Ag hF rfl) ?_
  have hW := hW.nilRow 3 (Rp.int .i64)
  have hW := hW.sub (M' := []) (Z' := [row (Value.slice none 0 0) 3 (Rp.int .i64) ([])]) (List.nil_sublist _) (List.Sublist.refl _)
  exact ⟨(Value.slice none 0 0),rfl,hW⟩
 ·
  refine D2 tk 3 hF hW fun a w hF hW => ?_
  refine Aj (fun a w => Fr 99 [] [(1,v3),(2,.int .i64 p2),(3,.pointer (some ⟨b1,0,none⟩)),(6,.slice none 0 0),(7,.int .i64 0),(28,.bool (decide (p2 < 0) || decide ((p0.2.2.length : Int) ≤ p2)))] a ∧ Stw ⟨Y,[],w0⟩ [(b1,[.int .i64 p0.1,v1,v2])] [] w) ?_ ?_
  ·
   refine vc tk 4 hF hW fun a w hF hW => ?_
   rcases bxq (decide (p2 < 0)) with hb0 | hb0
   ·
    rw [hb0] at hF
    refine vl tk 7 hF hW fun a w hF hW => ?_
    refine Aa ?_
    exact ⟨hF.re ⟨rfl,rfl,rfl,rfl,rfl,(Di (by try rw [hb0]; all_goals simp only [Dl])),trivial⟩,hW⟩
   ·
    rw [hb0] at hF
    refine Eb tk 3 [0] hF hW (ai fun a w hF hW => ?_)
    refine BC hF hW (Ac hF rfl rfl rfl rfl) rfl (ze rfl) ((AK (r := Cc) (l := p0.2.2) JG rfl hF rfl (Ab h_v2)).q) (fun a w hF hW => ?_)
    refine vl tk 3 hF hW fun a w hF hW => ?_
    refine Aa ?_
    exact ⟨hF.re ⟨rfl,rfl,rfl,rfl,rfl,(Di (by try rw [hb0]; all_goals simp only [Dl])),trivial⟩,hW⟩
  rintro a w ⟨hF,hW⟩
  refine BA hF rfl H (fun hF H => ?_) (fun hF H => ?_)
  ·
   refine vc tk 6 hF hW fun a w hF hW => ?_
   refine Ah ?_
   refine Ak ?_
   have H := Option.some.inj H
   subst H
   refine Dz (.inl rfl) hF hW rfl (Ag hF rfl) (Ag hF rfl) ?_
   have hW := hW.nilRow 3 (Rp.int .i64)
   have hW := hW.sub (M' := []) (Z' := [row (Value.slice none 0 0) 3 (Rp.int .i64) ([])]) (List.nil_sublist _) (List.Sublist.refl _)
   exact ⟨(Value.slice none 0 0),rfl,hW⟩
  ·
   refine LT tk 7 [0] hF hW (ai fun a w hF hW => ?_)
   obtain ⟨x2,h2,H⟩ := Ad H
   refine ls hF hW rfl ((Ai (r := Cc) UE hF rfl rfl (Ab h_v2) h2).q) (fun a w hF hW => ?_)
   refine ls hF hW rfl ((Au JY rfl rfl rfl T3 hF rfl (Dt v2 + (p2).toNat * 2) rfl).q) (fun a w hF hW => ?_)
   refine ls hF hW rfl ((Af (y := Value.int .i64 x2.1) (j := 0) (i := p2) hF rfl rfl (Ab h_v2) h2 Nz.to T3 rfl).q) (fun a w hF hW => ?_)
   refine E9 tk 8 [0] hF hW (ai fun a w hF hW => ?_)
   obtain ⟨x3,h3,H⟩ := Ad H
   refine A9 (Ml := []) (Zl := []) (β := {x : Value // NN x (x3)}) (rv := fun x => x.1) (MM := fun x => []) (ZZ := fun x => [row x.1 147 (Rp.flt .f64) x3]) hF hW eO rfl rfl (fun hL => HY _ w (v1) (v2) (v3) p0 p1 x2.1 _ h3 ((Ab h_v1) w hW).nx ((Ab h_v2) w hW).nx ((Ab h_v3) w hW).nx) (fun x a w hF hW => ?_)
   obtain ⟨v4,rfl⟩ : ∃ y,y = x := ⟨x,rfl⟩
   have hW : Stw ⟨Y,[],w0⟩ [(b1,[.int .i64 p0.1,v1,v2])] [row v4.1 147 (Rp.flt .f64) x3] w := hW
   refine E9 tk 8 [0] hF hW (ai fun a w hF hW => ?_)
   obtain ⟨x4,h4,H⟩ := Ad H
   refine A9 (Ml := []) (Zl := []) (β := Value) (rv := fun x => x) (MM := fun x => []) (ZZ := fun x => [row x 3 (Rp.int .i64) x4]) hF hW fN rfl rfl (fun hL => Mr _ w (v1) (v2) (v3) p0 p1 x2.1 _ h4 ((Ab h_v1) w hW).nx ((Ab h_v2) w hW).nx ((Ab h_v3) w hW).nx) (fun x a w hF hW => ?_)
   obtain ⟨v5,rfl⟩ : ∃ y,y = x := ⟨x,rfl⟩
   have hW : Stw ⟨Y,[],w0⟩ [(b1,[.int .i64 p0.1,v1,v2])] [row v5 3 (Rp.int .i64) x4,row v4.1 147 (Rp.flt .f64) x3] w := hW
   refine Bc tk 8 hF hW fun a w hF hW => ?_
   obtain ⟨o1,G1,K1⟩ := Ad H
   refine Aj (fun a w => ∃ x5 : List Int, ∃ v6 : Value,some (x5) = some o1 ∧ Fr 99 [] [(6,.slice none 0 0),(7,.int .i64 0),(11,v6)] a ∧ Stw ⟨Y,[],w0⟩ [(b1,[.int .i64 p0.1,v1,v2])] [row v6 3 (Rp.int .i64) x5] w) ?_ ?_
   ·
    have H := G1
    clear G1 K1
    refine D7 tk 8 [0] hF hW (ai fun a w hF hW => ?_)
    have hW := hW.nilRow 3 (Rp.int .i64)
    have hW := hW.frontZ (i := 1) rfl rfl
    have hW := hW.frontZ (i := 2) rfl rfl
    refine AD H (fun s a w => ∃ v7 : Value,Fr 99 [] [(1,v3),(2,.int .i64 p2),(3,.pointer (some ⟨b1,0,none⟩)),(6,.slice none 0 0),(7,.int .i64 0),(8,.int .i64 x2.1),(9,v4.1),(10,v5),(11,v7),(44,.int .i64 p0.1),(45,.int .i64 s.2)] a ∧ Stw ⟨Y,[],w0⟩ [(b1,[.int .i64 p0.1,v1,v2])] [row v4.1 147 (Rp.flt .f64) x3,row v5 3 (Rp.int .i64) x4,row v7 3 (Rp.int .i64) s.1] w) ⟨(Value.slice none 0 0),hF.ra rfl,hW⟩ (fun s o a w H L2 hR => ?_)
    obtain ⟨x6,x7⟩ := s
    obtain ⟨v7,hF,hW⟩ := hR
    have hF : Fr 99 [] [(1,v3),(2,.int .i64 p2),(3,.pointer (some ⟨b1,0,none⟩)),(6,.slice none 0 0),(7,.int .i64 0),(8,.int .i64 x2.1),(9,v4.1),(10,v5),(11,v7),(44,.int .i64 p0.1),(45,.int .i64 x7)] a := hF
    have hW : Stw ⟨Y,[],w0⟩ [(b1,[.int .i64 p0.1,v1,v2])] [row v4.1 147 (Rp.flt .f64) x3,row v5 3 (Rp.int .i64) x4,row v7 3 (Rp.int .i64) x6] w := hW
    rw [Dc] at H
    refine vc tk 6 hF hW fun a w hF hW => ?_
    refine AG hF rfl H (fun hF H => ?_) (fun hF H => ?_)
    ·
     refine Ay ?_
     refine Aa ?_
     obtain ⟨o3,G3,K3⟩ := Ad H
     refine Aj (fun a w => ∃ x8 : List Int, ∃ v8 : Value,some (x8) = some o3 ∧ Fr 99 [] [(1,v3),(2,.int .i64 p2),(3,.pointer (some ⟨b1,0,none⟩)),(6,.slice none 0 0),(7,.int .i64 0),(8,.int .i64 x2.1),(9,v4.1),(10,v5),(11,v8),(44,.int .i64 p0.1),(45,.int .i64 x7)] a ∧ Stw ⟨Y,[],w0⟩ [(b1,[.int .i64 p0.1,v1,v2])] [row v4.1 147 (Rp.flt .f64) x3,row v5 3 (Rp.int .i64) x4,row v8 3 (Rp.int .i64) x8] w) ?_ ?_
     ·
      have H := G3
      clear G3 K3
      refine vc tk 12 hF hW fun a w hF hW => ?_
      obtain ⟨o4,G4,K4⟩ := Ad H
      refine Aj (fun a w => ∃ x9 : Int,some (x9) = some o4 ∧ Fr 99 [] [(1,v3),(2,.int .i64 p2),(3,.pointer (some ⟨b1,0,none⟩)),(6,.slice none 0 0),(7,.int .i64 0),(8,.int .i64 x2.1),(9,v4.1),(10,v5),(11,v7),(12,.int .i64 x7),(13,.int .i64 x9),(44,.int .i64 p0.1),(45,.int .i64 x7)] a ∧ Stw ⟨Y,[],w0⟩ [(b1,[.int .i64 p0.1,v1,v2])] [row v4.1 147 (Rp.flt .f64) x3,row v5 3 (Rp.int .i64) x4,row v7 3 (Rp.int .i64) x6] w) ?_ ?_
      ·
       have H := G4
       clear G4 K4
       refine vc tk 7 hF hW fun a w hF hW => ?_
       refine AG hF rfl H (fun hF H => ?_) (fun hF H => ?_)
       ·
        refine D7 tk 4 [0] hF hW (ai fun a w hF hW => ?_)
        obtain ⟨x10,h5,H⟩ := Ad H
        refine ls hF hW rfl ((Ai (r := Cc) UE hF rfl rfl (Ab h_v2) h5).q) (fun a w hF hW => ?_)
        refine ls hF hW rfl ((Au JY rfl rfl rfl T3 hF rfl (Dt v2 + (p2).toNat * 2 + 1) rfl).q) (fun a w hF hW => ?_)
        refine ls hF hW rfl ((Af (y := Value.int .i64 x10.2) (j := 1) (i := p2) hF rfl rfl (Ab h_v2) h5 Nz.to T3 rfl).q) (fun a w hF hW => ?_)
        refine vl tk 2 hF hW fun a w hF hW => ?_
        refine Aa ?_
        have hW := hW.frontZ (i := 2) rfl rfl
        have hW := hW.frontZ (i := 2) rfl rfl
        have hW := hW.frontZ (i := 2) rfl rfl
        exact ⟨_,H,hF.ra rfl,hW⟩
       ·
        refine Ay ?_
        refine Aa ?_
        have hW := hW.frontZ (i := 2) rfl rfl
        have hW := hW.frontZ (i := 2) rfl rfl
        have hW := hW.frontZ (i := 2) rfl rfl
        exact ⟨_,H,hF.ra rfl,hW⟩
      rintro a w ⟨x9,hj,hF,hW⟩
      have hj := Option.some.inj hj
      subst hj
      have H := K4
      clear G4 K4
      obtain ⟨o5,G5,K5⟩ := Ad H
      refine Aj (fun a w => ∃ x11 : Int,some (x11) = some o5 ∧ Fr 99 [] [(1,v3),(2,.int .i64 p2),(3,.pointer (some ⟨b1,0,none⟩)),(6,.slice none 0 0),(7,.int .i64 0),(8,.int .i64 x2.1),(9,v4.1),(10,v5),(11,v7),(13,.int .i64 x11),(44,.int .i64 p0.1),(45,.int .i64 x7)] a ∧ Stw ⟨Y,[],w0⟩ [(b1,[.int .i64 p0.1,v1,v2])] [row v4.1 147 (Rp.flt .f64) x3,row v5 3 (Rp.int .i64) x4,row v7 3 (Rp.int .i64) x6] w) ?_ ?_
      ·
       have H := G5
       clear G5 K5
       refine D7 tk 4 [0] hF hW (ai fun a w hF hW => ?_)
       obtain ⟨x12,h6,H⟩ := Ad H
       refine A9 (Ml := []) (Zl := []) (β := Value) (rv := fun x => x) (MM := fun x => []) (ZZ := fun x => [row x 187 A7 x12]) hF hW Zs rfl rfl (fun hL => FI _ w (v1) (v2) p0 x7 _ h6 ((Ab h_v1) w hW).nx ((Ab h_v2) w hW).nx) (fun x a w hF hW => ?_)
       obtain ⟨v9,rfl⟩ : ∃ y,y = x := ⟨x,rfl⟩
       have hW : Stw ⟨Y,[],w0⟩ [(b1,[.int .i64 p0.1,v1,v2])] [row v9 187 A7 x12,row v4.1 147 (Rp.flt .f64) x3,row v5 3 (Rp.int .i64) x4,row v7 3 (Rp.int .i64) x6] w := hW
       refine ls hF hW rfl ((AK (r := A7) (l := x12) MW rfl hF rfl (Ae 0 rfl)).q) (fun a w hF hW => ?_)
       refine Bc tk 4 hF hW fun a w hF hW => ?_
       have hW := hW.frontZ (i := 3) rfl rfl
       have hW := hW.frontZ (i := 3) rfl rfl
       have hW := hW.frontZ (i := 3) rfl rfl
       refine AD H (fun s a w => Fr 99 [] [(1,v3),(2,.int .i64 p2),(3,.pointer (some ⟨b1,0,none⟩)),(6,.slice none 0 0),(7,.int .i64 0),(8,.int .i64 x2.1),(9,v4.1),(10,v5),(11,v7),(12,.int .i64 x7),(13,.int .i64 s.1),(44,.int .i64 p0.1),(45,.int .i64 x7),(59,v9),(60,.int .i64 (x12.length : Int)),(61,.int .i64 s.2)] a ∧ Stw ⟨Y,[],w0⟩ [(b1,[.int .i64 p0.1,v1,v2])] [row v4.1 147 (Rp.flt .f64) x3,row v5 3 (Rp.int .i64) x4,row v7 3 (Rp.int .i64) x6,row v9 187 A7 x12] w) ⟨hF.ra rfl,hW⟩ (fun s o a w H L6 hR => ?_)
       obtain ⟨x13,x14⟩ := s
       obtain ⟨hF,hW⟩ := hR
       have hF : Fr 99 [] [(1,v3),(2,.int .i64 p2),(3,.pointer (some ⟨b1,0,none⟩)),(6,.slice none 0 0),(7,.int .i64 0),(8,.int .i64 x2.1),(9,v4.1),(10,v5),(11,v7),(12,.int .i64 x7),(13,.int .i64 x13),(44,.int .i64 p0.1),(45,.int .i64 x7),(59,v9),(60,.int .i64 (x12.length : Int)),(61,.int .i64 x14)] a := hF
       have hW : Stw ⟨Y,[],w0⟩ [(b1,[.int .i64 p0.1,v1,v2])] [row v4.1 147 (Rp.flt .f64) x3,row v5 3 (Rp.int .i64) x4,row v7 3 (Rp.int .i64) x6,row v9 187 A7 x12] w := hW
       rw [Cn] at H
       refine vc tk 6 hF hW fun a w hF hW => ?_
       refine AG hF rfl H (fun hF H => ?_) (fun hF H => ?_)
       ·
        refine Ay ?_
        refine Aa ?_
        obtain ⟨o7,G7,K7⟩ := Ad H
        refine Aj (fun a w => ∃ x15 : Int,some (x15) = some o7 ∧ Fr 99 [] [(1,v3),(2,.int .i64 p2),(3,.pointer (some ⟨b1,0,none⟩)),(6,.slice none 0 0),(7,.int .i64 0),(8,.int .i64 x2.1),(9,v4.1),(10,v5),(11,v7),(12,.int .i64 x7),(13,.int .i64 x15),(44,.int .i64 p0.1),(45,.int .i64 x7),(59,v9),(60,.int .i64 (x12.length : Int)),(61,.int .i64 x14)] a ∧ Stw ⟨Y,[],w0⟩ [(b1,[.int .i64 p0.1,v1,v2])] [row v4.1 147 (Rp.flt .f64) x3,row v5 3 (Rp.int .i64) x4,row v7 3 (Rp.int .i64) x6,row v9 187 A7 x12] w) ?_ ?_
        ·
         have H := G7
         clear G7 K7
         refine vc tk 3 hF hW fun a w hF hW => ?_
         obtain ⟨x16,h7,H⟩ := Ad H
         refine ls hF hW rfl ((Ai (r := A7) Jh hF rfl rfl (Ae 3 rfl) h7).q) (fun a w hF hW => ?_)
         refine ls hF hW rfl ((Af (y := Value.agg #[.int .i64 x16.1,.int .i64 x16.2.1,.int .i64 x16.2.2]) (j := 0) (i := x14) hF rfl rfl (Ae 3 rfl) h7 Kb.to I8 rfl).q) (fun a w hF hW => ?_)
         refine Ck (cs := [.int .i64 0,.int .i64 0,.int .i64 0]) hF hW rfl RU rfl (fun b2 a w hF hW => ?_)
         refine Iw 0 hF hW rfl rfl rfl I8 rfl rfl rfl (fun w hW => ?_)
         refine D1 (Aa ?_)
         obtain ⟨o8,G8,K8⟩ := Ad H
         refine Aj (fun a w => ∃ x17 : Bool,some (x17) = some o8 ∧ Fr 99 [] [(1,v3),(2,.int .i64 p2),(3,.pointer (some ⟨b1,0,none⟩)),(6,.slice none 0 0),(7,.int .i64 0),(8,.int .i64 x2.1),(9,v4.1),(10,v5),(11,v7),(12,.int .i64 x7),(13,.int .i64 x13),(15,.pointer (some ⟨b2,0,none⟩)),(44,.int .i64 p0.1),(45,.int .i64 x7),(59,v9),(60,.int .i64 (x12.length : Int)),(61,.int .i64 x14),(89,.bool x17)] a ∧ Stw ⟨Y,[],w0⟩ [(b2,[.int .i64 x16.1,.int .i64 x16.2.1,.int .i64 x16.2.2]),(b1,[.int .i64 p0.1,v1,v2])] [row v4.1 147 (Rp.flt .f64) x3,row v5 3 (Rp.int .i64) x4,row v7 3 (Rp.int .i64) x6,row v9 187 A7 x12] w) ?_ ?_
         ·
          have H := G8
          clear G8 K8
          refine BV hW MO (by kernel_rfl) ?_
          refine qs hF rfl ((Al hF rfl).q) (fun a hF => ?_)
          refine qs hF rfl ((O1 hF rfl rfl).q) (fun a hF => ?_)
          refine qs hF rfl ((Al hF rfl).q) (fun a hF => ?_)
          rcases bxq (decide (x13 < 0)) with hb | hb
          ·
           have H := BP (of_decide_eq_true hb) H
           rw [hb] at hF
           clear hb
           refine Bf hF (Ac hF rfl rfl rfl rfl) rfl (ze rfl) ((Al hF rfl).q) (fun a hF => ?_)
           refine Bf hF (Ac hF rfl rfl rfl rfl) rfl (ze rfl) ((Au IW rfl rfl rfl T3 hF rfl 1 rfl).q) (fun a hF => ?_)
           refine Bf hF (Ac hF rfl rfl rfl rfl) rfl (ze rfl) ((B5 (v := Value.int .i64 x16.2.1) 0 hF rfl rfl T3 rfl).q) (fun a hF => ?_)
           obtain ⟨x18,h8,H⟩ := Ad H
           refine Bf hF (Ac hF rfl rfl rfl rfl) rfl (ze rfl) ((Ai (r := (Rp.int .i64)) Do hF rfl rfl (Ae 1 rfl) h8).q) (fun a hF => ?_)
           refine Bf hF (Ac hF rfl rfl rfl rfl) rfl (ze rfl) ((Af (y := Value.int .i64 x18) (j := 0) (i := x16.2.1) hF rfl rfl (Ae 1 rfl) h8 Fl.int.to T3 rfl).q) (fun a hF => ?_)
           iterate 2 refine Bf hF (Ac hF rfl rfl rfl rfl) rfl (ze rfl) ((Al hF rfl).q) (fun a hF => ?_)
           obtain ⟨x19,h9,H⟩ := Ad H
           refine Bf hF (Ac hF rfl rfl rfl rfl) rfl (ze rfl) ((Ai (r := (Rp.int .i64)) Do hF rfl rfl (Ae 1 rfl) h9).q) (fun a hF => ?_)
           refine Bf hF (Ac hF rfl rfl rfl rfl) rfl (ze rfl) ((Af (y := Value.int .i64 x19) (j := 0) (i := x7) hF rfl rfl (Ae 1 rfl) h9 Fl.int.to T3 rfl).q) (fun a hF => ?_)
           refine Bf hF (Ac hF rfl rfl rfl rfl) rfl (ze rfl) ((IX hF rfl rfl rfl).q) (fun a hF => ?_)
           refine Bf hF (Ac hF rfl rfl rfl rfl) rfl (ze rfl) ((IR hF rfl rfl).q) (fun a hF => ?_)
           refine qs hF rfl ((CE hF rfl rfl rfl).q) (fun a hF => ?_)
           refine qs hF rfl ((Al hF rfl).q) (fun a hF => ?_)
           rcases bxq (decide (x18 = (w64 (x19 - 1)))) with hb | hb
           ·
            have H := BP (of_decide_eq_true hb) H
            rw [hb] at hF
            clear hb
            iterate 3 refine Bf hF (Ac hF rfl rfl rfl rfl) rfl (ze rfl) ((Al hF rfl).q) (fun a hF => ?_)
            refine Bf hF (Ac hF rfl rfl rfl rfl) rfl (ze rfl) ((Au IW rfl rfl rfl T3 hF rfl 2 rfl).q) (fun a hF => ?_)
            refine Bf hF (Ac hF rfl rfl rfl rfl) rfl (ze rfl) ((B5 (v := Value.int .i64 x16.2.2) 0 hF rfl rfl T3 rfl).q) (fun a hF => ?_)
            refine Bf hF (Ac hF rfl rfl rfl rfl) rfl (ze rfl) ((Au IW rfl rfl rfl T3 hF rfl 1 rfl).q) (fun a hF => ?_)
            refine Bf hF (Ac hF rfl rfl rfl rfl) rfl (ze rfl) ((B5 (v := Value.int .i64 x16.2.1) 0 hF rfl rfl T3 rfl).q) (fun a hF => ?_)
            obtain ⟨x20,h10,H⟩ := Ad H
            refine Bf hF (Ac hF rfl rfl rfl rfl) rfl (ze rfl) (Av (v := Value.bool x20) hF Y0 rfl (fun w hW => Hs any w (v3) (v4.1) p1 x3 x7 x16.2.2 x16.2.1 _ h10 (D3 (Ab h_v3) hW) (D3 (Ae 0 rfl) hW))) (fun a hF => ?_)
            refine qs hF rfl ((CE hF rfl rfl rfl).q) (fun a hF => ?_)
            refine AX (fun w hW => ?_)
            refine Aa ?_
            have hW := hW.frontZ (i := 3) rfl rfl
            have hW := hW.frontZ (i := 3) rfl rfl
            have hW := hW.frontZ (i := 3) rfl rfl
            have hW := hW.frontZ (i := 3) rfl rfl
            have hW := hW.frontM (i := 1) rfl rfl
            have hW := hW.frontM (i := 1) rfl rfl
            exact ⟨_,H,hF.ra rfl,hW⟩
           ·
            have H := BQ (of_decide_eq_false hb) H
            rw [hb] at hF
            clear hb
            iterate 8 refine DS hF (B4 hF rfl rfl rfl rfl rfl) rfl rfl (fun a hF => ?_)
            refine qs hF rfl ((Cy hF rfl rfl rfl).q) (fun a hF => ?_)
            refine AX (fun w hW => ?_)
            refine Aa ?_
            have hW := hW.frontZ (i := 3) rfl rfl
            have hW := hW.frontZ (i := 3) rfl rfl
            have hW := hW.frontZ (i := 3) rfl rfl
            have hW := hW.frontZ (i := 3) rfl rfl
            have hW := hW.frontM (i := 1) rfl rfl
            have hW := hW.frontM (i := 1) rfl rfl
            exact ⟨_,H,hF.ra rfl,hW⟩
          ·
           have H := BQ (of_decide_eq_false hb) H
           rw [hb] at hF
           clear hb
           iterate 11 refine DS hF (B4 hF rfl rfl rfl rfl rfl) rfl rfl (fun a hF => ?_)
           refine qs hF rfl ((Cy hF rfl rfl rfl).q) (fun a hF => ?_)
           refine qs hF rfl ((Al hF rfl).q) (fun a hF => ?_)
           iterate 8 refine DS hF (B4 hF rfl rfl rfl rfl rfl) rfl rfl (fun a hF => ?_)
           refine qs hF rfl ((Cy hF rfl rfl rfl).q) (fun a hF => ?_)
           refine AX (fun w hW => ?_)
           refine Aa ?_
           have hW := hW.frontZ (i := 3) rfl rfl
           have hW := hW.frontZ (i := 3) rfl rfl
           have hW := hW.frontZ (i := 3) rfl rfl
           have hW := hW.frontZ (i := 3) rfl rfl
           have hW := hW.frontM (i := 1) rfl rfl
           have hW := hW.frontM (i := 1) rfl rfl
           exact ⟨_,H,hF.ra rfl,hW⟩
         rintro a w ⟨x17,hj,hF,hW⟩
         have hj := Option.some.inj hj
         subst hj
         have H := K8
         clear G8 K8
         refine BA hF rfl H (fun hF H => ?_) (fun hF H => ?_)
         ·
          refine D7 tk 5 [0] hF hW (ai fun a w hF hW => ?_)
          refine An ?_
          refine Aa ?_
          have hW := hW.frontZ (i := 3) rfl rfl
          have hW := hW.frontZ (i := 3) rfl rfl
          have hW := hW.frontZ (i := 3) rfl rfl
          have hW := hW.frontZ (i := 3) rfl rfl
          have hW := hW.frontM (i := 1) rfl rfl
          have hW := hW.sub (M' := [(b1,[.int .i64 p0.1,v1,v2])]) (Z' := [row v4.1 147 (Rp.flt .f64) x3,row v5 3 (Rp.int .i64) x4,row v7 3 (Rp.int .i64) x6,row v9 187 A7 x12]) (List.Sublist.cons_cons _ (List.nil_sublist _)) (List.Sublist.refl _)
          exact ⟨_,H,hF.ra rfl,hW⟩
         ·
          refine Ay ?_
          refine An ?_
          refine Aa ?_
          have hW := hW.frontZ (i := 3) rfl rfl
          have hW := hW.frontZ (i := 3) rfl rfl
          have hW := hW.frontZ (i := 3) rfl rfl
          have hW := hW.frontZ (i := 3) rfl rfl
          have hW := hW.frontM (i := 1) rfl rfl
          have hW := hW.sub (M' := [(b1,[.int .i64 p0.1,v1,v2])]) (Z' := [row v4.1 147 (Rp.flt .f64) x3,row v5 3 (Rp.int .i64) x4,row v7 3 (Rp.int .i64) x6,row v9 187 A7 x12]) (List.Sublist.cons_cons _ (List.nil_sublist _)) (List.Sublist.refl _)
          exact ⟨_,H,hF.ra rfl,hW⟩
        rintro a w ⟨x15,hj,hF,hW⟩
        have hj := Option.some.inj hj
        subst hj
        have H := K7
        clear G7 K7
        refine vc tk 4 hF hW fun a w hF hW => ?_
        refine Aa ?_
        have hW := hW.frontZ (i := 3) rfl rfl
        have hW := hW.frontZ (i := 3) rfl rfl
        have hW := hW.frontZ (i := 3) rfl rfl
        have hW := hW.frontZ (i := 3) rfl rfl
        exact ⟨_,H,hF.ra rfl,hW⟩
       ·
        refine AE ?_
        iterate 2 refine AQ ?_
        refine AF ?_
        refine Aa ?_
        have hW := hW.frontZ (i := 2) rfl rfl
        have hW := hW.frontZ (i := 2) rfl rfl
        have hW := hW.frontZ (i := 2) rfl rfl
        have hW := hW.sub (M' := [(b1,[.int .i64 p0.1,v1,v2])]) (Z' := [row v4.1 147 (Rp.flt .f64) x3,row v5 3 (Rp.int .i64) x4,row v7 3 (Rp.int .i64) x6]) (List.Sublist.refl _) (List.Sublist.cons_cons _ (List.Sublist.cons_cons _ (List.Sublist.cons_cons _ (List.nil_sublist _))))
        have H := L6 _ H
        exact ⟨_,H,hF.ra rfl,hW⟩
      rintro a w ⟨x11,hj,hF,hW⟩
      have hj := Option.some.inj hj
      subst hj
      have H := K5
      clear G5 K5
      refine vc tk 3 hF hW fun a w hF hW => ?_
      refine CK (z := Value.int .i64 0) (cs := [.int .i64 x11]) (Rp.int .i64) ([x11] : List Int) hF hW rfl Do Z3 rfl rfl rfl rfl rfl rfl (Fl.int.repL _ _ ([x11] : List Int)) (fun v10 a w hF hW => ?_)
      obtain ⟨x21,h11,H⟩ := Ad H
      refine BF (r := (Rp.int .i64)) (i := 3) hF hW rfl Do rfl rfl rfl rfl (BU hW 0 rfl) h11 rfl (fun v11 a w hF hW => ?_)
      have hW : Stw ⟨Y,[],w0⟩ [(b1,[.int .i64 p0.1,v1,v2])] [row v11 3 (Rp.int .i64) x21,row v10 3 (Rp.int .i64) ([x11] : List Int),row v4.1 147 (Rp.flt .f64) x3,row v5 3 (Rp.int .i64) x4] w := hW
      refine vl tk 2 hF hW fun a w hF hW => ?_
      refine An ?_
      refine Aa ?_
      have hW := hW.frontZ (i := 3) rfl rfl
      have hW := hW.frontZ (i := 3) rfl rfl
      have hW := hW.sub (M' := [(b1,[.int .i64 p0.1,v1,v2])]) (Z' := [row v4.1 147 (Rp.flt .f64) x3,row v5 3 (Rp.int .i64) x4,row v11 3 (Rp.int .i64) x21]) (List.Sublist.refl _) (List.Sublist.cons_cons _ (List.Sublist.cons_cons _ (List.Sublist.cons_cons _ (List.nil_sublist _))))
      exact ⟨_,(v11),H,hF.ra rfl,hW⟩
     rintro a w ⟨x8,v8,hj,hF,hW⟩
     have hj := Option.some.inj hj
     subst hj
     have H := K3
     clear G3 K3
     refine vc tk 4 hF hW fun a w hF hW => ?_
     refine Aa ?_
     have hW := hW.frontZ (i := 2) rfl rfl
     have hW := hW.frontZ (i := 2) rfl rfl
     have hW := hW.frontZ (i := 2) rfl rfl
     exact ⟨_,H,(v8),hF.ra rfl,hW⟩
    ·
     refine AE ?_
     iterate 2 refine AQ ?_
     refine AF ?_
     refine Aa ?_
     have hW := hW.frontZ (i := 2) rfl rfl
     have hW := hW.sub (M' := [(b1,[.int .i64 p0.1,v1,v2])]) (Z' := [row v7 3 (Rp.int .i64) x6]) (List.Sublist.refl _) (List.Sublist.cons_cons _ (List.nil_sublist _))
     have H := L2 _ H
     exact ⟨_,(v7),H,hF.ra rfl,hW⟩
   rintro a w ⟨x5,v6,hj,hF,hW⟩
   have hj := Option.some.inj hj
   subst hj
   have H := K1
   clear G1 K1
   refine vc tk 7 hF hW fun a w hF hW => ?_
   refine Ah ?_
   have H := Option.some.inj H
   subst H
   refine Dz (.inl rfl) hF hW rfl (Ag hF rfl) (Ag hF rfl) ?_
   have hW := hW.sub (M' := []) (Z' := [row v6 3 (Rp.int .i64) x5]) (List.nil_sublist _) (List.Sublist.refl _)
   exact ⟨(v6),rfl,hW⟩
theorem gF : Has Tryz.prog 58 := Bj Tryz.func58
def BJ (x7 : List Int × Int) : ((List (Nat × List Int)) × Int) → Option (((List (Nat × List Int)) × Int) ⊕ ((List (Nat × List Int)) ⊕ (((List (Nat × List Int)) × Int) ⊕ ((List (Nat × List Int)) ⊕ ((List (Nat × List Int)) × Int)))))
  | (x8,x9) => (if x9 < (x7.1.length : Int) then (ix x7.1 x9).bind fun x10 => (if x10 < 0 then some (.inr (.inr (.inr (.inr (([] : List (Nat × List Int)),7))))) else (ix x8 x9).bind fun x11 => (UV x11.1).bind fun x12 => (app x11.2 ([x10] : List Int)).bind fun x13 => (ix (Ao x8 x9 (0,[])) x9).bind fun x14 => some (.inl ((Ao (Ao x8 x9 (0,[])) x9 (2,x13)),w64 (x9 + 1)))) else some (.inr (.inl x8)))
def Cd (p0 : Int × (List (Int × Int × Int × Int × Int × Int)) × (List (Int × Int))) (p1 : List Nat) : ((List (Nat × List Int)) × Int) → Option (((List (Nat × List Int)) × Int) ⊕ ((List (Nat × List Int)) ⊕ ((List (Nat × List Int)) × Int)))
  | (x4,x5) => (if x5 < (p0.2.2.length : Int) then GU ((Ee p0 p1 x5).bind fun x7 => Am (BJ x7) (x4,0)) fun x6 => some (.inl (x6,w64 (x5 + 1))) else some (.inr (.inl x4)))
def C4 (p0 : Int × (List (Int × Int × Int × Int × Int × Int)) × (List (Int × Int))) (p1 : List Nat) : Option ((List (Nat × List Int)) × Int) := (Dv p0 p1).bind fun x1 => (if (!x1) = true then some (([] : List (Nat × List Int)),2) else (mk p0.1 ((2,[]) : Nat × List Int)).bind fun x2 => GU (Am (Cd p0 p1) (x2,0)) fun x3 => some (x3,0))
theorem KU (Y : Nat → Prop) (w0 : World) (v1 : Value) (v2 : Value) (v3 : Value) (p0 : Int × (List (Int × Int × Int × Int × Int × Int)) × (List (Int × Int))) (p1 : List Nat) (r : (List (Nat × List Int)) × Int) (H : C4 p0 p1 = some r) (h_v1 : Sl w0 (NX []) B8 v1 p0.2.1) (h_v2 : Sl w0 (NX []) Cc v2 p0.2.2) (h_v3 : Sl w0 (NX []) (Rp.flt .f64) v3 p1) :
    Calls Tryz.prog 25 #[.agg #[.int .i64 p0.1,v1,v2],v3] w0 fun e w' => ∃ x : Value × ({x : List (Value × Nat × List Int) // x.map Fy = r.1}),e = .returned (.tuple #[x.1,.int .i64 r.2]) ∧ Stw ⟨Y,[],w0⟩ [] [Cq (x.1) 27 Ez (x.2.1)] w' := by
 refine enter Tryz.func25 rfl Tryz.ntmps25 rfl (fun a hF => ?_)
 have hW := Stw.start Y w0
 unfold C4 at H
 refine vc tk 2 hF hW fun a w hF hW => ?_
 refine Cv (cs := [.int .i64 p0.1,v1,v2]) hF hW rfl rfl rfl (fun b1 a w hF hW => ?_)
 refine E9 tk 9 [0] hF hW (ai fun a w hF hW => ?_)
 obtain ⟨x1,h1,H⟩ := Ad H
 refine ls hF hW rfl (Av (v := Value.bool x1) hF ZU rfl (fun w hW => FQ any w (v1) (v2) (v3) p0 p1 _ h1 (D3 (Ab h_v1) hW) (D3 (Ab h_v2) hW) (D3 (Ab h_v3) hW))) (fun a w hF hW => ?_)
 refine Bc tk 3 hF hW fun a w hF hW => ?_
 refine BA hF rfl H (fun hF H => ?_) (fun hF H => ?_)
 ·
  refine vc tk 6 hF hW fun a w hF hW => ?_
  refine Ah ?_
  refine Ak ?_
  have H := Option.some.inj H
  subst H
  refine Dz (.inl rfl) hF hW rfl (Ag hF rfl) (Ag hF rfl) ?_
  have hW := hW.dNil 27 Ez
  have h2 : List.map Fy ([] : List (Value × Nat × List Int)) = ([] : List (Nat × List Int)) := rfl
  have hW := hW.sub (M' := []) (Z' := [Cq (Value.slice none 0 0) 27 Ez ([] : List (Value × Nat × List Int))]) (List.nil_sublist _) (List.Sublist.refl _)
  exact ⟨((Value.slice none 0 0),⟨[],rfl⟩),rfl,hW⟩
 ·
  refine LT tk 6 [0] hF hW (ai fun a w hF hW => ?_)
  obtain ⟨x2,h3,H⟩ := Ad H
  have h4 := YZ (er := Fy) (z := (Value.slice none 0 0,2,[])) h3
  refine P5 (r := Ez.hr) (Value.slice none 0 0,2,[]) hF hW rfl Uv eH rfl rfl (fun w A => ⟨rfl,rfl⟩) h4.1 rfl (fun v4 a w hF hW => ?_)
  have hW := Stw.dNew (D := Ez) Nl.sl hW
  have h5 : List.map Fy (List.replicate (p0.1).toNat ((Value.slice none 0 0,2,[]) : Value × Nat × List Int)) = x2 := h4.2
  have hW : Stw ⟨Y,[],w0⟩ [(b1,[.int .i64 p0.1,v1,v2])] [Cq v4 27 Ez (List.replicate (p0.1).toNat ((Value.slice none 0 0,2,[]) : Value × Nat × List Int))] w := hW
  refine vl tk 2 hF hW fun a w hF hW => ?_
  refine Aa ?_
  obtain ⟨o1,G1,K1,L1⟩ := KC H
  refine Aj (fun a w => ∃ x3 : List (Nat × List Int), ∃ g_x3 : {x : List (Value × Nat × List Int) // x.map Fy = x3},some (Sum.inl x3) = some o1 ∧ Fr 54 [] [(4,.slice none 0 0),(5,.int .i64 0),(6,v4)] a ∧ Stw ⟨Y,[],w0⟩ [(b1,[.int .i64 p0.1,v1,v2])] [Cq v4 27 Ez g_x3.1] w) ?_ ?_
  ·
   have H := G1
   clear G1 K1
   refine D7 tk 4 [0] hF hW (ai fun a w hF hW => ?_)
   refine ls hF hW rfl ((AK (r := Cc) (l := p0.2.2) JG rfl hF rfl (Ab h_v2)).q) (fun a w hF hW => ?_)
   refine Bc tk 4 hF hW fun a w hF hW => ?_
   refine AD H (fun s a w => ∃ g_x4 : {x : List (Value × Nat × List Int) // x.map Fy = s.1},Fr 54 [] [(1,v3),(2,.pointer (some ⟨b1,0,none⟩)),(4,.slice none 0 0),(5,.int .i64 0),(6,v4),(21,.int .i64 (p0.2.2.length : Int)),(22,.int .i64 s.2)] a ∧ Stw ⟨Y,[],w0⟩ [(b1,[.int .i64 p0.1,v1,v2])] [Cq v4 27 Ez g_x4.1] w) ⟨⟨(List.replicate (p0.1).toNat ((Value.slice none 0 0,2,[]) : Value × Nat × List Int)),h5⟩,hF.ra rfl,hW⟩ (fun s o a w H L2 hR => ?_)
   obtain ⟨x4,x5⟩ := s
   obtain ⟨g_x4,hF,hW⟩ := hR
   have hF : Fr 54 [] [(1,v3),(2,.pointer (some ⟨b1,0,none⟩)),(4,.slice none 0 0),(5,.int .i64 0),(6,v4),(21,.int .i64 (p0.2.2.length : Int)),(22,.int .i64 x5)] a := hF
   have hW : Stw ⟨Y,[],w0⟩ [(b1,[.int .i64 p0.1,v1,v2])] [Cq v4 27 Ez g_x4.1] w := hW
   rw [Cd] at H
   refine vc tk 6 hF hW fun a w hF hW => ?_
   refine AG hF rfl H (fun hF H => ?_) (fun hF H => ?_)
   ·
    refine Ay ?_
    refine Aa ?_
    obtain ⟨o3,G3,K3,L3⟩ := KC H
    refine Aj (fun a w => ∃ x6 : List (Nat × List Int), ∃ g_x6 : {x : List (Value × Nat × List Int) // x.map Fy = x6},some (Sum.inl x6) = some o3 ∧ Fr 54 [] [(1,v3),(2,.pointer (some ⟨b1,0,none⟩)),(4,.slice none 0 0),(5,.int .i64 0),(6,v4),(21,.int .i64 (p0.2.2.length : Int)),(22,.int .i64 x5)] a ∧ Stw ⟨Y,[],w0⟩ [(b1,[.int .i64 p0.1,v1,v2])] [Cq v4 27 Ez g_x6.1] w) ?_ ?_
    ·
     have H := G3
     clear G3 K3
     refine D7 tk 12 [0] hF hW (ai fun a w hF hW => ?_)
     obtain ⟨x7,h6,H⟩ := Ad H
     refine A9 (Ml := []) (Zl := []) (β := Value) (rv := fun x => .tuple #[x,.int .i64 x7.2]) (MM := fun x => []) (ZZ := fun x => [row x 3 (Rp.int .i64) x7.1]) hF hW gF rfl rfl (fun hL => Nt _ w (v1) (v2) (v3) p0 p1 x5 _ h6 ((Ab h_v1) w hW).nx ((Ab h_v2) w hW).nx ((Ab h_v3) w hW).nx) (fun x a w hF hW => ?_)
     obtain ⟨v5,rfl⟩ : ∃ y,y = x := ⟨x,rfl⟩
     have hW : Stw ⟨Y,[],w0⟩ [(b1,[.int .i64 p0.1,v1,v2])] [row v5 3 (Rp.int .i64) x7.1,Cq v4 27 Ez g_x4.1] w := hW
     refine ls hF hW rfl ((Al hF rfl).q) (fun a w hF hW => ?_)
     refine ls hF hW rfl ((A4 (v := v5) hF rfl rfl).q) (fun a w hF hW => ?_)
     refine ls hF hW rfl ((A4 (v := Value.int .i64 x7.2) hF rfl rfl).q) (fun a w hF hW => ?_)
     refine Bc tk 7 hF hW fun a w hF hW => ?_
     refine ls hF hW rfl ((AK (r := (Rp.int .i64)) (l := x7.1) GG rfl hF rfl (Ae 0 rfl)).q) (fun a w hF hW => ?_)
     refine Bc tk 4 hF hW fun a w hF hW => ?_
     have hW := hW.frontZ (i := 1) rfl rfl
     refine AD H (fun s a w => ∃ g_x8 : {x : List (Value × Nat × List Int) // x.map Fy = s.1},Fr 54 [] [(1,v3),(2,.pointer (some ⟨b1,0,none⟩)),(4,.slice none 0 0),(5,.int .i64 0),(6,v4),(21,.int .i64 (p0.2.2.length : Int)),(22,.int .i64 x5),(32,v5),(33,.int .i64 (x7.1.length : Int)),(34,.int .i64 s.2)] a ∧ Stw ⟨Y,[],w0⟩ [(b1,[.int .i64 p0.1,v1,v2])] [Cq v4 27 Ez g_x8.1,row v5 3 (Rp.int .i64) x7.1] w) ⟨⟨g_x4.1,g_x4.2⟩,hF.ra rfl,hW⟩ (fun s o a w H L4 hR => ?_)
     obtain ⟨x8,x9⟩ := s
     obtain ⟨g_x8,hF,hW⟩ := hR
     have hF : Fr 54 [] [(1,v3),(2,.pointer (some ⟨b1,0,none⟩)),(4,.slice none 0 0),(5,.int .i64 0),(6,v4),(21,.int .i64 (p0.2.2.length : Int)),(22,.int .i64 x5),(32,v5),(33,.int .i64 (x7.1.length : Int)),(34,.int .i64 x9)] a := hF
     have hW : Stw ⟨Y,[],w0⟩ [(b1,[.int .i64 p0.1,v1,v2])] [Cq v4 27 Ez g_x8.1,row v5 3 (Rp.int .i64) x7.1] w := hW
     rw [BJ] at H
     refine vc tk 6 hF hW fun a w hF hW => ?_
     refine AG hF rfl H (fun hF H => ?_) (fun hF H => ?_)
     ·
      refine D2 tk 7 hF hW fun a w hF hW => ?_
      obtain ⟨x10,h7,H⟩ := Ad H
      refine ls hF hW rfl ((Ai (r := (Rp.int .i64)) Do hF rfl rfl (Ae 1 rfl) h7).q) (fun a w hF hW => ?_)
      refine ls hF hW rfl ((Af (y := Value.int .i64 x10) (j := 0) (i := x9) hF rfl rfl (Ae 1 rfl) h7 Fl.int.to T3 rfl).q) (fun a w hF hW => ?_)
      refine Bc tk 11 hF hW fun a w hF hW => ?_
      refine AG hF rfl H (fun hF H => ?_) (fun hF H => ?_)
      ·
       refine vc tk 6 hF hW fun a w hF hW => ?_
       refine Ah ?_
       refine Ak ?_
       refine Az ?_
       iterate 2 refine Ak ?_
       iterate 2 refine Az ?_
       iterate 2 refine Ak ?_
       refine Az ?_
       refine Ak ?_
       have H := L4 _ H
       have H := L3 _ H
       have H := L2 _ H
       have H := L1 _ H
       have H := Option.some.inj H
       subst H
       refine Dz (.inl rfl) hF hW rfl (Ag hF rfl) (Ag hF rfl) ?_
       have hW := hW.dNil 27 Ez
       have h8 : List.map Fy ([] : List (Value × Nat × List Int)) = ([] : List (Nat × List Int)) := rfl
       have hW := hW.sub (M' := []) (Z' := [Cq (Value.slice none 0 0) 27 Ez ([] : List (Value × Nat × List Int))]) (List.nil_sublist _) (List.Sublist.cons_cons _ (List.nil_sublist _))
       exact ⟨((Value.slice none 0 0),⟨[],rfl⟩),rfl,hW⟩
      ·
       refine D2 tk 7 hF hW fun a w hF hW => ?_
       obtain ⟨x11,h9,H⟩ := Ad H
       obtain ⟨v6,h10,h11⟩ := Dm (er := Fy) g_x8.2 h9
       refine ls hF hW rfl ((Ai (r := Ez.hr) Uv hF rfl rfl (Pq.hd (NK 0 rfl)) h10).q) (fun a w hF hW => ?_)
       have h12 : Ez.cells v6 = [(v6.1)] := congrArg (fun q : Nat × List Int => ([(v6.1)] : List Value)) h11
       refine ls hF hW rfl ((Af (y := (v6.1)) (j := 0) (i := x9) (enc := Ez.cells) hF rfl rfl (Pq.hd (NK 0 rfl)) h10 Ez.flat Wi (by rw [h12]; rfl)).q) (fun a w hF hW => ?_)
       refine ls hF hW rfl ((Al hF rfl).q) (fun a w hF hW => ?_)
       refine CK (z := Value.int .i64 0) (cs := [.int .i64 x10]) (Rp.int .i64) ([x10] : List Int) hF hW rfl Do Z3 rfl rfl rfl rfl rfl rfl (Fl.int.repL _ _ ([x10] : List Int)) (fun v7 a w hF hW => ?_)
       obtain ⟨x12,h13,H⟩ := Ad H
       have hW := hW.frontZ (i := 1) rfl rfl
       have hW := hW.dTakeR h10 Foc.here ((congrArg (fun q : Nat × List Int => q) h11).trans (Prod.ext (U7 h13) rfl))
       have h14 : List.map Fy (Ao g_x8.1 x9 ((v6.1),0,[])) = (Ao x8 x9 (0,[])) := (SJ g_x8.2 (congrArg (fun q : Nat × List Int => (0,[])) h11))
       have hW : Stw ⟨Y,[],w0⟩ [(b1,[.int .i64 p0.1,v1,v2])] [row (v6.1) 3 (Rp.int .i64) x11.2,Cq v4 27 Ez (Ao g_x8.1 x9 ((v6.1),0,[])),row v7 3 (Rp.int .i64) ([x10] : List Int),row v5 3 (Rp.int .i64) x7.1] w := hW
       obtain ⟨x13,h15,H⟩ := Ad H
       refine BF (r := (Rp.int .i64)) (i := 0) hF hW rfl Do rfl rfl rfl rfl (BU hW 2 rfl) h15 rfl (fun v8 a w hF hW => ?_)
       have hW : Stw ⟨Y,[],w0⟩ [(b1,[.int .i64 p0.1,v1,v2])] [row v8 3 (Rp.int .i64) x13,Cq v4 27 Ez (Ao g_x8.1 x9 ((v6.1),0,[])),row v7 3 (Rp.int .i64) ([x10] : List Int),row v5 3 (Rp.int .i64) x7.1] w := hW
       obtain ⟨x14,h16,H⟩ := Ad H
       obtain ⟨v9,h17,h18⟩ := Dm (er := Fy) h14 h16
       refine ls hF hW rfl ((Ai (r := Ez.hr) Uv hF rfl rfl (Pq.hd (NK 1 rfl)) h17).q) (fun a w hF hW => ?_)
       have h19 : Value.oneCell' v8 = true := (hW.one (k := 0) rfl)
       have hW := hW.frontZ (i := 1) rfl rfl
       have hW := hW.frontZ (i := 1) rfl rfl
       have hW := hW.toR
       refine PB (D := Ez) (S := (Dp.sl 3 (Rp.int .i64))) (b := (v8,2,x13)) (i := x9) (j := 0) Foc.here hF hW rfl rfl rfl h17 Wi (Gd h19) rfl h19 rfl (fun w hW => ?_)
       have h20 : List.map Fy (Ao (Ao g_x8.1 x9 ((v6.1),0,[])) x9 (v8,2,x13)) = (Ao (Ao x8 x9 (0,[])) x9 (2,x13)) := (SJ h14 (congrArg (fun q : Nat × List Int => (2,x13)) h18))
       have hW : Stw ⟨Y,[],w0⟩ [(b1,[.int .i64 p0.1,v1,v2])] [Cq v4 27 Ez (Ao (Ao g_x8.1 x9 ((v6.1),0,[])) x9 (v8,2,x13)),row v7 3 (Rp.int .i64) ([x10] : List Int),row v5 3 (Rp.int .i64) x7.1] w := hW
       refine D1 ?_
       refine An ?_
       refine vn tk 4 hF hW fun a w hF hW => ?_
       refine Aa ?_
       have hW := hW.frontZ (i := 2) rfl rfl
       have hW := hW.frontZ (i := 1) rfl rfl
       have hW := hW.sub (M' := [(b1,[.int .i64 p0.1,v1,v2])]) (Z' := [Cq v4 27 Ez (Ao (Ao g_x8.1 x9 ((v6.1),0,[])) x9 (v8,2,x13)),row v5 3 (Rp.int .i64) x7.1]) (List.Sublist.refl _) (List.Sublist.cons_cons _ (List.Sublist.cons_cons _ (List.nil_sublist _)))
       exact ⟨_,H,⟨(Ao (Ao g_x8.1 x9 ((v6.1),0,[])) x9 (v8,2,x13)),h20⟩,hF.ra rfl,hW⟩
     ·
      refine AE ?_
      iterate 2 refine AQ ?_
      refine AF ?_
      refine An ?_
      refine Aa ?_
      have hW := hW.sub (M' := [(b1,[.int .i64 p0.1,v1,v2])]) (Z' := [Cq v4 27 Ez g_x8.1]) (List.Sublist.refl _) (List.Sublist.cons_cons _ (List.nil_sublist _))
      have H := L4 _ H
      exact ⟨_,⟨g_x8.1,g_x8.2⟩,H,hF.ra rfl,hW⟩
    rintro a w ⟨x6,g_x6,hj,hF,hW⟩
    have H := K3 _ hj
    clear hj G3 K3 L3
    refine vc tk 4 hF hW fun a w hF hW => ?_
    refine Aa ?_
    exact ⟨_,H,⟨g_x6.1,g_x6.2⟩,hF.ra rfl,hW⟩
   ·
    refine AE ?_
    iterate 2 refine AQ ?_
    refine AF ?_
    refine Aa ?_
    have H := L2 _ H
    exact ⟨_,⟨g_x4.1,g_x4.2⟩,H,hF.ra rfl,hW⟩
  rintro a w ⟨x3,g_x3,hj,hF,hW⟩
  have H := K1 _ hj
  clear hj G1 K1 L1
  refine vc tk 7 hF hW fun a w hF hW => ?_
  refine Ah ?_
  have H := Option.some.inj H
  subst H
  refine Dz (.inl rfl) hF hW rfl (Ag hF rfl) (Ag hF rfl) ?_
  have hW := hW.sub (M' := []) (Z' := [Cq v4 27 Ez g_x3.1]) (List.nil_sublist _) (List.Sublist.refl _)
  exact ⟨((v4),⟨g_x3.1,g_x3.2⟩),rfl,hW⟩
theorem Sa : type_of% Tryz.underlying32 := Tryz.underlying32
theorem fE : Has Tryz.prog 25 := Bj Tryz.func25
theorem e8 : (Tryz.prog.info? 39).bind (·.zero) = some (.slice none 0 0) := by kernel_rfl
theorem Sm : Et Tryz.prog 32 39 1 24 := Et.of Sa (by kernel_rfl) (by kernel_rfl) (by kernel_rfl) (by decide)
abbrev Zh (p : Value × List Int) : List Int := p.2
theorem JL : Ex (Rp.slice (Rp.int .i64)) (Rp.vsl (Rp.int .i64)) Zh := Ex.sliceF
abbrev bY (p : Value × List (Value × List Int)) : List (List Int) := (p.2.map Zh)
theorem F7 : Ex (Rp.slice (Rp.slice (Rp.int .i64))) (Rp.vsl (Rp.vsl (Rp.int .i64))) bY := (Ex.slice JL)
def CZ (p0 : (Int × (List (Int × Int × Int × Int × Int × Int)) × (List (Int × Int))) × List (List Int) × List Int × Int × Int × Int × Int × Int × Int) : (List (List (List Int)) × Int) → Option ((List (List (List Int)) × Int) ⊕ ((List (List (List Int))) ⊕ (List (List (List Int)) × Int)))
  | (x6,x7) => (if x7 < (p0.2.1.length : Int) then (ix p0.2.1 x7).bind fun x8 => (Hx x8).bind fun x9 => (C4 p0.1 x9).bind fun x10 => (if x10.2 ≠ 0 then some (.inr (.inr (([] : List (List (List Int))),2))) else (Hz Vs x10.1).bind fun x11 => (app x6 ([x11] : List (List (List Int)))).bind fun x12 => some (.inl (x12,w64 (x7 + 1)))) else some (.inr (.inl x6)))
def DT (p0 : (Int × (List (Int × Int × Int × Int × Int × Int)) × (List (Int × Int))) × List (List Int) × List Int × Int × Int × Int × Int × Int × Int) : Option (List (List (List Int)) × Int) := ((Eg p0.1).bind fun x2 => (if (!x2) = true then some true else (Ft p0.1).bind fun x3 => (if (!x3) = true then some true else (if (!(AM (p0.2.1.length : Int) 1 16)) = true then some true else (CR p0).bind fun x4 => some (!x4))))).bind fun x1 => (if x1 = true then some (([] : List (List (List Int))),2) else GU (Am (CZ p0) ([],0)) fun x5 => some (x5,0))
theorem O7 (Y : Nat → Prop) (w0 : World) (v1 : Value) (v2 : Value) (v3 : Value) (v4 : Value) (p0 : (Int × (List (Int × Int × Int × Int × Int × Int)) × (List (Int × Int))) × List (List Int) × List Int × Int × Int × Int × Int × Int × Int) (r : List (List (List Int)) × Int) (H : DT p0 = some r) (h_v1 : Sl w0 (NX []) B8 v1 p0.1.2.1) (h_v2 : Sl w0 (NX []) Cc v2 p0.1.2.2) (h_v3 : Sl w0 (NX []) (Rp.slice (Rp.int .u64)) v3 p0.2.1) (h_v4 : Sl w0 (NX []) (Rp.int .i64) v4 p0.2.2.1) :
    Calls Tryz.prog 6 #[.agg #[.int .i64 p0.1.1,v1,v2,v3,v4,.int .i64 p0.2.2.2.1,.int .i64 p0.2.2.2.2.1,.int .i64 p0.2.2.2.2.2.1,.int .i64 p0.2.2.2.2.2.2.1,.int .i64 p0.2.2.2.2.2.2.2.1,.int .i64 p0.2.2.2.2.2.2.2.2]] w0 fun e w' => ∃ x : Value,e = .returned (.tuple #[x,.int .i64 r.2]) ∧ Stw ⟨Y,[],w0⟩ [] [row (x) 39 (Rp.slice (Rp.slice (Rp.int .i64))) r.1] w' := by
 refine enter Tryz.func6 rfl Tryz.ntmps6 rfl (fun a hF => ?_)
 have hW := Stw.start Y w0
 obtain ⟨v5,h1,h_v3⟩ := h_v3.ex HW
 unfold DT at H
 refine vc tk 2 hF hW fun a w hF hW => ?_
 refine Cv (cs := [.int .i64 p0.1.1,v1,v2,v3,v4,.int .i64 p0.2.2.2.1,.int .i64 p0.2.2.2.2.1,.int .i64 p0.2.2.2.2.2.1,.int .i64 p0.2.2.2.2.2.2.1,.int .i64 p0.2.2.2.2.2.2.2.1,.int .i64 p0.2.2.2.2.2.2.2.2]) hF hW rfl rfl rfl (fun b1 a w hF hW => ?_)
 refine Bc tk 5 hF hW fun a w hF hW => ?_
 obtain ⟨o1,G1,K1⟩ := Ad H
 refine Aj (fun a w => ∃ x1 : Bool,some (x1) = some o1 ∧ Fr 54 [] [(1,.pointer (some ⟨b1,0,none⟩)),(2,.slice none 0 0),(3,.int .i64 0),(30,.bool x1)] a ∧ Stw ⟨Y,[],w0⟩ [(b1,[.int .i64 p0.1.1,v1,v2,v3,v4,.int .i64 p0.2.2.2.1,.int .i64 p0.2.2.2.2.1,.int .i64 p0.2.2.2.2.2.1,.int .i64 p0.2.2.2.2.2.2.1,.int .i64 p0.2.2.2.2.2.2.2.1,.int .i64 p0.2.2.2.2.2.2.2.2])] [] w) ?_ ?_
 ·
  have H := G1
  clear G1 K1
  refine D7 tk 3 [0] hF hW (ai fun a w hF hW => ?_)
  obtain ⟨x2,h2,H⟩ := Ad H
  refine ls hF hW rfl (Av (v := Value.bool x2) hF ZX rfl (fun w hW => Gw any w (v1) (v2) p0.1 _ h2 (D3 (Ab h_v1) hW) (D3 (Ab h_v2) hW))) (fun a w hF hW => ?_)
  refine vl tk 2 hF hW fun a w hF hW => ?_
  rcases bxq (!x2) with hb | hb
  ·
   have H := BP hb H
   rw [hb] at hF
   clear hb
   refine vl tk 18 hF hW fun a w hF hW => ?_
   refine Aa ?_
   exact ⟨_,H,hF.ra rfl,hW⟩
  ·
   have H := BQ (by rw [hb]; decide) H
   rw [hb] at hF
   clear hb
   refine Eb tk 2 [0] hF hW (ai fun a w hF hW => ?_)
   refine Fq (Ac hF rfl rfl rfl rfl) ?_
   obtain ⟨x3,h3,H⟩ := Ad H
   refine ls hF hW rfl (Av (v := Value.bool x3) hF f7 rfl (fun w hW => NR any w (v1) (v2) p0.1 _ h3 (D3 (Ab h_v1) hW) (D3 (Ab h_v2) hW))) (fun a w hF hW => ?_)
   refine vl tk 3 hF hW fun a w hF hW => ?_
   rcases bxq (!x3) with hb | hb
   ·
    have H := BP hb H
    rw [hb] at hF
    clear hb
    refine vl tk 12 hF hW fun a w hF hW => ?_
    refine Aa ?_
    exact ⟨_,H,hF.ra rfl,hW⟩
   ·
    have H := BQ (by rw [hb]; decide) H
    rw [hb] at hF
    clear hb
    refine Eb tk 2 [0] hF hW (ai fun a w hF hW => ?_)
    refine BC hF hW (Ac hF rfl rfl rfl rfl) rfl (ze rfl) ((AK (r := (Rp.slice (Rp.int .u64))) (l := p0.2.1) Pi rfl hF rfl (Ch HW h1 (Ab h_v3))).q) (fun a w hF hW => ?_)
    refine Fq (Ac hF rfl rfl rfl rfl) ?_
    refine ls hF hW rfl (Av (v := Value.bool (AM (p0.2.1.length : Int) 1 16)) hF VX rfl (fun w hW => CD any w (p0.2.1.length : Int) 1 16 _ rfl)) (fun a w hF hW => ?_)
    refine vl tk 3 hF hW fun a w hF hW => ?_
    rcases bxq (!(AM (p0.2.1.length : Int) 1 16)) with hb | hb
    ·
     have H := BP hb H
     rw [hb] at hF
     clear hb
     refine vl tk 5 hF hW fun a w hF hW => ?_
     refine Aa ?_
     exact ⟨_,H,hF.ra rfl,hW⟩
    ·
     have H := BQ (by rw [hb]; decide) H
     rw [hb] at hF
     clear hb
     refine BC hF hW (Ac hF rfl rfl rfl rfl) rfl (ze rfl) ((B5 (v := Value.agg #[.int .i64 p0.1.1,v1,v2,v3,v4,.int .i64 p0.2.2.2.1,.int .i64 p0.2.2.2.2.1,.int .i64 p0.2.2.2.2.2.1,.int .i64 p0.2.2.2.2.2.2.1,.int .i64 p0.2.2.2.2.2.2.2.1,.int .i64 p0.2.2.2.2.2.2.2.2]) 0 hF rfl rfl gK rfl).q) (fun a w hF hW => ?_)
     refine Fq (Ac hF rfl rfl rfl rfl) ?_
     obtain ⟨x4,h4,H⟩ := Ad H
     refine ls hF hW rfl (Av (v := Value.bool x4) hF iB rfl (fun w hW => Iv any w (v1) (v2) (v3) (v4) p0 _ h4 (D3 (Ab h_v1) hW) (D3 (Ab h_v2) hW) (D3 (Ch HW h1 (Ab h_v3)) hW) (D3 (Ab h_v4) hW))) (fun a w hF hW => ?_)
     refine vl tk 3 hF hW fun a w hF hW => ?_
     refine Aa ?_
     exact ⟨_,H,hF.ra rfl,hW⟩
 rintro a w ⟨x1,hj,hF,hW⟩
 have hj := Option.some.inj hj
 subst hj
 have H := K1
 clear G1 K1
 refine BA hF rfl H (fun hF H => ?_) (fun hF H => ?_)
 ·
  refine vc tk 6 hF hW fun a w hF hW => ?_
  refine Ah ?_
  refine Ak ?_
  have H := Option.some.inj H
  subst H
  refine Dz (.inl rfl) hF hW rfl (Ag hF rfl) (Ag hF rfl) ?_
  have hW := hW.nilRow 39 (Rp.slice (Rp.slice (Rp.int .i64)))
  have hW := hW.sub (M' := []) (Z' := [row (Value.slice none 0 0) 39 (Rp.slice (Rp.slice (Rp.int .i64))) ([])]) (List.nil_sublist _) (List.Sublist.refl _)
  exact ⟨(Value.slice none 0 0),rfl,hW⟩
 ·
  refine D2 tk 7 hF hW fun a w hF hW => ?_
  obtain ⟨o2,G2,K2,L2⟩ := KC H
  refine Aj (fun a w => ∃ x5 : List (List (List Int)), ∃ v6 : Value,some (Sum.inl x5) = some o2 ∧ Fr 54 [] [(2,.slice none 0 0),(3,.int .i64 0),(4,v6)] a ∧ Stw ⟨Y,[],w0⟩ [(b1,[.int .i64 p0.1.1,v1,v2,v3,v4,.int .i64 p0.2.2.2.1,.int .i64 p0.2.2.2.2.1,.int .i64 p0.2.2.2.2.2.1,.int .i64 p0.2.2.2.2.2.2.1,.int .i64 p0.2.2.2.2.2.2.2.1,.int .i64 p0.2.2.2.2.2.2.2.2])] [row v6 39 (Rp.slice (Rp.slice (Rp.int .i64))) x5] w) ?_ ?_
  ·
   have H := G2
   clear G2 K2
   refine D7 tk 4 [0] hF hW (ai fun a w hF hW => ?_)
   refine ls hF hW rfl ((AK (r := (Rp.slice (Rp.int .u64))) (l := p0.2.1) Pi rfl hF rfl (Ch HW h1 (Ab h_v3))).q) (fun a w hF hW => ?_)
   refine Bc tk 4 hF hW fun a w hF hW => ?_
   have hW := hW.nilRow 39 (Rp.slice (Rp.slice (Rp.int .i64)))
   refine AD H (fun s a w => ∃ v7 : Value,Fr 54 [] [(1,.pointer (some ⟨b1,0,none⟩)),(2,.slice none 0 0),(3,.int .i64 0),(4,v7),(32,v3),(33,.int .i64 (p0.2.1.length : Int)),(34,.int .i64 s.2)] a ∧ Stw ⟨Y,[],w0⟩ [(b1,[.int .i64 p0.1.1,v1,v2,v3,v4,.int .i64 p0.2.2.2.1,.int .i64 p0.2.2.2.2.1,.int .i64 p0.2.2.2.2.2.1,.int .i64 p0.2.2.2.2.2.2.1,.int .i64 p0.2.2.2.2.2.2.2.1,.int .i64 p0.2.2.2.2.2.2.2.2])] [row v7 39 (Rp.slice (Rp.slice (Rp.int .i64))) s.1] w) ⟨(Value.slice none 0 0),hF.ra rfl,hW⟩ (fun s o a w H L3 hR => ?_)
   obtain ⟨x6,x7⟩ := s
   obtain ⟨v7,hF,hW⟩ := hR
   have hF : Fr 54 [] [(1,.pointer (some ⟨b1,0,none⟩)),(2,.slice none 0 0),(3,.int .i64 0),(4,v7),(32,v3),(33,.int .i64 (p0.2.1.length : Int)),(34,.int .i64 x7)] a := hF
   have hW : Stw ⟨Y,[],w0⟩ [(b1,[.int .i64 p0.1.1,v1,v2,v3,v4,.int .i64 p0.2.2.2.1,.int .i64 p0.2.2.2.2.1,.int .i64 p0.2.2.2.2.2.1,.int .i64 p0.2.2.2.2.2.2.1,.int .i64 p0.2.2.2.2.2.2.2.1,.int .i64 p0.2.2.2.2.2.2.2.2])] [row v7 39 (Rp.slice (Rp.slice (Rp.int .i64))) x6] w := hW
   rw [CZ] at H
   refine vc tk 6 hF hW fun a w hF hW => ?_
   refine AG hF rfl H (fun hF H => ?_) (fun hF H => ?_)
   ·
    refine D2 tk 5 hF hW fun a w hF hW => ?_
    obtain ⟨v8,h5,hW⟩ := hW.exR F7
    refine F4 ?_
    obtain ⟨x8,h6,H⟩ := Ad H
    obtain ⟨v9,h7,h8⟩ := Dm h1 h6
    have h9 : Qc v9 = [(v9.1)] := congrArg (fun q : List Int => ([(v9.1)] : List Value)) h8
    refine ls hF hW rfl ((Ai (r := (Rp.vsl (Rp.int .u64))) cN hF rfl rfl (Ab h_v3) h7).q) (fun a w hF hW => ?_)
    refine ls hF hW rfl ((Af (y := (v9.1)) (j := 0) (i := x7) (enc := Qc) hF rfl rfl (Ab h_v3) h7 Wh dC (by rw [h9]; rfl)).q) (fun a w hF hW => ?_)
    refine Bc tk 4 hF hW fun a w hF hW => ?_
    refine Gp [(true,0),(true,1),(true,2),(false,3),(false,4),(true,5),(true,6),(true,7),(false,8),(false,9)] (CN ⟨Y,[],w0⟩ [(some 4,b1,[.int .i64 p0.1.1,v1,v2,v3,v4,.int .i64 p0.2.2.2.1,.int .i64 p0.2.2.2.2.1,.int .i64 p0.2.2.2.2.2.1,.int .i64 p0.2.2.2.2.2.2.1,.int .i64 p0.2.2.2.2.2.2.2.1,.int .i64 p0.2.2.2.2.2.2.2.2])] []) (fun ch a d v w h => by cases d <;> exact h) MO (by kernel_rfl) hW (fun w hW => ⟨_,_,hW,(all_cons (fun _ => (.head _)) As),As⟩) (fun w hW => ?_)
    refine Cp (R := []) hF rfl rfl (yC fun M Z hN hZ => Au W8 rfl rfl rfl Ww hF rfl 0 rfl) rfl rfl (fun a hF => ?_)
    refine Cp (R := [4]) hF rfl rfl (yC fun M Z hN hZ => Gh (cs := [.int .i64 p0.1.1,v1,v2,v3,v4,.int .i64 p0.2.2.2.1,.int .i64 p0.2.2.2.2.1,.int .i64 p0.2.2.2.2.2.1,.int .i64 p0.2.2.2.2.2.2.1,.int .i64 p0.2.2.2.2.2.2.2.1,.int .i64 p0.2.2.2.2.2.2.2.2]) (v := Value.agg #[.int .i64 p0.1.1,v1,v2]) hF rfl (hN ((some 4),b1,[.int .i64 p0.1.1,v1,v2,v3,v4,.int .i64 p0.2.2.2.1,.int .i64 p0.2.2.2.2.1,.int .i64 p0.2.2.2.2.2.1,.int .i64 p0.2.2.2.2.2.2.1,.int .i64 p0.2.2.2.2.2.2.2.1,.int .i64 p0.2.2.2.2.2.2.2.2]) (.head _) rfl) Ww rfl) (by kernel_rfl) rfl (fun a hF => ?_)
    refine Cp (R := []) hF rfl rfl (yC fun M Z hN hZ => Al hF rfl) rfl rfl (fun a hF => ?_)
    refine HD rfl ?_
    obtain ⟨x9,h10,H⟩ := Ad H
    refine A9 (Ml := []) (Zl := []) (β := Value) (rv := fun x => x) (MM := fun x => []) (ZZ := fun x => [row x 147 (Rp.flt .f64) x9]) hF hW iJ rfl rfl (fun hL => PA _ w ((v9.1)) x8 _ h10 ((BL (Ab h_v3) h7 AN.here (congrArg (fun q : List Int => q) h8)) w hW).nx) (fun x a w hF hW => ?_)
    obtain ⟨v10,rfl⟩ : ∃ y,y = x := ⟨x,rfl⟩
    have hW : Stw ⟨Y,[],w0⟩ [(b1,[.int .i64 p0.1.1,v1,v2,v3,v4,.int .i64 p0.2.2.2.1,.int .i64 p0.2.2.2.2.1,.int .i64 p0.2.2.2.2.2.1,.int .i64 p0.2.2.2.2.2.2.1,.int .i64 p0.2.2.2.2.2.2.2.1,.int .i64 p0.2.2.2.2.2.2.2.2])] [row v10 147 (Rp.flt .f64) x9,row v7 39 (Rp.vsl (Rp.vsl (Rp.int .i64))) v8] w := hW
    refine CC (N2 := []) (NZ2 := []) (N3 := [(some 4,b1,[.int .i64 p0.1.1,v1,v2,v3,v4,.int .i64 p0.2.2.2.1,.int .i64 p0.2.2.2.2.1,.int .i64 p0.2.2.2.2.2.1,.int .i64 p0.2.2.2.2.2.2.1,.int .i64 p0.2.2.2.2.2.2.2.1,.int .i64 p0.2.2.2.2.2.2.2.2])]) (NZ3 := []) hW rfl rfl (all_cons (fun _ => (.head _)) As) As ?_
    refine HD rfl ?_
    obtain ⟨x10,h11,H⟩ := Ad H
    refine A9 (Ml := []) (Zl := []) (β := Value × ({x : List (Value × Nat × List Int) // x.map Fy = x10.1})) (rv := fun x => .tuple #[x.1,.int .i64 x10.2]) (MM := fun x => []) (ZZ := fun x => [Cq x.1 27 Ez x.2.1]) hF hW fE rfl rfl (fun hL => KU _ w (v1) (v2) (v10) p0.1 x9 _ h11 ((Ab h_v1) w hW).nx ((Ab h_v2) w hW).nx ((Ae 0 rfl) w hW).nx) (fun x a w hF hW => ?_)
    obtain ⟨v11,v12⟩ := x
    have hW : Stw ⟨Y,[],w0⟩ [(b1,[.int .i64 p0.1.1,v1,v2,v3,v4,.int .i64 p0.2.2.2.1,.int .i64 p0.2.2.2.2.1,.int .i64 p0.2.2.2.2.2.1,.int .i64 p0.2.2.2.2.2.2.1,.int .i64 p0.2.2.2.2.2.2.2.1,.int .i64 p0.2.2.2.2.2.2.2.2])] [Cq v11 27 Ez v12.1,row v10 147 (Rp.flt .f64) x9,row v7 39 (Rp.vsl (Rp.vsl (Rp.int .i64))) v8] w := hW
    refine CC (N2 := []) (NZ2 := []) (N3 := [(some 4,b1,[.int .i64 p0.1.1,v1,v2,v3,v4,.int .i64 p0.2.2.2.1,.int .i64 p0.2.2.2.2.1,.int .i64 p0.2.2.2.2.2.1,.int .i64 p0.2.2.2.2.2.2.1,.int .i64 p0.2.2.2.2.2.2.2.1,.int .i64 p0.2.2.2.2.2.2.2.2])]) (NZ3 := []) hW rfl rfl (all_cons (fun h => Bl (by kernel_rfl) h) As) As ?_
    refine Cp (R := []) hF rfl rfl (yC fun M Z hN hZ => Al hF rfl) rfl rfl (fun a hF => ?_)
    refine Cp (R := []) hF rfl rfl (yC fun M Z hN hZ => A4 (v := v11) hF rfl rfl) rfl rfl (fun a hF => ?_)
    refine Cp (R := []) hF rfl rfl (yC fun M Z hN hZ => A4 (v := Value.int .i64 x10.2) hF rfl rfl) rfl rfl (fun a hF => ?_)
    refine HD rfl ?_
    refine ls hF hW rfl ((BB hF rfl).q) (fun a w hF hW => ?_)
    refine CC (N2 := []) (NZ2 := []) (N3 := [(some 4,b1,[.int .i64 p0.1.1,v1,v2,v3,v4,.int .i64 p0.2.2.2.1,.int .i64 p0.2.2.2.2.1,.int .i64 p0.2.2.2.2.2.1,.int .i64 p0.2.2.2.2.2.2.1,.int .i64 p0.2.2.2.2.2.2.2.1,.int .i64 p0.2.2.2.2.2.2.2.2])]) (NZ3 := []) hW rfl rfl (all_cons (fun h => Bl (by kernel_rfl) h) As) As ?_
    refine HD rfl ?_
    refine ls hF hW rfl ((BB hF rfl).q) (fun a w hF hW => ?_)
    refine CC (N2 := []) (NZ2 := []) (N3 := [(some 4,b1,[.int .i64 p0.1.1,v1,v2,v3,v4,.int .i64 p0.2.2.2.1,.int .i64 p0.2.2.2.2.1,.int .i64 p0.2.2.2.2.2.1,.int .i64 p0.2.2.2.2.2.2.1,.int .i64 p0.2.2.2.2.2.2.2.1,.int .i64 p0.2.2.2.2.2.2.2.2])]) (NZ3 := []) hW rfl rfl (all_cons (fun h => Bl (by kernel_rfl) h) As) As ?_
    refine JE ?_
    refine vn tk 7 hF hW fun a w hF hW => ?_
    refine AG hF rfl H (fun hF H => ?_) (fun hF H => ?_)
    ·
     refine vc tk 6 hF hW fun a w hF hW => ?_
     refine Ah ?_
     refine Ak ?_
     refine Az ?_
     iterate 2 refine Ak ?_
     refine Az ?_
     refine Ak ?_
     have H := L3 _ H
     have H := L2 _ H
     have H := Option.some.inj H
     subst H
     refine Dz (.inl rfl) hF hW rfl (Ag hF rfl) (Ag hF rfl) ?_
     have hW := hW.nilRow 39 (Rp.slice (Rp.slice (Rp.int .i64)))
     have hW := hW.sub (M' := []) (Z' := [row (Value.slice none 0 0) 39 (Rp.slice (Rp.slice (Rp.int .i64))) ([])]) (List.nil_sublist _) (List.Sublist.cons_cons _ (List.nil_sublist _))
     exact ⟨(Value.slice none 0 0),rfl,hW⟩
    ·
     refine D2 tk 5 hF hW fun a w hF hW => ?_
     obtain ⟨x11,h12,H⟩ := Ad H
     have hW := Stw.ddRest bE v12.2 h12 hW
     have hW := hW.freeze
     refine CK (z := Value.slice none 0 0) (cs := [v11]) (Rp.slice (Rp.slice (Rp.int .i64))) ([x11] : List (List (List Int))) hF hW rfl Sm e8 rfl rfl rfl (Jz rfl (Gd (hW.oneF (k := 0) rfl)) rfl Lx) rfl rfl ⟨[v11],_,rfl,⟨_,rfl,(hW.item (i := 0) rfl)⟩,rfl⟩ (fun v13 a w hF hW => ?_)
     have hW := hW.frontZ (i := 3) rfl rfl
     have hW := hW.hideR F7 h5
     obtain ⟨x12,h13,H⟩ := Ad H
     refine BF (r := (Rp.slice (Rp.slice (Rp.int .i64)))) (i := 0) hF hW rfl Sm rfl rfl rfl rfl (BU hW 1 rfl) h13 rfl (fun v14 a w hF hW => ?_)
     have hW : Stw ⟨Y,[],w0⟩ [(b1,[.int .i64 p0.1.1,v1,v2,v3,v4,.int .i64 p0.2.2.2.1,.int .i64 p0.2.2.2.2.1,.int .i64 p0.2.2.2.2.2.1,.int .i64 p0.2.2.2.2.2.2.1,.int .i64 p0.2.2.2.2.2.2.2.1,.int .i64 p0.2.2.2.2.2.2.2.2])] [row v14 39 (Rp.slice (Rp.slice (Rp.int .i64))) x12,row v13 39 (Rp.slice (Rp.slice (Rp.int .i64))) ([x11] : List (List (List Int))),KB v11 (Rp.slice (Rp.int .i64)) x11,row v10 147 (Rp.flt .f64) x9] w := hW
     refine vl tk 2 hF hW fun a w hF hW => ?_
     refine An ?_
     refine vn tk 4 hF hW fun a w hF hW => ?_
     refine Aa ?_
     have hW := hW.sub (M' := [(b1,[.int .i64 p0.1.1,v1,v2,v3,v4,.int .i64 p0.2.2.2.1,.int .i64 p0.2.2.2.2.1,.int .i64 p0.2.2.2.2.2.1,.int .i64 p0.2.2.2.2.2.2.1,.int .i64 p0.2.2.2.2.2.2.2.1,.int .i64 p0.2.2.2.2.2.2.2.2])]) (Z' := [row v14 39 (Rp.slice (Rp.slice (Rp.int .i64))) x12]) (List.Sublist.refl _) (List.Sublist.cons_cons _ (List.nil_sublist _))
     exact ⟨_,H,(v14),hF.ra rfl,hW⟩
   ·
    refine AE ?_
    iterate 2 refine AQ ?_
    refine AF ?_
    refine Aa ?_
    have H := L3 _ H
    exact ⟨_,(v7),H,hF.ra rfl,hW⟩
  rintro a w ⟨x5,v6,hj,hF,hW⟩
  have H := K2 _ hj
  clear hj G2 K2 L2
  refine vc tk 7 hF hW fun a w hF hW => ?_
  refine Ah ?_
  have H := Option.some.inj H
  subst H
  refine Dz (.inl rfl) hF hW rfl (Ag hF rfl) (Ag hF rfl) ?_
  have hW := hW.sub (M' := []) (Z' := [row v6 39 (Rp.slice (Rp.slice (Rp.int .i64))) x5]) (List.nil_sublist _) (List.Sublist.refl _)
  exact ⟨(v6),rfl,hW⟩
end
end Go.Proofs.YtbiekjhlijdjbaaGreat
