/- The functions of CtlCheck, Hu. Conditions: none. -/
import Derived.Test.YtbiekjhlijdjbaaGreatbA3
set_option linter.unusedVariables false
set_option linter.unusedSimpArgs false
open Go Go.RowKit
namespace Go.Proofs.YtbiekjhlijdjbaaGreat
noncomputable section
set_option maxRecDepth 20000
set_option maxHeartbeats 1600000
theorem Yz : Has Tryz.prog 107 := Bj Tryz.func107
def DU (x1 : List Int) : (List Int × Int) → Option ((List Int × Int) ⊕ (List Int))
  | (x3,x4) => (if x4 < (x1.length : Int) then (app x3 ([(-1)] : List Int)).bind fun x5 => some (.inl (x5,w64 (x4 + 1))) else some (.inr x3))
def CV (p1 : List Int) (x1 : List Int) (x10 : Int) (x13 : Int) (x15 : (List (Int × Int × Int))) : (List Int × Int) → Option ((List Int × Int) ⊕ (List Int))
  | (x16,x17) => (if x17 < (x15.length : Int) then (((ix x16 x13).bind fun x20 => (if x20 = (-1) then (ix x15 x17).bind fun x21 => (ix x16 x21.2.1).bind fun x22 => (if x22 = (w64 (x10 - 1)) then (ix x15 x17).bind fun x23 => (FZ p1 x1 x13 x23).bind fun x24 => some x24 else some false) else some false)).bind fun x19 => (if x19 = true then (ix x16 x13).bind fun x25 => some (Ao x16 x13 x10) else some x16)).bind fun x18 => some (.inl (x18,w64 (x17 + 1))) else some (.inr x16))
def C1 (p0 : Int × (List (Int × Int × Int × Int × Int × Int)) × (List (Int × Int))) (p1 : List Int) (x1 : List Int) (x10 : Int) : (List Int × Int) → Option ((List Int × Int) ⊕ (List Int))
  | (x12,x13) => (if x13 < (x1.length : Int) then ((E6 p0 x13).bind fun x15 => Am (CV p1 x1 x10 x13 x15) (x12,0)).bind fun x14 => some (.inl (x14,w64 (x13 + 1))) else some (.inr x12))
def DX (p0 : Int × (List (Int × Int × Int × Int × Int × Int)) × (List (Int × Int))) (p1 : List Int) (x1 : List Int) : (List Int × Int) → Option ((List Int × Int) ⊕ (List Int))
  | (x9,x10) => (if x10 < (x1.length : Int) then (Am (C1 p0 p1 x1 x10) (x9,0)).bind fun x11 => some (.inl (x11,w64 (x10 + 1))) else some (.inr x9))
def Fh (p0 : Int × (List (Int × Int × Int × Int × Int × Int)) × (List (Int × Int))) (p1 : List Int) (p2 : Int) : Option (List Int) := (Ey p0 p1 p2).bind fun x1 => (Am (DU x1) ([],0)).bind fun x2 => (if 0 < (x1.length : Int) then (ix x2 p2).bind fun x7 => some (Ao x2 p2 0) else some x2).bind fun x6 => (Am (DX p0 p1 x1) (x6,1)).bind fun x8 => some x8
theorem Oz (Y : Nat → Prop) (w0 : World) (v1 : Value) (v2 : Value) (v3 : Value) (p0 : Int × (List (Int × Int × Int × Int × Int × Int)) × (List (Int × Int))) (p1 : List Int) (p2 : Int) (r : List Int) (H : Fh p0 p1 p2 = some r) (h_v1 : Sl w0 (NX []) B8 v1 p0.2.1) (h_v2 : Sl w0 (NX []) Cc v2 p0.2.2) (h_v3 : Sl w0 (NX []) (Rp.int .u64) v3 p1) :
    Calls Tryz.prog 105 #[.agg #[.int .i64 p0.1,v1,v2],v3,.int .i64 p2] w0 fun e w' => ∃ x : Value,e = .returned (x) ∧ Stw ⟨Y,[],w0⟩ [] [row (x) 3 (Rp.int .i64) r] w' := by
 refine enter Tryz.func105 rfl Tryz.ntmps105 rfl (fun a hF => ?_)
 have hW := Stw.start Y w0
 unfold Fh at H
 refine vc tk 2 hF hW fun a w hF hW => ?_
 refine Cv (cs := [.int .i64 p0.1,v1,v2]) hF hW rfl rfl rfl (fun b1 a w hF hW => ?_)
 refine E9 tk 8 [0] hF hW (ai fun a w hF hW => ?_)
 obtain ⟨x1,h1,H⟩ := Ad H
 refine A9 (Ml := []) (Zl := []) (β := Value) (rv := fun x => x) (MM := fun x => []) (ZZ := fun x => [row x 131 (Rp.int .u64) x1]) hF hW X8 rfl rfl (fun hL => JP _ w (v1) (v2) (v3) p0 p1 p2 _ h1 ((Ab h_v1) w hW).nx ((Ab h_v2) w hW).nx ((Ab h_v3) w hW).nx) (fun x a w hF hW => ?_)
 obtain ⟨v4,rfl⟩ : ∃ y,y = x := ⟨x,rfl⟩
 have hW : Stw ⟨Y,[],w0⟩ [(b1,[.int .i64 p0.1,v1,v2])] [row v4 131 (Rp.int .u64) x1] w := hW
 refine Bc tk 8 hF hW fun a w hF hW => ?_
 obtain ⟨o1,G1,K1⟩ := Ad H
 refine Aj (fun a w => ∃ x2 : List Int, ∃ v5 : Value,some (x2) = some o1 ∧ Fr 87 [] [(1,v3),(2,.int .i64 p2),(3,.pointer (some ⟨b1,0,none⟩)),(6,.slice none 0 0),(7,v4),(8,v5)] a ∧ Stw ⟨Y,[],w0⟩ [(b1,[.int .i64 p0.1,v1,v2])] [row v4 131 (Rp.int .u64) x1,row v5 3 (Rp.int .i64) x2] w) ?_ ?_
 ·
  have H := G1
  clear G1 K1
  refine vc tk 6 hF hW fun a w hF hW => ?_
  have hW := hW.nilRow 3 (Rp.int .i64)
  have hW := hW.frontZ (i := 1) rfl rfl
  refine AD H (fun s a w => ∃ v6 : Value,Fr 87 [] [(1,v3),(2,.int .i64 p2),(3,.pointer (some ⟨b1,0,none⟩)),(6,.slice none 0 0),(7,v4),(8,v6),(9,.int .i64 s.2)] a ∧ Stw ⟨Y,[],w0⟩ [(b1,[.int .i64 p0.1,v1,v2])] [row v4 131 (Rp.int .u64) x1,row v6 3 (Rp.int .i64) s.1] w) ⟨(Value.slice none 0 0),hF.ra rfl,hW⟩ (fun s o a w H L2 hR => ?_)
  obtain ⟨x3,x4⟩ := s
  obtain ⟨v6,hF,hW⟩ := hR
  have hF : Fr 87 [] [(1,v3),(2,.int .i64 p2),(3,.pointer (some ⟨b1,0,none⟩)),(6,.slice none 0 0),(7,v4),(8,v6),(9,.int .i64 x4)] a := hF
  have hW : Stw ⟨Y,[],w0⟩ [(b1,[.int .i64 p0.1,v1,v2])] [row v4 131 (Rp.int .u64) x1,row v6 3 (Rp.int .i64) x3] w := hW
  rw [DU] at H
  refine vc tk 5 hF hW fun a w hF hW => ?_
  refine ls hF hW rfl ((AK (r := (Rp.int .u64)) (l := x1) Mq rfl hF rfl (Ae 0 rfl)).q) (fun a w hF hW => ?_)
  refine Bc tk 3 hF hW fun a w hF hW => ?_
  refine AG hF rfl H (fun hF H => ?_) (fun hF H => ?_)
  ·
   refine D2 tk 6 hF hW fun a w hF hW => ?_
   refine CK (z := Value.int .i64 0) (cs := [.int .i64 (-1)]) (Rp.int .i64) ([(-1)] : List Int) hF hW rfl Do Z3 rfl rfl rfl rfl rfl rfl (Fl.int.repL _ _ ([(-1)] : List Int)) (fun v7 a w hF hW => ?_)
   obtain ⟨x5,h2,H⟩ := Ad H
   refine BF (r := (Rp.int .i64)) (i := 2) hF hW rfl Do rfl rfl rfl rfl (BU hW 0 rfl) h2 rfl (fun v8 a w hF hW => ?_)
   have hW : Stw ⟨Y,[],w0⟩ [(b1,[.int .i64 p0.1,v1,v2])] [row v8 3 (Rp.int .i64) x5,row v7 3 (Rp.int .i64) ([(-1)] : List Int),row v4 131 (Rp.int .u64) x1] w := hW
   refine vl tk 2 hF hW fun a w hF hW => ?_
   refine An ?_
   refine vn tk 5 hF hW fun a w hF hW => ?_
   refine Aa ?_
   have hW := hW.frontZ (i := 2) rfl rfl
   have hW := hW.sub (M' := [(b1,[.int .i64 p0.1,v1,v2])]) (Z' := [row v4 131 (Rp.int .u64) x1,row v8 3 (Rp.int .i64) x5]) (List.Sublist.refl _) (List.Sublist.cons_cons _ (List.Sublist.cons_cons _ (List.nil_sublist _)))
   exact ⟨_,H,(v8),hF.ra rfl,hW⟩
  ·
   refine AE ?_
   iterate 2 refine AQ ?_
   refine AF ?_
   refine Aa ?_
   have hW := hW.frontZ (i := 1) rfl rfl
   have hW := hW.frontZ (i := 1) rfl rfl
   have H := L2 _ H
   exact ⟨_,(v6),H,hF.ra rfl,hW⟩
 rintro a w ⟨x2,v5,hj,hF,hW⟩
 have hj := Option.some.inj hj
 subst hj
 have H := K1
 clear G1 K1
 obtain ⟨o3,G3,K3⟩ := Ad H
 refine Aj (fun a w => ∃ x6 : List Int,some (x6) = some o3 ∧ Fr 87 [] [(1,v3),(3,.pointer (some ⟨b1,0,none⟩)),(6,.slice none 0 0),(7,v4),(8,v5)] a ∧ Stw ⟨Y,[],w0⟩ [(b1,[.int .i64 p0.1,v1,v2])] [row v4 131 (Rp.int .u64) x1,row v5 3 (Rp.int .i64) x6] w) ?_ ?_
 ·
  have H := G3
  clear G3 K3
  refine vc tk 3 hF hW fun a w hF hW => ?_
  refine ls hF hW rfl ((AK (r := (Rp.int .u64)) (l := x1) Mq rfl hF rfl (Ae 0 rfl)).q) (fun a w hF hW => ?_)
  refine Bc tk 3 hF hW fun a w hF hW => ?_
  refine AG hF rfl H (fun hF H => ?_) (fun hF H => ?_)
  ·
   refine vc tk 3 hF hW fun a w hF hW => ?_
   obtain ⟨x7,h3,H⟩ := Ad H
   refine ls hF hW rfl ((Ai (r := (Rp.int .i64)) Do hF rfl rfl (Ae 1 rfl) h3).q) (fun a w hF hW => ?_)
   refine BE (i := p2) (j := 0) (vs := [.int .i64 0]) (x' := 0) hF hW rfl rfl rfl (k := 1) rfl rfl h3 T3 rfl rfl rfl rfl (fun A cs _ => Fl.int.sto (by rfl) _ _ _) (fun w hW => ?_)
   refine D1 (Aa ?_)
   have hW := hW.frontZ (i := 1) rfl rfl
   exact ⟨_,H,hF.ra rfl,hW⟩
  ·
   refine Ay ?_
   refine Aa ?_
   have hW := hW.frontZ (i := 1) rfl rfl
   have hW := hW.frontZ (i := 1) rfl rfl
   exact ⟨_,H,hF.ra rfl,hW⟩
 rintro a w ⟨x6,hj,hF,hW⟩
 have hj := Option.some.inj hj
 subst hj
 have H := K3
 clear G3 K3
 obtain ⟨o4,G4,K4⟩ := Ad H
 refine Aj (fun a w => ∃ x8 : List Int,some (x8) = some o4 ∧ Fr 87 [] [(6,.slice none 0 0),(8,v5)] a ∧ Stw ⟨Y,[],w0⟩ [(b1,[.int .i64 p0.1,v1,v2])] [row v5 3 (Rp.int .i64) x8] w) ?_ ?_
 ·
  have H := G4
  clear G4 K4
  refine vc tk 6 hF hW fun a w hF hW => ?_
  have hW := hW.frontZ (i := 1) rfl rfl
  have hW := hW.frontZ (i := 1) rfl rfl
  refine AD H (fun s a w => Fr 87 [] [(1,v3),(3,.pointer (some ⟨b1,0,none⟩)),(6,.slice none 0 0),(7,v4),(8,v5),(10,.int .i64 s.2)] a ∧ Stw ⟨Y,[],w0⟩ [(b1,[.int .i64 p0.1,v1,v2])] [row v4 131 (Rp.int .u64) x1,row v5 3 (Rp.int .i64) s.1] w) ⟨hF.ra rfl,hW⟩ (fun s o a w H L5 hR => ?_)
  obtain ⟨x9,x10⟩ := s
  obtain ⟨hF,hW⟩ := hR
  have hF : Fr 87 [] [(1,v3),(3,.pointer (some ⟨b1,0,none⟩)),(6,.slice none 0 0),(7,v4),(8,v5),(10,.int .i64 x10)] a := hF
  have hW : Stw ⟨Y,[],w0⟩ [(b1,[.int .i64 p0.1,v1,v2])] [row v4 131 (Rp.int .u64) x1,row v5 3 (Rp.int .i64) x9] w := hW
  rw [DX] at H
  refine vc tk 5 hF hW fun a w hF hW => ?_
  refine ls hF hW rfl ((AK (r := (Rp.int .u64)) (l := x1) Mq rfl hF rfl (Ae 0 rfl)).q) (fun a w hF hW => ?_)
  refine Bc tk 3 hF hW fun a w hF hW => ?_
  refine AG hF rfl H (fun hF H => ?_) (fun hF H => ?_)
  ·
   refine Ay ?_
   refine Aa ?_
   obtain ⟨o6,G6,K6⟩ := Ad H
   refine Aj (fun a w => ∃ x11 : List Int,some (x11) = some o6 ∧ Fr 87 [] [(1,v3),(3,.pointer (some ⟨b1,0,none⟩)),(6,.slice none 0 0),(7,v4),(8,v5),(10,.int .i64 x10)] a ∧ Stw ⟨Y,[],w0⟩ [(b1,[.int .i64 p0.1,v1,v2])] [row v4 131 (Rp.int .u64) x1,row v5 3 (Rp.int .i64) x11] w) ?_ ?_
   ·
    have H := G6
    clear G6 K6
    refine vc tk 7 hF hW fun a w hF hW => ?_
    have hW := hW.frontZ (i := 1) rfl rfl
    have hW := hW.frontZ (i := 1) rfl rfl
    refine AD H (fun s a w => Fr 87 [] [(1,v3),(3,.pointer (some ⟨b1,0,none⟩)),(6,.slice none 0 0),(7,v4),(8,v5),(10,.int .i64 x10),(11,.int .i64 s.2)] a ∧ Stw ⟨Y,[],w0⟩ [(b1,[.int .i64 p0.1,v1,v2])] [row v4 131 (Rp.int .u64) x1,row v5 3 (Rp.int .i64) s.1] w) ⟨hF.ra rfl,hW⟩ (fun s o a w H L7 hR => ?_)
    obtain ⟨x12,x13⟩ := s
    obtain ⟨hF,hW⟩ := hR
    have hF : Fr 87 [] [(1,v3),(3,.pointer (some ⟨b1,0,none⟩)),(6,.slice none 0 0),(7,v4),(8,v5),(10,.int .i64 x10),(11,.int .i64 x13)] a := hF
    have hW : Stw ⟨Y,[],w0⟩ [(b1,[.int .i64 p0.1,v1,v2])] [row v4 131 (Rp.int .u64) x1,row v5 3 (Rp.int .i64) x12] w := hW
    rw [C1] at H
    refine vc tk 5 hF hW fun a w hF hW => ?_
    refine ls hF hW rfl ((AK (r := (Rp.int .u64)) (l := x1) Mq rfl hF rfl (Ae 0 rfl)).q) (fun a w hF hW => ?_)
    refine Bc tk 3 hF hW fun a w hF hW => ?_
    refine AG hF rfl H (fun hF H => ?_) (fun hF H => ?_)
    ·
     refine Ay ?_
     refine Aa ?_
     obtain ⟨o8,G8,K8⟩ := Ad H
     refine Aj (fun a w => ∃ x14 : List Int,some (x14) = some o8 ∧ Fr 87 [] [(1,v3),(3,.pointer (some ⟨b1,0,none⟩)),(6,.slice none 0 0),(7,v4),(8,v5),(10,.int .i64 x10),(11,.int .i64 x13)] a ∧ Stw ⟨Y,[],w0⟩ [(b1,[.int .i64 p0.1,v1,v2])] [row v4 131 (Rp.int .u64) x1,row v5 3 (Rp.int .i64) x14] w) ?_ ?_
     ·
      have H := G8
      clear G8 K8
      refine D7 tk 5 [0] hF hW (ai fun a w hF hW => ?_)
      obtain ⟨x15,h4,H⟩ := Ad H
      refine A9 (Ml := []) (Zl := []) (β := Value) (rv := fun x => x) (MM := fun x => []) (ZZ := fun x => [row x 200 CT x15]) hF hW Xd rfl rfl (fun hL => IE _ w (v1) (v2) p0 x13 _ h4 ((Ab h_v1) w hW).nx ((Ab h_v2) w hW).nx) (fun x a w hF hW => ?_)
      obtain ⟨v9,rfl⟩ : ∃ y,y = x := ⟨x,rfl⟩
      have hW : Stw ⟨Y,[],w0⟩ [(b1,[.int .i64 p0.1,v1,v2])] [row v9 200 CT x15,row v4 131 (Rp.int .u64) x1,row v5 3 (Rp.int .i64) x12] w := hW
      refine Bc tk 9 hF hW fun a w hF hW => ?_
      have hW := hW.frontZ (i := 2) rfl rfl
      have hW := hW.frontZ (i := 2) rfl rfl
      refine AD H (fun s a w => Fr 87 [] [(1,v3),(3,.pointer (some ⟨b1,0,none⟩)),(6,.slice none 0 0),(7,v4),(8,v5),(10,.int .i64 x10),(11,.int .i64 x13),(12,v9),(13,.int .i64 s.2)] a ∧ Stw ⟨Y,[],w0⟩ [(b1,[.int .i64 p0.1,v1,v2])] [row v4 131 (Rp.int .u64) x1,row v5 3 (Rp.int .i64) s.1,row v9 200 CT x15] w) ⟨hF.ra rfl,hW⟩ (fun s o a w H L9 hR => ?_)
      obtain ⟨x16,x17⟩ := s
      obtain ⟨hF,hW⟩ := hR
      have hF : Fr 87 [] [(1,v3),(3,.pointer (some ⟨b1,0,none⟩)),(6,.slice none 0 0),(7,v4),(8,v5),(10,.int .i64 x10),(11,.int .i64 x13),(12,v9),(13,.int .i64 x17)] a := hF
      have hW : Stw ⟨Y,[],w0⟩ [(b1,[.int .i64 p0.1,v1,v2])] [row v4 131 (Rp.int .u64) x1,row v5 3 (Rp.int .i64) x16,row v9 200 CT x15] w := hW
      rw [CV] at H
      refine vc tk 5 hF hW fun a w hF hW => ?_
      refine ls hF hW rfl ((AK (r := CT) (l := x15) QP rfl hF rfl (Ae 2 rfl)).q) (fun a w hF hW => ?_)
      refine Bc tk 3 hF hW fun a w hF hW => ?_
      refine AG hF rfl H (fun hF H => ?_) (fun hF H => ?_)
      ·
       refine Ay ?_
       refine Aa ?_
       obtain ⟨o10,G10,K10⟩ := Ad H
       refine Aj (fun a w => ∃ x18 : List Int,some (x18) = some o10 ∧ Fr 87 [] [(1,v3),(3,.pointer (some ⟨b1,0,none⟩)),(6,.slice none 0 0),(7,v4),(8,v5),(10,.int .i64 x10),(11,.int .i64 x13),(12,v9),(13,.int .i64 x17)] a ∧ Stw ⟨Y,[],w0⟩ [(b1,[.int .i64 p0.1,v1,v2])] [row v4 131 (Rp.int .u64) x1,row v5 3 (Rp.int .i64) x18,row v9 200 CT x15] w) ?_ ?_
       ·
        have H := G10
        clear G10 K10
        refine EI ?_
        obtain ⟨o11,G11,K11⟩ := Ad H
        refine Aj (fun a w => ∃ x19 : Bool,some (x19) = some o11 ∧ Fr 87 [] [(1,v3),(3,.pointer (some ⟨b1,0,none⟩)),(6,.slice none 0 0),(7,v4),(8,v5),(10,.int .i64 x10),(11,.int .i64 x13),(12,v9),(13,.int .i64 x17),(81,.bool x19)] a ∧ Stw ⟨Y,[],w0⟩ [(b1,[.int .i64 p0.1,v1,v2])] [row v4 131 (Rp.int .u64) x1,row v5 3 (Rp.int .i64) x16,row v9 200 CT x15] w) ?_ ?_
        ·
         have H := G11
         clear G11 K11
         refine vc tk 3 hF hW fun a w hF hW => ?_
         obtain ⟨x20,h5,H⟩ := Ad H
         refine ls hF hW rfl ((Ai (r := (Rp.int .i64)) Do hF rfl rfl (Ae 1 rfl) h5).q) (fun a w hF hW => ?_)
         refine ls hF hW rfl ((Af (y := Value.int .i64 x20) (j := 0) (i := x13) hF rfl rfl (Ae 1 rfl) h5 Fl.int.to T3 rfl).q) (fun a w hF hW => ?_)
         refine vl tk 2 hF hW fun a w hF hW => ?_
         rcases bxq (decide (x20 = (-1))) with hb | hb
         ·
          have H := BP (of_decide_eq_true hb) H
          rw [hb] at hF
          clear hb
          refine vl tk 3 hF hW fun a w hF hW => ?_
          obtain ⟨x21,h6,H⟩ := Ad H
          refine BC hF hW (Ac hF rfl rfl rfl rfl) rfl (ze rfl) ((Ai (r := CT) NH hF rfl rfl (Ae 2 rfl) h6).q) (fun a w hF hW => ?_)
          refine BC hF hW (Ac hF rfl rfl rfl rfl) rfl (ze rfl) ((Au Je rfl rfl rfl T3 hF rfl (Dt v9 + (x17).toNat * 3 + 1) rfl).q) (fun a w hF hW => ?_)
          refine BC hF hW (Ac hF rfl rfl rfl rfl) rfl (ze rfl) ((Af (y := Value.int .i64 x21.2.1) (j := 1) (i := x17) hF rfl rfl (Ae 2 rfl) h6 Ob.to T3 rfl).q) (fun a w hF hW => ?_)
          obtain ⟨x22,h7,H⟩ := Ad H
          refine BC hF hW (Ac hF rfl rfl rfl rfl) rfl (ze rfl) ((Ai (r := (Rp.int .i64)) Do hF rfl rfl (Ae 1 rfl) h7).q) (fun a w hF hW => ?_)
          refine BC hF hW (Ac hF rfl rfl rfl rfl) rfl (ze rfl) ((Af (y := Value.int .i64 x22) (j := 0) (i := x21.2.1) hF rfl rfl (Ae 1 rfl) h7 Fl.int.to T3 rfl).q) (fun a w hF hW => ?_)
          refine vl tk 5 hF hW fun a w hF hW => ?_
          rcases bxq (decide (x22 = (w64 (x10 - 1)))) with hb | hb
          ·
           have H := BP (of_decide_eq_true hb) H
           rw [hb] at hF
           clear hb
           refine vl tk 5 hF hW fun a w hF hW => ?_
           obtain ⟨x23,h8,H⟩ := Ad H
           refine BC hF hW (Ac hF rfl rfl rfl rfl) rfl (ze rfl) ((Ai (r := CT) NH hF rfl rfl (Ae 2 rfl) h8).q) (fun a w hF hW => ?_)
           refine BC hF hW (Ac hF rfl rfl rfl rfl) rfl (ze rfl) ((Af (y := Value.agg #[.int .i64 x23.1,.int .i64 x23.2.1,.int .i64 x23.2.2]) (j := 0) (i := x17) hF rfl rfl (Ae 2 rfl) h8 Ob.to Yi rfl).q) (fun a w hF hW => ?_)
           refine Fq (Ac hF rfl rfl rfl rfl) ?_
           obtain ⟨x24,h9,H⟩ := Ad H
           refine ls hF hW rfl (Av (v := Value.bool x24) hF Yz rfl (fun w hW => KV any w (v3) (v4) p1 x1 x13 x23 _ h9 (D3 (Ab h_v3) hW) (D3 (Ae 0 rfl) hW))) (fun a w hF hW => ?_)
           refine vl tk 2 hF hW fun a w hF hW => ?_
           refine Aa ?_
           have hW := hW.frontZ (i := 2) rfl rfl
           have hW := hW.frontZ (i := 2) rfl rfl
           have hW := hW.frontZ (i := 2) rfl rfl
           exact ⟨_,H,hF.ra rfl,hW⟩
          ·
           have H := BQ (of_decide_eq_false hb) H
           rw [hb] at hF
           clear hb
           refine vl tk 10 hF hW fun a w hF hW => ?_
           refine Aa ?_
           have hW := hW.frontZ (i := 2) rfl rfl
           have hW := hW.frontZ (i := 2) rfl rfl
           have hW := hW.frontZ (i := 2) rfl rfl
           exact ⟨_,H,hF.ra rfl,hW⟩
         ·
          have H := BQ (of_decide_eq_false hb) H
          rw [hb] at hF
          clear hb
          refine vl tk 23 hF hW fun a w hF hW => ?_
          refine Aa ?_
          have hW := hW.frontZ (i := 2) rfl rfl
          have hW := hW.frontZ (i := 2) rfl rfl
          have hW := hW.frontZ (i := 2) rfl rfl
          exact ⟨_,H,hF.ra rfl,hW⟩
        rintro a w ⟨x19,hj,hF,hW⟩
        have hj := Option.some.inj hj
        subst hj
        have H := K11
        clear G11 K11
        refine BA hF rfl H (fun hF H => ?_) (fun hF H => ?_)
        ·
         refine vc tk 4 hF hW fun a w hF hW => ?_
         obtain ⟨x25,h10,H⟩ := Ad H
         refine ls hF hW rfl ((Ai (r := (Rp.int .i64)) Do hF rfl rfl (Ae 1 rfl) h10).q) (fun a w hF hW => ?_)
         refine BE (i := x13) (j := 0) (vs := [.int .i64 x10]) (x' := x10) hF hW rfl rfl rfl (k := 1) rfl rfl h10 T3 rfl rfl rfl rfl (fun A cs _ => Fl.int.sto (by rfl) _ _ _) (fun w hW => ?_)
         refine D1 ?_
         refine An ?_
         refine Aa ?_
         have hW := hW.frontZ (i := 2) rfl rfl
         have hW := hW.frontZ (i := 1) rfl rfl
         have hW := hW.frontZ (i := 2) rfl rfl
         exact ⟨_,H,hF.ra rfl,hW⟩
        ·
         refine Ay ?_
         refine An ?_
         refine Aa ?_
         have hW := hW.frontZ (i := 2) rfl rfl
         have hW := hW.frontZ (i := 2) rfl rfl
         have hW := hW.frontZ (i := 2) rfl rfl
         exact ⟨_,H,hF.ra rfl,hW⟩
       rintro a w ⟨x18,hj,hF,hW⟩
       have hj := Option.some.inj hj
       subst hj
       have H := K10
       clear G10 K10
       refine vc tk 5 hF hW fun a w hF hW => ?_
       refine Aa ?_
       have hW := hW.frontZ (i := 2) rfl rfl
       have hW := hW.frontZ (i := 2) rfl rfl
       have hW := hW.frontZ (i := 2) rfl rfl
       exact ⟨_,H,hF.ra rfl,hW⟩
      ·
       refine AE ?_
       iterate 2 refine AQ ?_
       refine AF ?_
       refine An ?_
       refine Aa ?_
       have hW := hW.frontZ (i := 1) rfl rfl
       have hW := hW.frontZ (i := 1) rfl rfl
       have hW := hW.sub (M' := [(b1,[.int .i64 p0.1,v1,v2])]) (Z' := [row v4 131 (Rp.int .u64) x1,row v5 3 (Rp.int .i64) x16]) (List.Sublist.refl _) (List.Sublist.cons_cons _ (List.Sublist.cons_cons _ (List.nil_sublist _)))
       have H := L9 _ H
       exact ⟨_,H,hF.ra rfl,hW⟩
     rintro a w ⟨x14,hj,hF,hW⟩
     have hj := Option.some.inj hj
     subst hj
     have H := K8
     clear G8 K8
     refine vc tk 5 hF hW fun a w hF hW => ?_
     refine Aa ?_
     have hW := hW.frontZ (i := 1) rfl rfl
     have hW := hW.frontZ (i := 1) rfl rfl
     exact ⟨_,H,hF.ra rfl,hW⟩
    ·
     refine AE ?_
     iterate 2 refine AQ ?_
     refine AF ?_
     refine An ?_
     refine Aa ?_
     have hW := hW.frontZ (i := 1) rfl rfl
     have hW := hW.frontZ (i := 1) rfl rfl
     have H := L7 _ H
     exact ⟨_,H,hF.ra rfl,hW⟩
   rintro a w ⟨x11,hj,hF,hW⟩
   have hj := Option.some.inj hj
   subst hj
   have H := K6
   clear G6 K6
   refine vc tk 5 hF hW fun a w hF hW => ?_
   refine Aa ?_
   have hW := hW.frontZ (i := 1) rfl rfl
   have hW := hW.frontZ (i := 1) rfl rfl
   exact ⟨_,H,hF.ra rfl,hW⟩
  ·
   refine AE ?_
   iterate 2 refine AQ ?_
   refine AF ?_
   refine Aa ?_
   have hW := hW.frontZ (i := 1) rfl rfl
   have hW := hW.sub (M' := [(b1,[.int .i64 p0.1,v1,v2])]) (Z' := [row v5 3 (Rp.int .i64) x9]) (List.Sublist.refl _) (List.Sublist.cons_cons _ (List.nil_sublist _))
   have H := L5 _ H
   exact ⟨_,H,hF.ra rfl,hW⟩
 rintro a w ⟨x8,hj,hF,hW⟩
 have hj := Option.some.inj hj
 subst hj
 have H := K4
 clear G4 K4
 refine vc tk 6 hF hW fun a w hF hW => ?_
 refine Ah ?_
 have H := Option.some.inj H
 subst H
 refine Aw (.inl rfl) hF hW rfl (Ag hF rfl) ?_
 have hW := hW.sub (M' := []) (Z' := [row v5 3 (Rp.int .i64) x8]) (List.nil_sublist _) (List.Sublist.refl _)
 exact ⟨(v5),rfl,hW⟩
theorem dA : Has Tryz.prog 105 := Bj Tryz.func105
def Ep (p1 : List Int) (x3 : List Int) (x4 : List Int) (x7 : Int) (x9 : (List (Int × Int × Int))) : (Int × Int) → Option ((Int × Int) ⊕ Int)
  | (x11,x12) => (if 0 ≤ x12 then (((ix x9 x12).bind fun x15 => (FZ p1 x3 x7 x15).bind fun x16 => (if x16 = true then (ix x9 x12).bind fun x17 => (ix x4 x17.2.1).bind fun x18 => (ix x4 x7).bind fun x19 => some (decide ((w64 (x18 + 1)) = x19)) else some false)).bind fun x14 => (if x14 = true then (ix x9 x12).bind fun x20 => some x20.1 else some x11)).bind fun x13 => some (.inl (x13,w64 (x12 - 1))) else some (.inr x11))
def Eo (p0 : Int × (List (Int × Int × Int × Int × Int × Int)) × (List (Int × Int))) (p1 : List Int) (p2 : Int) (x2 : Int × Int) (x3 : List Int) (x4 : List Int) : (List Int × Int) → Option ((List Int × Int) ⊕ (List Int))
  | (x6,x7) => (if x7 < p0.1 then ((E6 p0 x7).bind fun x9 => (Am (Ep p1 x3 x4 x7 x9) ((-1),w64 ((x9.length : Int) - 1))).bind fun x10 => (if x7 = x2.1 then (ix p0.2.2 p2).bind fun x22 => some x22.2 else some x10).bind fun x21 => (app x6 ([x21] : List Int)).bind fun x23 => some x23).bind fun x8 => some (.inl (x8,w64 (x7 + 1))) else some (.inr x6))
def Ge (p0 : Int × (List (Int × Int × Int × Int × Int × Int)) × (List (Int × Int))) (p1 : List Int) (p2 : Int) : Option (List Int × Int) := (DO p0 p1).bind fun x1 => (if (!x1) = true then some (([] : List Int),2) else (if (decide (p2 < 0) || decide ((p0.2.2.length : Int) ≤ p2)) = true then some (([] : List Int),7) else (ix p0.2.2 p2).bind fun x2 => (Ey p0 p1 x2.1).bind fun x3 => (Fh p0 p1 x2.1).bind fun x4 => (Am (Eo p0 p1 p2 x2 x3 x4) ([],0)).bind fun x5 => some (x5,0)))
theorem PC (Y : Nat → Prop) (w0 : World) (v1 : Value) (v2 : Value) (v3 : Value) (p0 : Int × (List (Int × Int × Int × Int × Int × Int)) × (List (Int × Int))) (p1 : List Int) (p2 : Int) (r : List Int × Int) (H : Ge p0 p1 p2 = some r) (h_v1 : Sl w0 (NX []) B8 v1 p0.2.1) (h_v2 : Sl w0 (NX []) Cc v2 p0.2.2) (h_v3 : Sl w0 (NX []) (Rp.int .u64) v3 p1) :
    Calls Tryz.prog 63 #[.agg #[.int .i64 p0.1,v1,v2],v3,.int .i64 p2] w0 fun e w' => ∃ x : Value,e = .returned (.tuple #[x,.int .i64 r.2]) ∧ Stw ⟨Y,[],w0⟩ [] [row (x) 3 (Rp.int .i64) r.1] w' := by
 refine enter Tryz.func63 rfl Tryz.ntmps63 rfl (fun a hF => ?_)
 have hW := Stw.start Y w0
 unfold Ge at H
 refine vc tk 2 hF hW fun a w hF hW => ?_
 refine Cv (cs := [.int .i64 p0.1,v1,v2]) hF hW rfl rfl rfl (fun b1 a w hF hW => ?_)
 refine E9 tk 9 [0] hF hW (ai fun a w hF hW => ?_)
 obtain ⟨x1,h1,H⟩ := Ad H
 refine ls hF hW rfl (Av (v := Value.bool x1) hF Z4 rfl (fun w hW => Hg any w (v1) (v2) (v3) p0 p1 _ h1 (D3 (Ab h_v1) hW) (D3 (Ab h_v2) hW) (D3 (Ab h_v3) hW))) (fun a w hF hW => ?_)
 refine Bc tk 3 hF hW fun a w hF hW => ?_
 refine BA hF rfl H (fun hF H => ?_) (fun hF H => ?_)
 ·
  refine vc tk 6 hF hW fun a w hF hW => ?_
  refine Ah ?_
  refine Ak ?_
  have H := Option.some.inj H
  subst H
  refine Dz (.inl rfl) hF hW rfl (Ag hF rfl) (Ag hF rfl) ?_
  have hW := hW.nilRow 3 (Rp.int .i64)
  have hW := hW.sub (M' := []) (Z' := [row (Value.slice none 0 0) 3 (Rp.int .i64) ([])]) (List.nil_sublist _) (List.Sublist.refl _)
  exact ⟨(Value.slice none 0 0),rfl,hW⟩
 ·
  refine D2 tk 3 hF hW fun a w hF hW => ?_
  refine Aj (fun a w => Fr 102 [] [(1,v3),(2,.int .i64 p2),(3,.pointer (some ⟨b1,0,none⟩)),(6,.slice none 0 0),(7,.int .i64 0),(28,.bool (decide (p2 < 0) || decide ((p0.2.2.length : Int) ≤ p2)))] a ∧ Stw ⟨Y,[],w0⟩ [(b1,[.int .i64 p0.1,v1,v2])] [] w) ?_ ?_
  ·
   refine vc tk 4 hF hW fun a w hF hW => ?_
   rcases bxq (decide (p2 < 0)) with hb0 | hb0
   ·
    rw [hb0] at hF
    refine vl tk 7 hF hW fun a w hF hW => ?_
    refine Aa ?_
    exact ⟨hF.re ⟨rfl,rfl,rfl,rfl,rfl,(Di (by try rw [hb0]; all_goals simp only [Dl])),trivial⟩,hW⟩
   ·
    rw [hb0] at hF
    refine Eb tk 3 [0] hF hW (ai fun a w hF hW => ?_)
    refine BC hF hW (Ac hF rfl rfl rfl rfl) rfl (ze rfl) ((AK (r := Cc) (l := p0.2.2) JG rfl hF rfl (Ab h_v2)).q) (fun a w hF hW => ?_)
    refine vl tk 3 hF hW fun a w hF hW => ?_
    refine Aa ?_
    exact ⟨hF.re ⟨rfl,rfl,rfl,rfl,rfl,(Di (by try rw [hb0]; all_goals simp only [Dl])),trivial⟩,hW⟩
  rintro a w ⟨hF,hW⟩
  refine BA hF rfl H (fun hF H => ?_) (fun hF H => ?_)
  ·
   refine vc tk 6 hF hW fun a w hF hW => ?_
   refine Ah ?_
   refine Ak ?_
   have H := Option.some.inj H
   subst H
   refine Dz (.inl rfl) hF hW rfl (Ag hF rfl) (Ag hF rfl) ?_
   have hW := hW.nilRow 3 (Rp.int .i64)
   have hW := hW.sub (M' := []) (Z' := [row (Value.slice none 0 0) 3 (Rp.int .i64) ([])]) (List.nil_sublist _) (List.Sublist.refl _)
   exact ⟨(Value.slice none 0 0),rfl,hW⟩
  ·
   refine LT tk 7 [0] hF hW (ai fun a w hF hW => ?_)
   obtain ⟨x2,h2,H⟩ := Ad H
   refine ls hF hW rfl ((Ai (r := Cc) UE hF rfl rfl (Ab h_v2) h2).q) (fun a w hF hW => ?_)
   refine ls hF hW rfl ((Au JY rfl rfl rfl T3 hF rfl (Dt v2 + (p2).toNat * 2) rfl).q) (fun a w hF hW => ?_)
   refine ls hF hW rfl ((Af (y := Value.int .i64 x2.1) (j := 0) (i := p2) hF rfl rfl (Ab h_v2) h2 Nz.to T3 rfl).q) (fun a w hF hW => ?_)
   refine Bc tk 4 hF hW fun a w hF hW => ?_
   refine Gp [(true,0),(true,1),(true,2),(true,4),(true,5),(true,6),(false,3),(false,7),(false,8),(false,9)] (CN ⟨Y,[],w0⟩ [(some 3,b1,[.int .i64 p0.1,v1,v2]),(some 7,b1,[.int .i64 p0.1,v1,v2])] []) (fun ch a d v w h => by cases d <;> exact h) MO (by kernel_rfl) hW (fun w hW => ⟨_,_,hW,(all_cons (fun _ => (.head _)) (all_cons (fun _ => (.head _)) As)),As⟩) (fun w hW => ?_)
   refine Cp (R := [3]) hF rfl rfl (yC fun M Z hN hZ => Gh (cs := [.int .i64 p0.1,v1,v2]) (v := Value.agg #[.int .i64 p0.1,v1,v2]) hF rfl (hN ((some 3),b1,[.int .i64 p0.1,v1,v2]) (.head _) rfl) Ww rfl) (by kernel_rfl) rfl (fun a hF => ?_)
   iterate 2 refine Cp (R := []) hF rfl rfl (yC fun M Z hN hZ => Al hF rfl) rfl rfl (fun a hF => ?_)
   refine Cp (R := [7]) hF rfl rfl (yC fun M Z hN hZ => Gh (cs := [.int .i64 p0.1,v1,v2]) (v := Value.agg #[.int .i64 p0.1,v1,v2]) hF rfl (hN ((some 7),b1,[.int .i64 p0.1,v1,v2]) (.tail _ (.head _)) rfl) Ww rfl) (by kernel_rfl) rfl (fun a hF => ?_)
   iterate 2 refine Cp (R := []) hF rfl rfl (yC fun M Z hN hZ => Al hF rfl) rfl rfl (fun a hF => ?_)
   refine HD rfl ?_
   obtain ⟨x3,h3,H⟩ := Ad H
   refine A9 (Ml := []) (Zl := []) (β := Value) (rv := fun x => x) (MM := fun x => []) (ZZ := fun x => [row x 131 (Rp.int .u64) x3]) hF hW X8 rfl rfl (fun hL => JP _ w (v1) (v2) (v3) p0 p1 x2.1 _ h3 ((Ab h_v1) w hW).nx ((Ab h_v2) w hW).nx ((Ab h_v3) w hW).nx) (fun x a w hF hW => ?_)
   obtain ⟨v4,rfl⟩ : ∃ y,y = x := ⟨x,rfl⟩
   have hW : Stw ⟨Y,[],w0⟩ [(b1,[.int .i64 p0.1,v1,v2])] [row v4 131 (Rp.int .u64) x3] w := hW
   refine CC (N2 := []) (NZ2 := []) (N3 := [(some 3,b1,[.int .i64 p0.1,v1,v2]),(some 7,b1,[.int .i64 p0.1,v1,v2])]) (NZ3 := []) hW rfl rfl (all_cons (fun h => Bl (by kernel_rfl) h) (all_cons (fun _ => (.head _)) As)) As ?_
   refine HD rfl ?_
   obtain ⟨x4,h4,H⟩ := Ad H
   refine A9 (Ml := []) (Zl := []) (β := Value) (rv := fun x => x) (MM := fun x => []) (ZZ := fun x => [row x 3 (Rp.int .i64) x4]) hF hW dA rfl rfl (fun hL => Oz _ w (v1) (v2) (v3) p0 p1 x2.1 _ h4 ((Ab h_v1) w hW).nx ((Ab h_v2) w hW).nx ((Ab h_v3) w hW).nx) (fun x a w hF hW => ?_)
   obtain ⟨v5,rfl⟩ : ∃ y,y = x := ⟨x,rfl⟩
   have hW : Stw ⟨Y,[],w0⟩ [(b1,[.int .i64 p0.1,v1,v2])] [row v5 3 (Rp.int .i64) x4,row v4 131 (Rp.int .u64) x3] w := hW
   refine CC (N2 := []) (NZ2 := []) (N3 := [(some 3,b1,[.int .i64 p0.1,v1,v2]),(some 7,b1,[.int .i64 p0.1,v1,v2])]) (NZ3 := []) hW rfl rfl (all_cons (fun h => Bl (by kernel_rfl) h) (all_cons (fun h => Bl (by kernel_rfl) h) As)) As ?_
   refine HD rfl ?_
   refine ls hF hW rfl ((BB hF rfl).q) (fun a w hF hW => ?_)
   refine CC (N2 := []) (NZ2 := []) (N3 := [(some 3,b1,[.int .i64 p0.1,v1,v2]),(some 7,b1,[.int .i64 p0.1,v1,v2])]) (NZ3 := []) hW rfl rfl (all_cons (fun h => Bl (by kernel_rfl) h) (all_cons (fun h => Bl (by kernel_rfl) h) As)) As ?_
   refine HD rfl ?_
   refine ls hF hW rfl ((BB hF rfl).q) (fun a w hF hW => ?_)
   refine CC (N2 := []) (NZ2 := []) (N3 := [(some 3,b1,[.int .i64 p0.1,v1,v2]),(some 7,b1,[.int .i64 p0.1,v1,v2])]) (NZ3 := []) hW rfl rfl (all_cons (fun h => Bl (by kernel_rfl) h) (all_cons (fun h => Bl (by kernel_rfl) h) As)) As ?_
   refine JE ?_
   refine vn tk 5 hF hW fun a w hF hW => ?_
   obtain ⟨o1,G1,K1⟩ := Ad H
   refine Aj (fun a w => ∃ x5 : List Int, ∃ v6 : Value,some (x5) = some o1 ∧ Fr 102 [] [(6,.slice none 0 0),(7,.int .i64 0),(11,v6)] a ∧ Stw ⟨Y,[],w0⟩ [(b1,[.int .i64 p0.1,v1,v2])] [row v6 3 (Rp.int .i64) x5] w) ?_ ?_
   ·
    have H := G1
    clear G1 K1
    refine vc tk 6 hF hW fun a w hF hW => ?_
    have hW := hW.nilRow 3 (Rp.int .i64)
    have hW := hW.frontZ (i := 1) rfl rfl
    have hW := hW.frontZ (i := 2) rfl rfl
    refine AD H (fun s a w => ∃ v7 : Value,Fr 102 [] [(1,v3),(2,.int .i64 p2),(3,.pointer (some ⟨b1,0,none⟩)),(6,.slice none 0 0),(7,.int .i64 0),(8,.int .i64 x2.1),(9,v4),(10,v5),(11,v7),(12,.int .i64 s.2)] a ∧ Stw ⟨Y,[],w0⟩ [(b1,[.int .i64 p0.1,v1,v2])] [row v4 131 (Rp.int .u64) x3,row v5 3 (Rp.int .i64) x4,row v7 3 (Rp.int .i64) s.1] w) ⟨(Value.slice none 0 0),hF.ra rfl,hW⟩ (fun s o a w H L2 hR => ?_)
    obtain ⟨x6,x7⟩ := s
    obtain ⟨v7,hF,hW⟩ := hR
    have hF : Fr 102 [] [(1,v3),(2,.int .i64 p2),(3,.pointer (some ⟨b1,0,none⟩)),(6,.slice none 0 0),(7,.int .i64 0),(8,.int .i64 x2.1),(9,v4),(10,v5),(11,v7),(12,.int .i64 x7)] a := hF
    have hW : Stw ⟨Y,[],w0⟩ [(b1,[.int .i64 p0.1,v1,v2])] [row v4 131 (Rp.int .u64) x3,row v5 3 (Rp.int .i64) x4,row v7 3 (Rp.int .i64) x6] w := hW
    rw [Eo] at H
    refine D7 tk 9 [0] hF hW (ai fun a w hF hW => ?_)
    refine AG hF rfl H (fun hF H => ?_) (fun hF H => ?_)
    ·
     refine Ay ?_
     refine Aa ?_
     obtain ⟨o3,G3,K3⟩ := Ad H
     refine Aj (fun a w => ∃ x8 : List Int, ∃ v8 : Value,some (x8) = some o3 ∧ Fr 102 [] [(1,v3),(2,.int .i64 p2),(3,.pointer (some ⟨b1,0,none⟩)),(6,.slice none 0 0),(7,.int .i64 0),(8,.int .i64 x2.1),(9,v4),(10,v5),(11,v8),(12,.int .i64 x7)] a ∧ Stw ⟨Y,[],w0⟩ [(b1,[.int .i64 p0.1,v1,v2])] [row v4 131 (Rp.int .u64) x3,row v5 3 (Rp.int .i64) x4,row v8 3 (Rp.int .i64) x8] w) ?_ ?_
     ·
      have H := G3
      clear G3 K3
      refine D7 tk 10 [0] hF hW (ai fun a w hF hW => ?_)
      obtain ⟨x9,h5,H⟩ := Ad H
      refine A9 (Ml := []) (Zl := []) (β := Value) (rv := fun x => x) (MM := fun x => []) (ZZ := fun x => [row x 200 CT x9]) hF hW Xd rfl rfl (fun hL => IE _ w (v1) (v2) p0 x7 _ h5 ((Ab h_v1) w hW).nx ((Ab h_v2) w hW).nx) (fun x a w hF hW => ?_)
      obtain ⟨v9,rfl⟩ : ∃ y,y = x := ⟨x,rfl⟩
      have hW : Stw ⟨Y,[],w0⟩ [(b1,[.int .i64 p0.1,v1,v2])] [row v9 200 CT x9,row v4 131 (Rp.int .u64) x3,row v5 3 (Rp.int .i64) x4,row v7 3 (Rp.int .i64) x6] w := hW
      refine vl tk 2 hF hW fun a w hF hW => ?_
      refine Aa ?_
      obtain ⟨o4,G4,K4⟩ := Ad H
      refine Aj (fun a w => ∃ x10 : Int,some (x10) = some o4 ∧ Fr 102 [] [(1,v3),(2,.int .i64 p2),(3,.pointer (some ⟨b1,0,none⟩)),(6,.slice none 0 0),(7,.int .i64 0),(8,.int .i64 x2.1),(9,v4),(10,v5),(11,v7),(12,.int .i64 x7),(13,.int .i64 x10)] a ∧ Stw ⟨Y,[],w0⟩ [(b1,[.int .i64 p0.1,v1,v2])] [row v4 131 (Rp.int .u64) x3,row v5 3 (Rp.int .i64) x4,row v7 3 (Rp.int .i64) x6] w) ?_ ?_
      ·
       have H := G4
       clear G4 K4
       refine vc tk 3 hF hW fun a w hF hW => ?_
       refine ls hF hW rfl ((AK (r := CT) (l := x9) QP rfl hF rfl (Ae 0 rfl)).q) (fun a w hF hW => ?_)
       refine Bc tk 5 hF hW fun a w hF hW => ?_
       have hW := hW.frontZ (i := 3) rfl rfl
       have hW := hW.frontZ (i := 3) rfl rfl
       have hW := hW.frontZ (i := 3) rfl rfl
       refine AD H (fun s a w => Fr 102 [] [(1,v3),(2,.int .i64 p2),(3,.pointer (some ⟨b1,0,none⟩)),(6,.slice none 0 0),(7,.int .i64 0),(8,.int .i64 x2.1),(9,v4),(10,v5),(11,v7),(12,.int .i64 x7),(13,.int .i64 s.1),(14,v9),(15,.int .i64 s.2)] a ∧ Stw ⟨Y,[],w0⟩ [(b1,[.int .i64 p0.1,v1,v2])] [row v4 131 (Rp.int .u64) x3,row v5 3 (Rp.int .i64) x4,row v7 3 (Rp.int .i64) x6,row v9 200 CT x9] w) ⟨hF.ra rfl,hW⟩ (fun s o a w H L5 hR => ?_)
       obtain ⟨x11,x12⟩ := s
       obtain ⟨hF,hW⟩ := hR
       have hF : Fr 102 [] [(1,v3),(2,.int .i64 p2),(3,.pointer (some ⟨b1,0,none⟩)),(6,.slice none 0 0),(7,.int .i64 0),(8,.int .i64 x2.1),(9,v4),(10,v5),(11,v7),(12,.int .i64 x7),(13,.int .i64 x11),(14,v9),(15,.int .i64 x12)] a := hF
       have hW : Stw ⟨Y,[],w0⟩ [(b1,[.int .i64 p0.1,v1,v2])] [row v4 131 (Rp.int .u64) x3,row v5 3 (Rp.int .i64) x4,row v7 3 (Rp.int .i64) x6,row v9 200 CT x9] w := hW
       rw [Ep] at H
       refine vc tk 7 hF hW fun a w hF hW => ?_
       refine AG hF rfl H (fun hF H => ?_) (fun hF H => ?_)
       ·
        refine Ay ?_
        refine Aa ?_
        obtain ⟨o6,G6,K6⟩ := Ad H
        refine Aj (fun a w => ∃ x13 : Int,some (x13) = some o6 ∧ Fr 102 [] [(1,v3),(2,.int .i64 p2),(3,.pointer (some ⟨b1,0,none⟩)),(6,.slice none 0 0),(7,.int .i64 0),(8,.int .i64 x2.1),(9,v4),(10,v5),(11,v7),(12,.int .i64 x7),(13,.int .i64 x13),(14,v9),(15,.int .i64 x12)] a ∧ Stw ⟨Y,[],w0⟩ [(b1,[.int .i64 p0.1,v1,v2])] [row v4 131 (Rp.int .u64) x3,row v5 3 (Rp.int .i64) x4,row v7 3 (Rp.int .i64) x6,row v9 200 CT x9] w) ?_ ?_
        ·
         have H := G6
         clear G6 K6
         refine EI ?_
         obtain ⟨o7,G7,K7⟩ := Ad H
         refine Aj (fun a w => ∃ x14 : Bool,some (x14) = some o7 ∧ Fr 102 [] [(1,v3),(2,.int .i64 p2),(3,.pointer (some ⟨b1,0,none⟩)),(6,.slice none 0 0),(7,.int .i64 0),(8,.int .i64 x2.1),(9,v4),(10,v5),(11,v7),(12,.int .i64 x7),(13,.int .i64 x11),(14,v9),(15,.int .i64 x12),(82,.bool x14)] a ∧ Stw ⟨Y,[],w0⟩ [(b1,[.int .i64 p0.1,v1,v2])] [row v4 131 (Rp.int .u64) x3,row v5 3 (Rp.int .i64) x4,row v7 3 (Rp.int .i64) x6,row v9 200 CT x9] w) ?_ ?_
         ·
          have H := G7
          clear G7 K7
          refine BV hW MO (by kernel_rfl) ?_
          iterate 5 refine qs hF rfl ((Al hF rfl).q) (fun a hF => ?_)
          obtain ⟨x15,h6,H⟩ := Ad H
          refine qs hF rfl ((Ai (r := CT) NH hF rfl rfl (Ae 3 rfl) h6).q) (fun a hF => ?_)
          refine qs hF rfl ((Af (y := Value.agg #[.int .i64 x15.1,.int .i64 x15.2.1,.int .i64 x15.2.2]) (j := 0) (i := x12) hF rfl rfl (Ae 3 rfl) h6 Ob.to Yi rfl).q) (fun a hF => ?_)
          obtain ⟨x16,h7,H⟩ := Ad H
          refine qs hF rfl (Av (v := Value.bool x16) hF Yz rfl (fun w hW => KV any w (v3) (v4) p1 x3 x7 x15 _ h7 (D3 (Ab h_v3) hW) (D3 (Ae 0 rfl) hW))) (fun a hF => ?_)
          refine qs hF rfl ((Al hF rfl).q) (fun a hF => ?_)
          rcases bxq x16 with hb | hb
          ·
           have H := BP hb H
           rw [hb] at hF
           clear hb
           iterate 3 refine Bf hF (Ac hF rfl rfl rfl rfl) rfl (ze rfl) ((Al hF rfl).q) (fun a hF => ?_)
           obtain ⟨x17,h8,H⟩ := Ad H
           refine Bf hF (Ac hF rfl rfl rfl rfl) rfl (ze rfl) ((Ai (r := CT) NH hF rfl rfl (Ae 3 rfl) h8).q) (fun a hF => ?_)
           refine Bf hF (Ac hF rfl rfl rfl rfl) rfl (ze rfl) ((Au Je rfl rfl rfl T3 hF rfl (Dt v9 + (x12).toNat * 3 + 1) rfl).q) (fun a hF => ?_)
           refine Bf hF (Ac hF rfl rfl rfl rfl) rfl (ze rfl) ((Af (y := Value.int .i64 x17.2.1) (j := 1) (i := x12) hF rfl rfl (Ae 3 rfl) h8 Ob.to T3 rfl).q) (fun a hF => ?_)
           obtain ⟨x18,h9,H⟩ := Ad H
           refine Bf hF (Ac hF rfl rfl rfl rfl) rfl (ze rfl) ((Ai (r := (Rp.int .i64)) Do hF rfl rfl (Ae 1 rfl) h9).q) (fun a hF => ?_)
           refine Bf hF (Ac hF rfl rfl rfl rfl) rfl (ze rfl) ((Af (y := Value.int .i64 x18) (j := 0) (i := x17.2.1) hF rfl rfl (Ae 1 rfl) h9 Fl.int.to T3 rfl).q) (fun a hF => ?_)
           refine Bf hF (Ac hF rfl rfl rfl rfl) rfl (ze rfl) ((OV hF rfl rfl rfl).q) (fun a hF => ?_)
           iterate 2 refine Bf hF (Ac hF rfl rfl rfl rfl) rfl (ze rfl) ((Al hF rfl).q) (fun a hF => ?_)
           obtain ⟨x19,h10,H⟩ := Ad H
           refine Bf hF (Ac hF rfl rfl rfl rfl) rfl (ze rfl) ((Ai (r := (Rp.int .i64)) Do hF rfl rfl (Ae 1 rfl) h10).q) (fun a hF => ?_)
           refine Bf hF (Ac hF rfl rfl rfl rfl) rfl (ze rfl) ((Af (y := Value.int .i64 x19) (j := 0) (i := x7) hF rfl rfl (Ae 1 rfl) h10 Fl.int.to T3 rfl).q) (fun a hF => ?_)
           refine Bf hF (Ac hF rfl rfl rfl rfl) rfl (ze rfl) ((IR hF rfl rfl).q) (fun a hF => ?_)
           refine qs hF rfl ((CE hF rfl rfl rfl).q) (fun a hF => ?_)
           refine AX (fun w hW => ?_)
           refine Aa ?_
           have hW := hW.frontZ (i := 3) rfl rfl
           have hW := hW.frontZ (i := 3) rfl rfl
           have hW := hW.frontZ (i := 3) rfl rfl
           have hW := hW.frontZ (i := 3) rfl rfl
           exact ⟨_,H,hF.ra rfl,hW⟩
          ·
           have H := BQ (by rw [hb]; decide) H
           rw [hb] at hF
           clear hb
           iterate 14 refine DS hF (B4 hF rfl rfl rfl rfl rfl) rfl rfl (fun a hF => ?_)
           refine qs hF rfl ((Cy hF rfl rfl rfl).q) (fun a hF => ?_)
           refine AX (fun w hW => ?_)
           refine Aa ?_
           have hW := hW.frontZ (i := 3) rfl rfl
           have hW := hW.frontZ (i := 3) rfl rfl
           have hW := hW.frontZ (i := 3) rfl rfl
           have hW := hW.frontZ (i := 3) rfl rfl
           exact ⟨_,H,hF.ra rfl,hW⟩
         rintro a w ⟨x14,hj,hF,hW⟩
         have hj := Option.some.inj hj
         subst hj
         have H := K7
         clear G7 K7
         refine BA hF rfl H (fun hF H => ?_) (fun hF H => ?_)
         ·
          refine vc tk 3 hF hW fun a w hF hW => ?_
          obtain ⟨x20,h11,H⟩ := Ad H
          refine ls hF hW rfl ((Ai (r := CT) NH hF rfl rfl (Ae 3 rfl) h11).q) (fun a w hF hW => ?_)
          refine ls hF hW rfl ((Au Je rfl rfl rfl T3 hF rfl (Dt v9 + (x12).toNat * 3) rfl).q) (fun a w hF hW => ?_)
          refine ls hF hW rfl ((Af (y := Value.int .i64 x20.1) (j := 0) (i := x12) hF rfl rfl (Ae 3 rfl) h11 Ob.to T3 rfl).q) (fun a w hF hW => ?_)
          refine vl tk 2 hF hW fun a w hF hW => ?_
          refine An ?_
          refine Aa ?_
          have hW := hW.frontZ (i := 3) rfl rfl
          have hW := hW.frontZ (i := 3) rfl rfl
          have hW := hW.frontZ (i := 3) rfl rfl
          have hW := hW.frontZ (i := 3) rfl rfl
          exact ⟨_,H,hF.ra rfl,hW⟩
         ·
          refine Ay ?_
          refine An ?_
          refine Aa ?_
          have hW := hW.frontZ (i := 3) rfl rfl
          have hW := hW.frontZ (i := 3) rfl rfl
          have hW := hW.frontZ (i := 3) rfl rfl
          have hW := hW.frontZ (i := 3) rfl rfl
          exact ⟨_,H,hF.ra rfl,hW⟩
        rintro a w ⟨x13,hj,hF,hW⟩
        have hj := Option.some.inj hj
        subst hj
        have H := K6
        clear G6 K6
        refine vc tk 5 hF hW fun a w hF hW => ?_
        refine Aa ?_
        have hW := hW.frontZ (i := 3) rfl rfl
        have hW := hW.frontZ (i := 3) rfl rfl
        have hW := hW.frontZ (i := 3) rfl rfl
        have hW := hW.frontZ (i := 3) rfl rfl
        exact ⟨_,H,hF.ra rfl,hW⟩
       ·
        refine AE ?_
        iterate 2 refine AQ ?_
        refine AF ?_
        refine Aa ?_
        have hW := hW.frontZ (i := 2) rfl rfl
        have hW := hW.frontZ (i := 2) rfl rfl
        have hW := hW.frontZ (i := 2) rfl rfl
        have hW := hW.sub (M' := [(b1,[.int .i64 p0.1,v1,v2])]) (Z' := [row v4 131 (Rp.int .u64) x3,row v5 3 (Rp.int .i64) x4,row v7 3 (Rp.int .i64) x6]) (List.Sublist.refl _) (List.Sublist.cons_cons _ (List.Sublist.cons_cons _ (List.Sublist.cons_cons _ (List.nil_sublist _))))
        have H := L5 _ H
        exact ⟨_,H,hF.ra rfl,hW⟩
      rintro a w ⟨x10,hj,hF,hW⟩
      have hj := Option.some.inj hj
      subst hj
      have H := K4
      clear G4 K4
      obtain ⟨o8,G8,K8⟩ := Ad H
      refine Aj (fun a w => ∃ x21 : Int,some (x21) = some o8 ∧ Fr 102 [] [(1,v3),(2,.int .i64 p2),(3,.pointer (some ⟨b1,0,none⟩)),(6,.slice none 0 0),(7,.int .i64 0),(8,.int .i64 x2.1),(9,v4),(10,v5),(11,v7),(12,.int .i64 x7),(13,.int .i64 x21)] a ∧ Stw ⟨Y,[],w0⟩ [(b1,[.int .i64 p0.1,v1,v2])] [row v4 131 (Rp.int .u64) x3,row v5 3 (Rp.int .i64) x4,row v7 3 (Rp.int .i64) x6] w) ?_ ?_
      ·
       have H := G8
       clear G8 K8
       refine vc tk 7 hF hW fun a w hF hW => ?_
       refine AG hF rfl H (fun hF H => ?_) (fun hF H => ?_)
       ·
        refine D7 tk 4 [0] hF hW (ai fun a w hF hW => ?_)
        obtain ⟨x22,h12,H⟩ := Ad H
        refine ls hF hW rfl ((Ai (r := Cc) UE hF rfl rfl (Ab h_v2) h12).q) (fun a w hF hW => ?_)
        refine ls hF hW rfl ((Au JY rfl rfl rfl T3 hF rfl (Dt v2 + (p2).toNat * 2 + 1) rfl).q) (fun a w hF hW => ?_)
        refine ls hF hW rfl ((Af (y := Value.int .i64 x22.2) (j := 1) (i := p2) hF rfl rfl (Ab h_v2) h12 Nz.to T3 rfl).q) (fun a w hF hW => ?_)
        refine vl tk 2 hF hW fun a w hF hW => ?_
        refine Aa ?_
        have hW := hW.frontZ (i := 2) rfl rfl
        have hW := hW.frontZ (i := 2) rfl rfl
        have hW := hW.frontZ (i := 2) rfl rfl
        exact ⟨_,H,hF.ra rfl,hW⟩
       ·
        refine Ay ?_
        refine Aa ?_
        have hW := hW.frontZ (i := 2) rfl rfl
        have hW := hW.frontZ (i := 2) rfl rfl
        have hW := hW.frontZ (i := 2) rfl rfl
        exact ⟨_,H,hF.ra rfl,hW⟩
      rintro a w ⟨x21,hj,hF,hW⟩
      have hj := Option.some.inj hj
      subst hj
      have H := K8
      clear G8 K8
      refine vc tk 3 hF hW fun a w hF hW => ?_
      refine CK (z := Value.int .i64 0) (cs := [.int .i64 x21]) (Rp.int .i64) ([x21] : List Int) hF hW rfl Do Z3 rfl rfl rfl rfl rfl rfl (Fl.int.repL _ _ ([x21] : List Int)) (fun v10 a w hF hW => ?_)
      obtain ⟨x23,h13,H⟩ := Ad H
      refine BF (r := (Rp.int .i64)) (i := 3) hF hW rfl Do rfl rfl rfl rfl (BU hW 0 rfl) h13 rfl (fun v11 a w hF hW => ?_)
      have hW : Stw ⟨Y,[],w0⟩ [(b1,[.int .i64 p0.1,v1,v2])] [row v11 3 (Rp.int .i64) x23,row v10 3 (Rp.int .i64) ([x21] : List Int),row v4 131 (Rp.int .u64) x3,row v5 3 (Rp.int .i64) x4] w := hW
      refine vl tk 2 hF hW fun a w hF hW => ?_
      refine An ?_
      refine Aa ?_
      have hW := hW.frontZ (i := 3) rfl rfl
      have hW := hW.frontZ (i := 3) rfl rfl
      have hW := hW.sub (M' := [(b1,[.int .i64 p0.1,v1,v2])]) (Z' := [row v4 131 (Rp.int .u64) x3,row v5 3 (Rp.int .i64) x4,row v11 3 (Rp.int .i64) x23]) (List.Sublist.refl _) (List.Sublist.cons_cons _ (List.Sublist.cons_cons _ (List.Sublist.cons_cons _ (List.nil_sublist _))))
      exact ⟨_,(v11),H,hF.ra rfl,hW⟩
     rintro a w ⟨x8,v8,hj,hF,hW⟩
     have hj := Option.some.inj hj
     subst hj
     have H := K3
     clear G3 K3
     refine vc tk 5 hF hW fun a w hF hW => ?_
     refine Aa ?_
     have hW := hW.frontZ (i := 2) rfl rfl
     have hW := hW.frontZ (i := 2) rfl rfl
     have hW := hW.frontZ (i := 2) rfl rfl
     exact ⟨_,H,(v8),hF.ra rfl,hW⟩
    ·
     refine AE ?_
     iterate 2 refine AQ ?_
     refine AF ?_
     refine Aa ?_
     have hW := hW.frontZ (i := 2) rfl rfl
     have hW := hW.sub (M' := [(b1,[.int .i64 p0.1,v1,v2])]) (Z' := [row v7 3 (Rp.int .i64) x6]) (List.Sublist.refl _) (List.Sublist.cons_cons _ (List.nil_sublist _))
     have H := L2 _ H
     exact ⟨_,(v7),H,hF.ra rfl,hW⟩
   rintro a w ⟨x5,v6,hj,hF,hW⟩
   have hj := Option.some.inj hj
   subst hj
   have H := K1
   clear G1 K1
   refine vc tk 7 hF hW fun a w hF hW => ?_
   refine Ah ?_
   have H := Option.some.inj H
   subst H
   refine Dz (.inl rfl) hF hW rfl (Ag hF rfl) (Ag hF rfl) ?_
   have hW := hW.sub (M' := []) (Z' := [row v6 3 (Rp.int .i64) x5]) (List.nil_sublist _) (List.Sublist.refl _)
   exact ⟨(v6),rfl,hW⟩
theorem fW : Has Tryz.prog 63 := Bj Tryz.func63
def B2 (p0 : Int × (List (Int × Int × Int × Int × Int × Int)) × (List (Int × Int))) (p1 : List Int) (x4 : Int) : (List Int × Int) → Option ((List Int × Int) ⊕ ((List Int) ⊕ ((List (List Int)) ⊕ ((List (List Int) × Int) ⊕ ((List (List Int)) ⊕ (List (List Int) × Int))))))
  | (x7,x8) => (if x8 < (p0.2.2.length : Int) then (Ge p0 p1 x8).bind fun x9 => (ix x9.1 x4).bind fun x10 => (if x10 = (-1) then some (.inr (.inr (.inr (.inr (.inr (([] : List (List Int)),7)))))) else (ix x9.1 x4).bind fun x11 => (app x7 ([x11] : List Int)).bind fun x12 => some (.inl (x12,w64 (x8 + 1)))) else some (.inr (.inl x7)))
def CI (p0 : Int × (List (Int × Int × Int × Int × Int × Int)) × (List (Int × Int))) (p1 : List Int) : (List (List Int) × Int) → Option ((List (List Int) × Int) ⊕ ((List (List Int)) ⊕ (List (List Int) × Int)))
  | (x3,x4) => (if x4 < p0.1 then GU (GU (Am (B2 p0 p1 x4) ([],0)) fun x6 => (app x3 ([x6] : List (List Int))).bind fun x13 => some (.inl x13)) fun x5 => some (.inl (x5,w64 (x4 + 1))) else some (.inr (.inl x3)))
def Ed (p0 : Int × (List (Int × Int × Int × Int × Int × Int)) × (List (Int × Int))) (p1 : List Int) : Option (List (List Int) × Int) := (DO p0 p1).bind fun x1 => (if (!x1) = true then some (([] : List (List Int)),2) else GU (Am (CI p0 p1) ([],0)) fun x2 => some (x2,0))
theorem Na (Y : Nat → Prop) (w0 : World) (v1 : Value) (v2 : Value) (v3 : Value) (p0 : Int × (List (Int × Int × Int × Int × Int × Int)) × (List (Int × Int))) (p1 : List Int) (r : List (List Int) × Int) (H : Ed p0 p1 = some r) (h_v1 : Sl w0 (NX []) B8 v1 p0.2.1) (h_v2 : Sl w0 (NX []) Cc v2 p0.2.2) (h_v3 : Sl w0 (NX []) (Rp.int .u64) v3 p1) :
    Calls Tryz.prog 29 #[.agg #[.int .i64 p0.1,v1,v2],v3] w0 fun e w' => ∃ x : Value,e = .returned (.tuple #[x,.int .i64 r.2]) ∧ Stw ⟨Y,[],w0⟩ [] [row (x) 27 (Rp.slice (Rp.int .i64)) r.1] w' := by
 refine enter Tryz.func29 rfl Tryz.ntmps29 rfl (fun a hF => ?_)
 have hW := Stw.start Y w0
 unfold Ed at H
 refine vc tk 2 hF hW fun a w hF hW => ?_
 refine Cv (cs := [.int .i64 p0.1,v1,v2]) hF hW rfl rfl rfl (fun b1 a w hF hW => ?_)
 refine E9 tk 9 [0] hF hW (ai fun a w hF hW => ?_)
 obtain ⟨x1,h1,H⟩ := Ad H
 refine ls hF hW rfl (Av (v := Value.bool x1) hF Z4 rfl (fun w hW => Hg any w (v1) (v2) (v3) p0 p1 _ h1 (D3 (Ab h_v1) hW) (D3 (Ab h_v2) hW) (D3 (Ab h_v3) hW))) (fun a w hF hW => ?_)
 refine Bc tk 3 hF hW fun a w hF hW => ?_
 refine BA hF rfl H (fun hF H => ?_) (fun hF H => ?_)
 ·
  refine vc tk 6 hF hW fun a w hF hW => ?_
  refine Ah ?_
  refine Ak ?_
  have H := Option.some.inj H
  subst H
  refine Dz (.inl rfl) hF hW rfl (Ag hF rfl) (Ag hF rfl) ?_
  have hW := hW.nilRow 27 (Rp.slice (Rp.int .i64))
  have hW := hW.sub (M' := []) (Z' := [row (Value.slice none 0 0) 27 (Rp.slice (Rp.int .i64)) ([])]) (List.nil_sublist _) (List.Sublist.refl _)
  exact ⟨(Value.slice none 0 0),rfl,hW⟩
 ·
  refine D2 tk 7 hF hW fun a w hF hW => ?_
  obtain ⟨o1,G1,K1,L1⟩ := KC H
  refine Aj (fun a w => ∃ x2 : List (List Int), ∃ v4 : Value,some (Sum.inl x2) = some o1 ∧ Fr 53 [] [(4,.slice none 0 0),(5,.int .i64 0),(6,v4)] a ∧ Stw ⟨Y,[],w0⟩ [(b1,[.int .i64 p0.1,v1,v2])] [row v4 27 (Rp.slice (Rp.int .i64)) x2] w) ?_ ?_
  ·
   have H := G1
   clear G1 K1
   refine vc tk 6 hF hW fun a w hF hW => ?_
   have hW := hW.nilRow 27 (Rp.slice (Rp.int .i64))
   refine AD H (fun s a w => ∃ v5 : Value,Fr 53 [] [(1,v3),(2,.pointer (some ⟨b1,0,none⟩)),(4,.slice none 0 0),(5,.int .i64 0),(6,v5),(7,.int .i64 s.2)] a ∧ Stw ⟨Y,[],w0⟩ [(b1,[.int .i64 p0.1,v1,v2])] [row v5 27 (Rp.slice (Rp.int .i64)) s.1] w) ⟨(Value.slice none 0 0),hF.ra rfl,hW⟩ (fun s o a w H L2 hR => ?_)
   obtain ⟨x3,x4⟩ := s
   obtain ⟨v5,hF,hW⟩ := hR
   have hF : Fr 53 [] [(1,v3),(2,.pointer (some ⟨b1,0,none⟩)),(4,.slice none 0 0),(5,.int .i64 0),(6,v5),(7,.int .i64 x4)] a := hF
   have hW : Stw ⟨Y,[],w0⟩ [(b1,[.int .i64 p0.1,v1,v2])] [row v5 27 (Rp.slice (Rp.int .i64)) x3] w := hW
   rw [CI] at H
   refine D7 tk 9 [0] hF hW (ai fun a w hF hW => ?_)
   refine AG hF rfl H (fun hF H => ?_) (fun hF H => ?_)
   ·
    refine Ay ?_
    refine Aa ?_
    obtain ⟨o3,G3,K3,L3⟩ := KC H
    refine Aj (fun a w => ∃ x5 : List (List Int), ∃ v6 : Value,some (Sum.inl x5) = some o3 ∧ Fr 53 [] [(1,v3),(2,.pointer (some ⟨b1,0,none⟩)),(4,.slice none 0 0),(5,.int .i64 0),(6,v6),(7,.int .i64 x4)] a ∧ Stw ⟨Y,[],w0⟩ [(b1,[.int .i64 p0.1,v1,v2])] [row v6 27 (Rp.slice (Rp.int .i64)) x5] w) ?_ ?_
    ·
     have H := G3
     clear G3 K3
     refine vc tk 6 hF hW fun a w hF hW => ?_
     obtain ⟨o4,G4,K4,L4⟩ := KC H
     refine Aj (fun a w => ∃ x6 : List Int, ∃ v7 : Value,some (Sum.inl x6) = some o4 ∧ Fr 53 [] [(1,v3),(2,.pointer (some ⟨b1,0,none⟩)),(4,.slice none 0 0),(5,.int .i64 0),(6,v5),(7,.int .i64 x4),(8,v7)] a ∧ Stw ⟨Y,[],w0⟩ [(b1,[.int .i64 p0.1,v1,v2])] [row v5 27 (Rp.slice (Rp.int .i64)) x3,row v7 3 (Rp.int .i64) x6] w) ?_ ?_
     ·
      have H := G4
      clear G4 K4
      refine vc tk 6 hF hW fun a w hF hW => ?_
      have hW := hW.nilRow 3 (Rp.int .i64)
      have hW := hW.frontZ (i := 1) rfl rfl
      refine AD H (fun s a w => ∃ v8 : Value,Fr 53 [] [(1,v3),(2,.pointer (some ⟨b1,0,none⟩)),(4,.slice none 0 0),(5,.int .i64 0),(6,v5),(7,.int .i64 x4),(8,v8),(9,.int .i64 s.2)] a ∧ Stw ⟨Y,[],w0⟩ [(b1,[.int .i64 p0.1,v1,v2])] [row v5 27 (Rp.slice (Rp.int .i64)) x3,row v8 3 (Rp.int .i64) s.1] w) ⟨(Value.slice none 0 0),hF.ra rfl,hW⟩ (fun s o a w H L5 hR => ?_)
      obtain ⟨x7,x8⟩ := s
      obtain ⟨v8,hF,hW⟩ := hR
      have hF : Fr 53 [] [(1,v3),(2,.pointer (some ⟨b1,0,none⟩)),(4,.slice none 0 0),(5,.int .i64 0),(6,v5),(7,.int .i64 x4),(8,v8),(9,.int .i64 x8)] a := hF
      have hW : Stw ⟨Y,[],w0⟩ [(b1,[.int .i64 p0.1,v1,v2])] [row v5 27 (Rp.slice (Rp.int .i64)) x3,row v8 3 (Rp.int .i64) x7] w := hW
      rw [B2] at H
      refine D7 tk 6 [0] hF hW (ai fun a w hF hW => ?_)
      refine ls hF hW rfl ((AK (r := Cc) (l := p0.2.2) JG rfl hF rfl (Ab h_v2)).q) (fun a w hF hW => ?_)
      refine Bc tk 3 hF hW fun a w hF hW => ?_
      refine AG hF rfl H (fun hF H => ?_) (fun hF H => ?_)
      ·
       refine LT tk 9 [0] hF hW (ai fun a w hF hW => ?_)
       obtain ⟨x9,h2,H⟩ := Ad H
       refine A9 (Ml := []) (Zl := []) (β := Value) (rv := fun x => .tuple #[x,.int .i64 x9.2]) (MM := fun x => []) (ZZ := fun x => [row x 3 (Rp.int .i64) x9.1]) hF hW fW rfl rfl (fun hL => PC _ w (v1) (v2) (v3) p0 p1 x8 _ h2 ((Ab h_v1) w hW).nx ((Ab h_v2) w hW).nx ((Ab h_v3) w hW).nx) (fun x a w hF hW => ?_)
       obtain ⟨v9,rfl⟩ : ∃ y,y = x := ⟨x,rfl⟩
       have hW : Stw ⟨Y,[],w0⟩ [(b1,[.int .i64 p0.1,v1,v2])] [row v9 3 (Rp.int .i64) x9.1,row v5 27 (Rp.slice (Rp.int .i64)) x3,row v8 3 (Rp.int .i64) x7] w := hW
       refine ls hF hW rfl ((Al hF rfl).q) (fun a w hF hW => ?_)
       refine ls hF hW rfl ((A4 (v := v9) hF rfl rfl).q) (fun a w hF hW => ?_)
       refine ls hF hW rfl ((A4 (v := Value.int .i64 x9.2) hF rfl rfl).q) (fun a w hF hW => ?_)
       refine Bc tk 9 hF hW fun a w hF hW => ?_
       obtain ⟨x10,h3,H⟩ := Ad H
       refine ls hF hW rfl ((Ai (r := (Rp.int .i64)) Do hF rfl rfl (Ae 0 rfl) h3).q) (fun a w hF hW => ?_)
       refine ls hF hW rfl ((Af (y := Value.int .i64 x10) (j := 0) (i := x4) hF rfl rfl (Ae 0 rfl) h3 Fl.int.to T3 rfl).q) (fun a w hF hW => ?_)
       refine Bc tk 3 hF hW fun a w hF hW => ?_
       refine AG hF rfl H (fun hF H => ?_) (fun hF H => ?_)
       ·
        refine vc tk 6 hF hW fun a w hF hW => ?_
        refine Ah ?_
        refine Ak ?_
        refine Az ?_
        iterate 2 refine Ak ?_
        refine Az ?_
        refine Ak ?_
        refine Az ?_
        iterate 2 refine Ak ?_
        refine Az ?_
        refine Ak ?_
        have H := L5 _ H
        have H := L4 _ H
        have H := L3 _ H
        have H := L2 _ H
        have H := L1 _ H
        have H := Option.some.inj H
        subst H
        refine Dz (.inl rfl) hF hW rfl (Ag hF rfl) (Ag hF rfl) ?_
        have hW := hW.nilRow 27 (Rp.slice (Rp.int .i64))
        have hW := hW.sub (M' := []) (Z' := [row (Value.slice none 0 0) 27 (Rp.slice (Rp.int .i64)) ([])]) (List.nil_sublist _) (List.Sublist.cons_cons _ (List.nil_sublist _))
        exact ⟨(Value.slice none 0 0),rfl,hW⟩
       ·
        refine D2 tk 6 hF hW fun a w hF hW => ?_
        obtain ⟨x11,h4,H⟩ := Ad H
        refine ls hF hW rfl ((Ai (r := (Rp.int .i64)) Do hF rfl rfl (Ae 0 rfl) h4).q) (fun a w hF hW => ?_)
        refine ls hF hW rfl ((Af (y := Value.int .i64 x11) (j := 0) (i := x4) hF rfl rfl (Ae 0 rfl) h4 Fl.int.to T3 rfl).q) (fun a w hF hW => ?_)
        refine CK (z := Value.int .i64 0) (cs := [.int .i64 x11]) (Rp.int .i64) ([x11] : List Int) hF hW rfl Do Z3 rfl rfl rfl rfl rfl rfl (Fl.int.repL _ _ ([x11] : List Int)) (fun v10 a w hF hW => ?_)
        obtain ⟨x12,h5,H⟩ := Ad H
        refine BF (r := (Rp.int .i64)) (i := 3) hF hW rfl Do rfl rfl rfl rfl (BU hW 0 rfl) h5 rfl (fun v11 a w hF hW => ?_)
        have hW : Stw ⟨Y,[],w0⟩ [(b1,[.int .i64 p0.1,v1,v2])] [row v11 3 (Rp.int .i64) x12,row v10 3 (Rp.int .i64) ([x11] : List Int),row v9 3 (Rp.int .i64) x9.1,row v5 27 (Rp.slice (Rp.int .i64)) x3] w := hW
        refine vl tk 2 hF hW fun a w hF hW => ?_
        refine An ?_
        refine vn tk 5 hF hW fun a w hF hW => ?_
        refine Aa ?_
        have hW := hW.frontZ (i := 3) rfl rfl
        have hW := hW.sub (M' := [(b1,[.int .i64 p0.1,v1,v2])]) (Z' := [row v5 27 (Rp.slice (Rp.int .i64)) x3,row v11 3 (Rp.int .i64) x12]) (List.Sublist.refl _) (List.Sublist.cons_cons _ (List.Sublist.cons_cons _ (List.nil_sublist _)))
        exact ⟨_,H,(v11),hF.ra rfl,hW⟩
      ·
       refine AE ?_
       iterate 2 refine AQ ?_
       refine AF ?_
       refine Aa ?_
       have hW := hW.frontZ (i := 1) rfl rfl
       have hW := hW.frontZ (i := 1) rfl rfl
       have H := L5 _ H
       exact ⟨_,(v8),H,hF.ra rfl,hW⟩
     rintro a w ⟨x6,v7,hj,hF,hW⟩
     have H := K4 _ hj
     clear hj G4 K4 L4
     refine vc tk 3 hF hW fun a w hF hW => ?_
     have hW := hW.frontZ (i := 1) rfl rfl
     have hW := hW.freeze
     refine CK (z := Value.slice none 0 0) (cs := [v7]) (Rp.slice (Rp.int .i64)) ([x6] : List (List Int)) hF hW rfl Uv eH rfl rfl rfl (Jz rfl (Gd (hW.oneF (k := 0) rfl)) rfl Lx) rfl rfl ⟨[v7],_,rfl,⟨_,rfl,(hW.item (i := 0) rfl)⟩,rfl⟩ (fun v12 a w hF hW => ?_)
     obtain ⟨x13,h6,H⟩ := Ad H
     refine BF (r := (Rp.slice (Rp.int .i64))) (i := 2) hF hW rfl Uv rfl rfl rfl rfl (BU hW 0 rfl) h6 rfl (fun v13 a w hF hW => ?_)
     have hW : Stw ⟨Y,[],w0⟩ [(b1,[.int .i64 p0.1,v1,v2])] [row v13 27 (Rp.slice (Rp.int .i64)) x13,row v12 27 (Rp.slice (Rp.int .i64)) ([x6] : List (List Int)),KB v7 (Rp.int .i64) x6] w := hW
     refine vl tk 2 hF hW fun a w hF hW => ?_
     refine An ?_
     refine Aa ?_
     have hW := hW.sub (M' := [(b1,[.int .i64 p0.1,v1,v2])]) (Z' := [row v13 27 (Rp.slice (Rp.int .i64)) x13]) (List.Sublist.refl _) (List.Sublist.cons_cons _ (List.nil_sublist _))
     exact ⟨_,(v13),H,hF.ra rfl,hW⟩
    rintro a w ⟨x5,v6,hj,hF,hW⟩
    have H := K3 _ hj
    clear hj G3 K3 L3
    refine vc tk 5 hF hW fun a w hF hW => ?_
    refine Aa ?_
    exact ⟨_,H,(v6),hF.ra rfl,hW⟩
   ·
    refine AE ?_
    iterate 2 refine AQ ?_
    refine AF ?_
    refine Aa ?_
    have H := L2 _ H
    exact ⟨_,(v5),H,hF.ra rfl,hW⟩
  rintro a w ⟨x2,v4,hj,hF,hW⟩
  have H := K1 _ hj
  clear hj G1 K1 L1
  refine vc tk 7 hF hW fun a w hF hW => ?_
  refine Ah ?_
  have H := Option.some.inj H
  subst H
  refine Dz (.inl rfl) hF hW rfl (Ag hF rfl) (Ag hF rfl) ?_
  have hW := hW.sub (M' := []) (Z' := [row v4 27 (Rp.slice (Rp.int .i64)) x2]) (List.nil_sublist _) (List.Sublist.refl _)
  exact ⟨(v4),rfl,hW⟩
theorem hU : Has Tryz.prog 29 := Bj Tryz.func29
def DG (p0 : (Int × (List (Int × Int × Int × Int × Int × Int)) × (List (Int × Int))) × List (List Int) × List Int × Int × Int × Int × Int × Int × Int) : Int → Option (Int ⊕ (Unit ⊕ (List (List (List Int)) × Bool)))
  | x4 => (if x4 < (p0.2.2.1.length : Int) then ((ix p0.2.2.1 x4).bind fun x6 => (if x6 < (-1048576) then some true else (ix p0.2.2.1 x4).bind fun x7 => some (decide (1048576 < x7)))).bind fun x5 => (if x5 = true then some (.inr (.inr (([] : List (List (List Int))),false))) else some (.inl (w64 (x4 + 1)))) else some (.inr (.inl ())))
def C3 (p0 : (Int × (List (Int × Int × Int × Int × Int × Int)) × (List (Int × Int))) × List (List Int) × List Int × Int × Int × Int × Int × Int × Int) : (List (List (List Int)) × Int) → Option ((List (List (List Int)) × Int) ⊕ ((List (List (List Int))) ⊕ (List (List (List Int)) × Bool)))
  | (x9,x10) => (if x10 < (p0.2.1.length : Int) then (ix p0.2.1 x10).bind fun x11 => (Ed p0.1 x11).bind fun x12 => (if x12.2 ≠ 0 then some (.inr (.inr (([] : List (List (List Int))),false))) else (app x9 ([x12.1] : List (List (List Int)))).bind fun x13 => some (.inl (x13,w64 (x10 + 1)))) else some (.inr (.inl x9)))
def DL (p0 : (Int × (List (Int × Int × Int × Int × Int × Int)) × (List (Int × Int))) × List (List Int) × List Int × Int × Int × Int × Int × Int × Int) : Option (List (List (List Int)) × Bool) := ((Fi p0.1).bind fun x2 => (if (!x2) = true then some true else (F8 p0.1).bind fun x3 => (if (!x3) = true then some true else (if (p0.2.1.length : Int) < 1 then some true else (if 16 < (p0.2.1.length : Int) then some true else (if (p0.2.2.1.length : Int) ≠ p0.1.1 then some true else (if p0.2.2.2.1 < 0 then some true else (if 500 < p0.2.2.2.1 then some true else (if p0.2.2.2.2.1 < (p0.1.2.2.length : Int) then some true else some (decide (64 < p0.2.2.2.2.1))))))))))).bind fun x1 => (if x1 = true then some (([] : List (List (List Int))),false) else (if (decide (p0.2.2.2.2.2.1 < 0) || (decide (65536 < p0.2.2.2.2.2.1) || (decide (p0.2.2.2.2.2.2.1 < 0) || (decide (65536 < p0.2.2.2.2.2.2.1) || (decide (p0.2.2.2.2.2.2.2.1 < 0) || (decide (65536 < p0.2.2.2.2.2.2.2.1) || (decide (p0.2.2.2.2.2.2.2.2 < 1) || decide (65536 < p0.2.2.2.2.2.2.2.2)))))))) = true then some (([] : List (List (List Int))),false) else GU (Am (DG p0) 0) fun _ => GU (Am (C3 p0) ([],0)) fun x8 => some (x8,true)))
theorem OH (Y : Nat → Prop) (w0 : World) (v1 : Value) (v2 : Value) (v3 : Value) (v4 : Value) (p0 : (Int × (List (Int × Int × Int × Int × Int × Int)) × (List (Int × Int))) × List (List Int) × List Int × Int × Int × Int × Int × Int × Int) (r : List (List (List Int)) × Bool) (H : DL p0 = some r) (h_v1 : Sl w0 (NX []) B8 v1 p0.1.2.1) (h_v2 : Sl w0 (NX []) Cc v2 p0.1.2.2) (h_v3 : Sl w0 (NX []) (Rp.slice (Rp.int .u64)) v3 p0.2.1) (h_v4 : Sl w0 (NX []) (Rp.int .i64) v4 p0.2.2.1) :
    Calls Tryz.prog 7 #[.agg #[.int .i64 p0.1.1,v1,v2,v3,v4,.int .i64 p0.2.2.2.1,.int .i64 p0.2.2.2.2.1,.int .i64 p0.2.2.2.2.2.1,.int .i64 p0.2.2.2.2.2.2.1,.int .i64 p0.2.2.2.2.2.2.2.1,.int .i64 p0.2.2.2.2.2.2.2.2]] w0 fun e w' => ∃ x : Value,e = .returned (.tuple #[x,.bool r.2]) ∧ Stw ⟨Y,[],w0⟩ [] [row (x) 39 (Rp.slice (Rp.slice (Rp.int .i64))) r.1] w' := by
 refine enter Tryz.func7 rfl Tryz.ntmps7 rfl (fun a hF => ?_)
 have hW := Stw.start Y w0
 obtain ⟨v5,h1,h_v3⟩ := h_v3.ex HW
 unfold DL at H
 refine vc tk 2 hF hW fun a w hF hW => ?_
 refine Cv (cs := [.int .i64 p0.1.1,v1,v2,v3,v4,.int .i64 p0.2.2.2.1,.int .i64 p0.2.2.2.2.1,.int .i64 p0.2.2.2.2.2.1,.int .i64 p0.2.2.2.2.2.2.1,.int .i64 p0.2.2.2.2.2.2.2.1,.int .i64 p0.2.2.2.2.2.2.2.2]) hF hW rfl rfl rfl (fun b1 a w hF hW => ?_)
 refine Bc tk 5 hF hW fun a w hF hW => ?_
 obtain ⟨o1,G1,K1⟩ := Ad H
 refine Aj (fun a w => ∃ x1 : Bool,some (x1) = some o1 ∧ Fr 148 [] [(1,.pointer (some ⟨b1,0,none⟩)),(2,.slice none 0 0),(3,.bool false),(63,.bool x1)] a ∧ Stw ⟨Y,[],w0⟩ [(b1,[.int .i64 p0.1.1,v1,v2,v3,v4,.int .i64 p0.2.2.2.1,.int .i64 p0.2.2.2.2.1,.int .i64 p0.2.2.2.2.2.1,.int .i64 p0.2.2.2.2.2.2.1,.int .i64 p0.2.2.2.2.2.2.2.1,.int .i64 p0.2.2.2.2.2.2.2.2])] [] w) ?_ ?_
 ·
  have H := G1
  clear G1 K1
  refine D7 tk 3 [0] hF hW (ai fun a w hF hW => ?_)
  obtain ⟨x2,h2,H⟩ := Ad H
  refine ls hF hW rfl (Av (v := Value.bool x2) hF eC rfl (fun w hW => JR any w (v1) (v2) p0.1 _ h2 (D3 (Ab h_v1) hW) (D3 (Ab h_v2) hW))) (fun a w hF hW => ?_)
  refine vl tk 2 hF hW fun a w hF hW => ?_
  rcases bxq (!x2) with hb | hb
  ·
   have H := BP hb H
   rw [hb] at hF
   clear hb
   refine vl tk 51 hF hW fun a w hF hW => ?_
   refine Aa ?_
   exact ⟨_,H,hF.ra rfl,hW⟩
  ·
   have H := BQ (by rw [hb]; decide) H
   rw [hb] at hF
   clear hb
   refine Eb tk 2 [0] hF hW (ai fun a w hF hW => ?_)
   refine Fq (Ac hF rfl rfl rfl rfl) ?_
   obtain ⟨x3,h3,H⟩ := Ad H
   refine ls hF hW rfl (Av (v := Value.bool x3) hF hO rfl (fun w hW => N6 any w (v1) (v2) p0.1 _ h3 (D3 (Ab h_v1) hW) (D3 (Ab h_v2) hW))) (fun a w hF hW => ?_)
   refine vl tk 3 hF hW fun a w hF hW => ?_
   rcases bxq (!x3) with hb | hb
   ·
    have H := BP hb H
    rw [hb] at hF
    clear hb
    refine vl tk 45 hF hW fun a w hF hW => ?_
    refine Aa ?_
    exact ⟨_,H,hF.ra rfl,hW⟩
   ·
    have H := BQ (by rw [hb]; decide) H
    rw [hb] at hF
    clear hb
    refine Eb tk 2 [0] hF hW (ai fun a w hF hW => ?_)
    refine BC hF hW (Ac hF rfl rfl rfl rfl) rfl (ze rfl) ((AK (r := (Rp.slice (Rp.int .u64))) (l := p0.2.1) Pi rfl hF rfl (Ch HW h1 (Ab h_v3))).q) (fun a w hF hW => ?_)
    refine vl tk 3 hF hW fun a w hF hW => ?_
    rcases bxq (decide ((p0.2.1.length : Int) < 1)) with hb | hb
    ·
     have H := BP (of_decide_eq_true hb) H
     rw [hb] at hF
     clear hb
     refine vl tk 39 hF hW fun a w hF hW => ?_
     refine Aa ?_
     exact ⟨_,H,hF.ra rfl,hW⟩
    ·
     have H := BQ (of_decide_eq_false hb) H
     rw [hb] at hF
     clear hb
     refine Eb tk 2 [0] hF hW (ai fun a w hF hW => ?_)
     refine BC hF hW (Ac hF rfl rfl rfl rfl) rfl (ze rfl) ((AK (r := (Rp.slice (Rp.int .u64))) (l := p0.2.1) Pi rfl hF rfl (Ch HW h1 (Ab h_v3))).q) (fun a w hF hW => ?_)
     refine vl tk 3 hF hW fun a w hF hW => ?_
     rcases bxq (decide (16 < (p0.2.1.length : Int))) with hb | hb
     ·
      have H := BP (of_decide_eq_true hb) H
      rw [hb] at hF
      clear hb
      refine vl tk 33 hF hW fun a w hF hW => ?_
      refine Aa ?_
      exact ⟨_,H,hF.ra rfl,hW⟩
     ·
      have H := BQ (of_decide_eq_false hb) H
      rw [hb] at hF
      clear hb
      refine Eb tk 2 [0] hF hW (ai fun a w hF hW => ?_)
      refine BC hF hW (Ac hF rfl rfl rfl rfl) rfl (ze rfl) ((AK (r := (Rp.int .i64)) (l := p0.2.2.1) GG rfl hF rfl (Ab h_v4)).q) (fun a w hF hW => ?_)
      refine Eb tk 6 [0] hF hW (ai fun a w hF hW => ?_)
      rcases bxq (decide ((p0.2.2.1.length : Int) ≠ p0.1.1)) with hb | hb
      ·
       have H := BP (of_decide_eq_true hb) H
       rw [hb] at hF
       clear hb
       refine vl tk 24 hF hW fun a w hF hW => ?_
       refine Aa ?_
       exact ⟨_,H,hF.ra rfl,hW⟩
      ·
       have H := BQ (of_decide_eq_false hb) H
       rw [hb] at hF
       clear hb
       refine Eb tk 5 [0] hF hW (ai fun a w hF hW => ?_)
       rcases bxq (decide (p0.2.2.2.1 < 0)) with hb | hb
       ·
        have H := BP (of_decide_eq_true hb) H
        rw [hb] at hF
        clear hb
        refine vl tk 19 hF hW fun a w hF hW => ?_
        refine Aa ?_
        exact ⟨_,H,hF.ra rfl,hW⟩
       ·
        have H := BQ (of_decide_eq_false hb) H
        rw [hb] at hF
        clear hb
        refine Eb tk 5 [0] hF hW (ai fun a w hF hW => ?_)
        rcases bxq (decide (500 < p0.2.2.2.1)) with hb | hb
        ·
         have H := BP (of_decide_eq_true hb) H
         rw [hb] at hF
         clear hb
         refine vl tk 14 hF hW fun a w hF hW => ?_
         refine Aa ?_
         exact ⟨_,H,hF.ra rfl,hW⟩
        ·
         have H := BQ (of_decide_eq_false hb) H
         rw [hb] at hF
         clear hb
         refine Eb tk 5 [0,0] hF hW (ai (ai fun a w hF hW => ?_))
         refine BC hF hW (Ac hF rfl rfl rfl rfl) rfl (ze rfl) ((AK (r := Cc) (l := p0.1.2.2) JG rfl hF rfl (Ab h_v2)).q) (fun a w hF hW => ?_)
         refine vl tk 3 hF hW fun a w hF hW => ?_
         rcases bxq (decide (p0.2.2.2.2.1 < (p0.1.2.2.length : Int))) with hb | hb
         ·
          have H := BP (of_decide_eq_true hb) H
          rw [hb] at hF
          clear hb
          refine vl tk 5 hF hW fun a w hF hW => ?_
          refine Aa ?_
          exact ⟨_,H,hF.ra rfl,hW⟩
         ·
          have H := BQ (of_decide_eq_false hb) H
          rw [hb] at hF
          clear hb
          refine Eb tk 5 [0] hF hW (ai fun a w hF hW => ?_)
          refine Aa ?_
          exact ⟨_,H,hF.ra rfl,hW⟩
 rintro a w ⟨x1,hj,hF,hW⟩
 have hj := Option.some.inj hj
 subst hj
 have H := K1
 clear G1 K1
 refine BA hF rfl H (fun hF H => ?_) (fun hF H => ?_)
 ·
  refine vc tk 6 hF hW fun a w hF hW => ?_
  refine Ah ?_
  refine Ak ?_
  have H := Option.some.inj H
  subst H
  refine Dz (.inl rfl) hF hW rfl (Ag hF rfl) (Ag hF rfl) ?_
  have hW := hW.nilRow 39 (Rp.slice (Rp.slice (Rp.int .i64)))
  have hW := hW.sub (M' := []) (Z' := [row (Value.slice none 0 0) 39 (Rp.slice (Rp.slice (Rp.int .i64))) ([])]) (List.nil_sublist _) (List.Sublist.refl _)
  exact ⟨(Value.slice none 0 0),rfl,hW⟩
 ·
  refine D2 tk 3 hF hW fun a w hF hW => ?_
  refine Aj (fun a w => Fr 148 [] [(1,.pointer (some ⟨b1,0,none⟩)),(2,.slice none 0 0),(3,.bool false),(101,.bool (decide (p0.2.2.2.2.2.1 < 0) || (decide (65536 < p0.2.2.2.2.2.1) || (decide (p0.2.2.2.2.2.2.1 < 0) || (decide (65536 < p0.2.2.2.2.2.2.1) || (decide (p0.2.2.2.2.2.2.2.1 < 0) || (decide (65536 < p0.2.2.2.2.2.2.2.1) || (decide (p0.2.2.2.2.2.2.2.2 < 1) || decide (65536 < p0.2.2.2.2.2.2.2.2)))))))))] a ∧ Stw ⟨Y,[],w0⟩ [(b1,[.int .i64 p0.1.1,v1,v2,v3,v4,.int .i64 p0.2.2.2.1,.int .i64 p0.2.2.2.2.1,.int .i64 p0.2.2.2.2.2.1,.int .i64 p0.2.2.2.2.2.2.1,.int .i64 p0.2.2.2.2.2.2.2.1,.int .i64 p0.2.2.2.2.2.2.2.2])] [] w) ?_ ?_
  ·
   refine D7 tk 5 [0] hF hW (ai fun a w hF hW => ?_)
   rcases bxq (decide (p0.2.2.2.2.2.1 < 0)) with hb0 | hb0
   ·
    rw [hb0] at hF
    refine vl tk 35 hF hW fun a w hF hW => ?_
    refine Aa ?_
    exact ⟨hF.re ⟨rfl,rfl,rfl,(Di (by try rw [hb0]; all_goals simp only [Dl])),trivial⟩,hW⟩
   ·
    rw [hb0] at hF
    refine Eb tk 5 [0] hF hW (ai fun a w hF hW => ?_)
    rcases bxq (decide (65536 < p0.2.2.2.2.2.1)) with hb1 | hb1
    ·
     rw [hb1] at hF
     refine vl tk 30 hF hW fun a w hF hW => ?_
     refine Aa ?_
     exact ⟨hF.re ⟨rfl,rfl,rfl,(Di (by try rw [hb1]; try rw [hb0]; all_goals simp only [Dl])),trivial⟩,hW⟩
    ·
     rw [hb1] at hF
     refine Eb tk 5 [0] hF hW (ai fun a w hF hW => ?_)
     rcases bxq (decide (p0.2.2.2.2.2.2.1 < 0)) with hb2 | hb2
     ·
      rw [hb2] at hF
      refine vl tk 25 hF hW fun a w hF hW => ?_
      refine Aa ?_
      exact ⟨hF.re ⟨rfl,rfl,rfl,(Di (by try rw [hb1]; try rw [hb2]; try rw [hb0]; all_goals simp only [Dl])),trivial⟩,hW⟩
     ·
      rw [hb2] at hF
      refine Eb tk 5 [0] hF hW (ai fun a w hF hW => ?_)
      rcases bxq (decide (65536 < p0.2.2.2.2.2.2.1)) with hb3 | hb3
      ·
       rw [hb3] at hF
       refine vl tk 20 hF hW fun a w hF hW => ?_
       refine Aa ?_
       exact ⟨hF.re ⟨rfl,rfl,rfl,(Di (by try rw [hb3]; try rw [hb1]; try rw [hb2]; try rw [hb0]; all_goals simp only [Dl])),trivial⟩,hW⟩
      ·
       rw [hb3] at hF
       refine Eb tk 5 [0] hF hW (ai fun a w hF hW => ?_)
       rcases bxq (decide (p0.2.2.2.2.2.2.2.1 < 0)) with hb4 | hb4
       ·
        rw [hb4] at hF
        refine vl tk 15 hF hW fun a w hF hW => ?_
        refine Aa ?_
        exact ⟨hF.re ⟨rfl,rfl,rfl,(Di (by try rw [hb3]; try rw [hb1]; try rw [hb4]; try rw [hb2]; try rw [hb0]; all_goals simp only [Dl])),trivial⟩,hW⟩
       ·
        rw [hb4] at hF
        refine Eb tk 5 [0] hF hW (ai fun a w hF hW => ?_)
        rcases bxq (decide (65536 < p0.2.2.2.2.2.2.2.1)) with hb5 | hb5
        ·
         rw [hb5] at hF
         refine vl tk 10 hF hW fun a w hF hW => ?_
         refine Aa ?_
         exact ⟨hF.re ⟨rfl,rfl,rfl,(Di (by try rw [hb5]; try rw [hb3]; try rw [hb1]; try rw [hb4]; try rw [hb2]; try rw [hb0]; all_goals simp only [Dl])),trivial⟩,hW⟩
        ·
         rw [hb5] at hF
         refine Eb tk 5 [0] hF hW (ai fun a w hF hW => ?_)
         rcases bxq (decide (p0.2.2.2.2.2.2.2.2 < 1)) with hb6 | hb6
         ·
          rw [hb6] at hF
          refine vl tk 5 hF hW fun a w hF hW => ?_
          refine Aa ?_
          exact ⟨hF.re ⟨rfl,rfl,rfl,(Di (by try rw [hb5]; try rw [hb3]; try rw [hb1]; try rw [hb4]; try rw [hb6]; try rw [hb2]; try rw [hb0]; all_goals simp only [Dl])),trivial⟩,hW⟩
         ·
          rw [hb6] at hF
          refine Eb tk 5 [0] hF hW (ai fun a w hF hW => ?_)
          refine Aa ?_
          exact ⟨hF.re ⟨rfl,rfl,rfl,(Di (by try rw [hb5]; try rw [hb3]; try rw [hb1]; try rw [hb4]; try rw [hb6]; try rw [hb2]; try rw [hb0]; all_goals simp only [Dl])),trivial⟩,hW⟩
  rintro a w ⟨hF,hW⟩
  refine BA hF rfl H (fun hF H => ?_) (fun hF H => ?_)
  ·
   refine vc tk 6 hF hW fun a w hF hW => ?_
   refine Ah ?_
   refine Ak ?_
   have H := Option.some.inj H
   subst H
   refine Dz (.inl rfl) hF hW rfl (Ag hF rfl) (Ag hF rfl) ?_
   have hW := hW.nilRow 39 (Rp.slice (Rp.slice (Rp.int .i64)))
   have hW := hW.sub (M' := []) (Z' := [row (Value.slice none 0 0) 39 (Rp.slice (Rp.slice (Rp.int .i64))) ([])]) (List.nil_sublist _) (List.Sublist.refl _)
   exact ⟨(Value.slice none 0 0),rfl,hW⟩
  ·
   refine Ay ?_
   refine Aa ?_
   obtain ⟨o2,G2,K2,L2⟩ := KC H
   refine Aj (fun a w => some (Sum.inl ()) = some o2 ∧ Fr 148 [] [(1,.pointer (some ⟨b1,0,none⟩)),(2,.slice none 0 0),(3,.bool false)] a ∧ Stw ⟨Y,[],w0⟩ [(b1,[.int .i64 p0.1.1,v1,v2,v3,v4,.int .i64 p0.2.2.2.1,.int .i64 p0.2.2.2.2.1,.int .i64 p0.2.2.2.2.2.1,.int .i64 p0.2.2.2.2.2.2.1,.int .i64 p0.2.2.2.2.2.2.2.1,.int .i64 p0.2.2.2.2.2.2.2.2])] [] w) ?_ ?_
   ·
    have H := G2
    clear G2 K2
    refine vc tk 6 hF hW fun a w hF hW => ?_
    refine AD H (fun s a w => Fr 148 [] [(1,.pointer (some ⟨b1,0,none⟩)),(2,.slice none 0 0),(3,.bool false),(4,.int .i64 s)] a ∧ Stw ⟨Y,[],w0⟩ [(b1,[.int .i64 p0.1.1,v1,v2,v3,v4,.int .i64 p0.2.2.2.1,.int .i64 p0.2.2.2.2.1,.int .i64 p0.2.2.2.2.2.1,.int .i64 p0.2.2.2.2.2.2.1,.int .i64 p0.2.2.2.2.2.2.2.1,.int .i64 p0.2.2.2.2.2.2.2.2])] [] w) ⟨hF.ra rfl,hW⟩ (fun s o a w H L3 hR => ?_)
    obtain ⟨x4,rfl⟩ : ∃ x,x = s := ⟨s,rfl⟩
    obtain ⟨hF,hW⟩ := hR
    have hF : Fr 148 [] [(1,.pointer (some ⟨b1,0,none⟩)),(2,.slice none 0 0),(3,.bool false),(4,.int .i64 x4)] a := hF
    have hW : Stw ⟨Y,[],w0⟩ [(b1,[.int .i64 p0.1.1,v1,v2,v3,v4,.int .i64 p0.2.2.2.1,.int .i64 p0.2.2.2.2.1,.int .i64 p0.2.2.2.2.2.1,.int .i64 p0.2.2.2.2.2.2.1,.int .i64 p0.2.2.2.2.2.2.2.1,.int .i64 p0.2.2.2.2.2.2.2.2])] [] w := hW
    rw [DG] at H
    refine D7 tk 6 [0] hF hW (ai fun a w hF hW => ?_)
    refine ls hF hW rfl ((AK (r := (Rp.int .i64)) (l := p0.2.2.1) GG rfl hF rfl (Ab h_v4)).q) (fun a w hF hW => ?_)
    refine Bc tk 3 hF hW fun a w hF hW => ?_
    refine AG hF rfl H (fun hF H => ?_) (fun hF H => ?_)
    ·
     refine D2 tk 4 hF hW fun a w hF hW => ?_
     obtain ⟨o4,G4,K4⟩ := Ad H
     refine Aj (fun a w => ∃ x5 : Bool,some (x5) = some o4 ∧ Fr 148 [] [(1,.pointer (some ⟨b1,0,none⟩)),(2,.slice none 0 0),(3,.bool false),(4,.int .i64 x4),(122,.bool x5)] a ∧ Stw ⟨Y,[],w0⟩ [(b1,[.int .i64 p0.1.1,v1,v2,v3,v4,.int .i64 p0.2.2.2.1,.int .i64 p0.2.2.2.2.1,.int .i64 p0.2.2.2.2.2.1,.int .i64 p0.2.2.2.2.2.2.1,.int .i64 p0.2.2.2.2.2.2.2.1,.int .i64 p0.2.2.2.2.2.2.2.2])] [] w) ?_ ?_
     ·
      have H := G4
      clear G4 K4
      refine D7 tk 4 [0] hF hW (ai fun a w hF hW => ?_)
      obtain ⟨x6,h4,H⟩ := Ad H
      refine ls hF hW rfl ((Ai (r := (Rp.int .i64)) Do hF rfl rfl (Ab h_v4) h4).q) (fun a w hF hW => ?_)
      refine ls hF hW rfl ((Af (y := Value.int .i64 x6) (j := 0) (i := x4) hF rfl rfl (Ab h_v4) h4 Fl.int.to T3 rfl).q) (fun a w hF hW => ?_)
      refine vl tk 2 hF hW fun a w hF hW => ?_
      rcases bxq (decide (x6 < (-1048576))) with hb | hb
      ·
       have H := BP (of_decide_eq_true hb) H
       rw [hb] at hF
       clear hb
       refine vl tk 8 hF hW fun a w hF hW => ?_
       refine Aa ?_
       exact ⟨_,H,hF.ra rfl,hW⟩
      ·
       have H := BQ (of_decide_eq_false hb) H
       rw [hb] at hF
       clear hb
       refine Eb tk 3 [0] hF hW (ai fun a w hF hW => ?_)
       obtain ⟨x7,h5,H⟩ := Ad H
       refine BC hF hW (Ac hF rfl rfl rfl rfl) rfl (ze rfl) ((Ai (r := (Rp.int .i64)) Do hF rfl rfl (Ab h_v4) h5).q) (fun a w hF hW => ?_)
       refine BC hF hW (Ac hF rfl rfl rfl rfl) rfl (ze rfl) ((Af (y := Value.int .i64 x7) (j := 0) (i := x4) hF rfl rfl (Ab h_v4) h5 Fl.int.to T3 rfl).q) (fun a w hF hW => ?_)
       refine vl tk 3 hF hW fun a w hF hW => ?_
       refine Aa ?_
       exact ⟨_,H,hF.ra rfl,hW⟩
     rintro a w ⟨x5,hj,hF,hW⟩
     have hj := Option.some.inj hj
     subst hj
     have H := K4
     clear G4 K4
     refine BA hF rfl H (fun hF H => ?_) (fun hF H => ?_)
     ·
      refine vc tk 6 hF hW fun a w hF hW => ?_
      refine Ah ?_
      refine Az ?_
      iterate 2 refine Ak ?_
      refine Az ?_
      refine Ak ?_
      have H := L3 _ H
      have H := L2 _ H
      have H := Option.some.inj H
      subst H
      refine Dz (.inl rfl) hF hW rfl (Ag hF rfl) (Ag hF rfl) ?_
      have hW := hW.nilRow 39 (Rp.slice (Rp.slice (Rp.int .i64)))
      have hW := hW.sub (M' := []) (Z' := [row (Value.slice none 0 0) 39 (Rp.slice (Rp.slice (Rp.int .i64))) ([])]) (List.nil_sublist _) (List.Sublist.refl _)
      exact ⟨(Value.slice none 0 0),rfl,hW⟩
     ·
      refine Ay ?_
      refine An ?_
      refine vn tk 5 hF hW fun a w hF hW => ?_
      refine Aa ?_
      exact ⟨_,H,hF.ra rfl,hW⟩
    ·
     refine AE ?_
     iterate 2 refine AQ ?_
     refine AF ?_
     refine Aa ?_
     have H := L3 _ H
     exact ⟨H,hF.ra rfl,hW⟩
   rintro a w ⟨hj,hF,hW⟩
   have H := K2 _ hj
   clear hj G2 K2 L2
   refine vc tk 5 hF hW fun a w hF hW => ?_
   obtain ⟨o5,G5,K5,L5⟩ := KC H
   refine Aj (fun a w => ∃ x8 : List (List (List Int)), ∃ v6 : Value,some (Sum.inl x8) = some o5 ∧ Fr 148 [] [(2,.slice none 0 0),(3,.bool false),(5,v6)] a ∧ Stw ⟨Y,[],w0⟩ [(b1,[.int .i64 p0.1.1,v1,v2,v3,v4,.int .i64 p0.2.2.2.1,.int .i64 p0.2.2.2.2.1,.int .i64 p0.2.2.2.2.2.1,.int .i64 p0.2.2.2.2.2.2.1,.int .i64 p0.2.2.2.2.2.2.2.1,.int .i64 p0.2.2.2.2.2.2.2.2])] [row v6 39 (Rp.slice (Rp.slice (Rp.int .i64))) x8] w) ?_ ?_
   ·
    have H := G5
    clear G5 K5
    refine vc tk 6 hF hW fun a w hF hW => ?_
    have hW := hW.nilRow 39 (Rp.slice (Rp.slice (Rp.int .i64)))
    refine AD H (fun s a w => ∃ v7 : Value,Fr 148 [] [(1,.pointer (some ⟨b1,0,none⟩)),(2,.slice none 0 0),(3,.bool false),(5,v7),(6,.int .i64 s.2)] a ∧ Stw ⟨Y,[],w0⟩ [(b1,[.int .i64 p0.1.1,v1,v2,v3,v4,.int .i64 p0.2.2.2.1,.int .i64 p0.2.2.2.2.1,.int .i64 p0.2.2.2.2.2.1,.int .i64 p0.2.2.2.2.2.2.1,.int .i64 p0.2.2.2.2.2.2.2.1,.int .i64 p0.2.2.2.2.2.2.2.2])] [row v7 39 (Rp.slice (Rp.slice (Rp.int .i64))) s.1] w) ⟨(Value.slice none 0 0),hF.ra rfl,hW⟩ (fun s o a w H L6 hR => ?_)
    obtain ⟨x9,x10⟩ := s
    obtain ⟨v7,hF,hW⟩ := hR
    have hF : Fr 148 [] [(1,.pointer (some ⟨b1,0,none⟩)),(2,.slice none 0 0),(3,.bool false),(5,v7),(6,.int .i64 x10)] a := hF
    have hW : Stw ⟨Y,[],w0⟩ [(b1,[.int .i64 p0.1.1,v1,v2,v3,v4,.int .i64 p0.2.2.2.1,.int .i64 p0.2.2.2.2.1,.int .i64 p0.2.2.2.2.2.1,.int .i64 p0.2.2.2.2.2.2.1,.int .i64 p0.2.2.2.2.2.2.2.1,.int .i64 p0.2.2.2.2.2.2.2.2])] [row v7 39 (Rp.slice (Rp.slice (Rp.int .i64))) x9] w := hW
    rw [C3] at H
    refine D7 tk 6 [0] hF hW (ai fun a w hF hW => ?_)
    refine ls hF hW rfl ((AK (r := (Rp.slice (Rp.int .u64))) (l := p0.2.1) Pi rfl hF rfl (Ch HW h1 (Ab h_v3))).q) (fun a w hF hW => ?_)
    refine Bc tk 3 hF hW fun a w hF hW => ?_
    refine AG hF rfl H (fun hF H => ?_) (fun hF H => ?_)
    ·
     refine D2 tk 5 hF hW fun a w hF hW => ?_
     obtain ⟨v8,h6,hW⟩ := hW.exR F7
     refine Gp [(true,0),(true,1),(true,2),(true,3),(true,4),(true,5),(true,6),(false,7),(true,8),(true,9),(true,10),(false,11),(false,12)] (CN ⟨Y,[],w0⟩ [(some 7,b1,[.int .i64 p0.1.1,v1,v2,v3,v4,.int .i64 p0.2.2.2.1,.int .i64 p0.2.2.2.2.1,.int .i64 p0.2.2.2.2.2.1,.int .i64 p0.2.2.2.2.2.2.1,.int .i64 p0.2.2.2.2.2.2.2.1,.int .i64 p0.2.2.2.2.2.2.2.2])] []) (fun ch a d v w h => by cases d <;> exact h) MO (by kernel_rfl) hW (fun w hW => ⟨_,_,hW,(all_cons (fun _ => (.head _)) As),As⟩) (fun w hW => ?_)
     refine Cp (R := []) hF rfl rfl (yC fun M Z hN hZ => Au W8 rfl rfl rfl Ww hF rfl 0 rfl) rfl rfl (fun a hF => ?_)
     refine Cp (R := [7]) hF rfl rfl (yC fun M Z hN hZ => Gh (cs := [.int .i64 p0.1.1,v1,v2,v3,v4,.int .i64 p0.2.2.2.1,.int .i64 p0.2.2.2.2.1,.int .i64 p0.2.2.2.2.2.1,.int .i64 p0.2.2.2.2.2.2.1,.int .i64 p0.2.2.2.2.2.2.2.1,.int .i64 p0.2.2.2.2.2.2.2.2]) (v := Value.agg #[.int .i64 p0.1.1,v1,v2]) hF rfl (hN ((some 7),b1,[.int .i64 p0.1.1,v1,v2,v3,v4,.int .i64 p0.2.2.2.1,.int .i64 p0.2.2.2.2.1,.int .i64 p0.2.2.2.2.2.1,.int .i64 p0.2.2.2.2.2.2.1,.int .i64 p0.2.2.2.2.2.2.2.1,.int .i64 p0.2.2.2.2.2.2.2.2]) (.head _) rfl) Ww rfl) (by kernel_rfl) rfl (fun a hF => ?_)
     refine Cp (R := []) hF rfl rfl (yC fun M Z hN hZ => Au W8 rfl rfl rfl fA hF rfl 3 rfl) rfl rfl (fun a hF => ?_)
     refine Cp (R := [7,6,5]) hF rfl rfl (yC fun M Z hN hZ => Gh (cs := [.int .i64 p0.1.1,v1,v2,v3,v4,.int .i64 p0.2.2.2.1,.int .i64 p0.2.2.2.2.1,.int .i64 p0.2.2.2.2.2.1,.int .i64 p0.2.2.2.2.2.2.1,.int .i64 p0.2.2.2.2.2.2.2.1,.int .i64 p0.2.2.2.2.2.2.2.2]) (v := v3) hF rfl (hN ((some 7),b1,[.int .i64 p0.1.1,v1,v2,v3,v4,.int .i64 p0.2.2.2.1,.int .i64 p0.2.2.2.2.1,.int .i64 p0.2.2.2.2.2.1,.int .i64 p0.2.2.2.2.2.2.1,.int .i64 p0.2.2.2.2.2.2.2.1,.int .i64 p0.2.2.2.2.2.2.2.2]) (.head _) rfl) fA rfl) (by kernel_rfl) rfl (fun a hF => ?_)
     refine Cp (R := []) hF rfl rfl (yC fun M Z hN hZ => Al hF rfl) rfl rfl (fun a hF => ?_)
     obtain ⟨x11,h7,H⟩ := Ad H
     obtain ⟨v9,h8,h9⟩ := Dm h1 h7
     have h10 : Qc v9 = [(v9.1)] := congrArg (fun q : List Int => ([(v9.1)] : List Value)) h9
     refine Cp (R := []) hF rfl rfl (yC fun M Z hN hZ => Ai (r := (Rp.vsl (Rp.int .u64))) cN hF rfl rfl (Ab h_v3) h8) rfl rfl (fun a hF => ?_)
     refine Cp (R := []) hF rfl rfl (yC fun M Z hN hZ => Af (y := (v9.1)) (j := 0) (i := x10) (enc := Qc) hF rfl rfl (Ab h_v3) h8 Wh dC (by rw [h10]; rfl)) rfl rfl (fun a hF => ?_)
     refine HD rfl ?_
     obtain ⟨x12,h11,H⟩ := Ad H
     refine A9 (Ml := []) (Zl := []) (β := Value) (rv := fun x => .tuple #[x,.int .i64 x12.2]) (MM := fun x => []) (ZZ := fun x => [row x 27 (Rp.slice (Rp.int .i64)) x12.1]) hF hW hU rfl rfl (fun hL => Na _ w (v1) (v2) ((v9.1)) p0.1 x11 _ h11 ((Ab h_v1) w hW).nx ((Ab h_v2) w hW).nx ((BL (Ab h_v3) h8 AN.here (congrArg (fun q : List Int => q) h9)) w hW).nx) (fun x a w hF hW => ?_)
     obtain ⟨v10,rfl⟩ : ∃ y,y = x := ⟨x,rfl⟩
     have hW : Stw ⟨Y,[],w0⟩ [(b1,[.int .i64 p0.1.1,v1,v2,v3,v4,.int .i64 p0.2.2.2.1,.int .i64 p0.2.2.2.2.1,.int .i64 p0.2.2.2.2.2.1,.int .i64 p0.2.2.2.2.2.2.1,.int .i64 p0.2.2.2.2.2.2.2.1,.int .i64 p0.2.2.2.2.2.2.2.2])] [row v10 27 (Rp.slice (Rp.int .i64)) x12.1,row v7 39 (Rp.vsl (Rp.vsl (Rp.int .i64))) v8] w := hW
     refine CC (N2 := []) (NZ2 := []) (N3 := [(some 7,b1,[.int .i64 p0.1.1,v1,v2,v3,v4,.int .i64 p0.2.2.2.1,.int .i64 p0.2.2.2.2.1,.int .i64 p0.2.2.2.2.2.1,.int .i64 p0.2.2.2.2.2.2.1,.int .i64 p0.2.2.2.2.2.2.2.1,.int .i64 p0.2.2.2.2.2.2.2.2])]) (NZ3 := []) hW rfl rfl (all_cons (fun h => Bl (by kernel_rfl) h) As) As ?_
     refine Cp (R := []) hF rfl rfl (yC fun M Z hN hZ => Al hF rfl) rfl rfl (fun a hF => ?_)
     refine Cp (R := []) hF rfl rfl (yC fun M Z hN hZ => A4 (v := v10) hF rfl rfl) rfl rfl (fun a hF => ?_)
     refine Cp (R := []) hF rfl rfl (yC fun M Z hN hZ => A4 (v := Value.int .i64 x12.2) hF rfl rfl) rfl rfl (fun a hF => ?_)
     refine HD rfl ?_
     refine ls hF hW rfl ((BB hF rfl).q) (fun a w hF hW => ?_)
     refine CC (N2 := []) (NZ2 := []) (N3 := [(some 7,b1,[.int .i64 p0.1.1,v1,v2,v3,v4,.int .i64 p0.2.2.2.1,.int .i64 p0.2.2.2.2.1,.int .i64 p0.2.2.2.2.2.1,.int .i64 p0.2.2.2.2.2.2.1,.int .i64 p0.2.2.2.2.2.2.2.1,.int .i64 p0.2.2.2.2.2.2.2.2])]) (NZ3 := []) hW rfl rfl (all_cons (fun h => Bl (by kernel_rfl) h) As) As ?_
     refine HD rfl ?_
     refine ls hF hW rfl ((BB hF rfl).q) (fun a w hF hW => ?_)
     refine CC (N2 := []) (NZ2 := []) (N3 := [(some 7,b1,[.int .i64 p0.1.1,v1,v2,v3,v4,.int .i64 p0.2.2.2.1,.int .i64 p0.2.2.2.2.1,.int .i64 p0.2.2.2.2.2.1,.int .i64 p0.2.2.2.2.2.2.1,.int .i64 p0.2.2.2.2.2.2.2.1,.int .i64 p0.2.2.2.2.2.2.2.2])]) (NZ3 := []) hW rfl rfl (all_cons (fun h => Bl (by kernel_rfl) h) As) As ?_
     refine JE ?_
     refine vn tk 7 hF hW fun a w hF hW => ?_
     refine AG hF rfl H (fun hF H => ?_) (fun hF H => ?_)
     ·
      refine vc tk 6 hF hW fun a w hF hW => ?_
      refine Ah ?_
      refine Ak ?_
      refine Az ?_
      iterate 2 refine Ak ?_
      refine Az ?_
      refine Ak ?_
      have H := L6 _ H
      have H := L5 _ H
      have H := Option.some.inj H
      subst H
      refine Dz (.inl rfl) hF hW rfl (Ag hF rfl) (Ag hF rfl) ?_
      have hW := hW.nilRow 39 (Rp.slice (Rp.slice (Rp.int .i64)))
      have hW := hW.sub (M' := []) (Z' := [row (Value.slice none 0 0) 39 (Rp.slice (Rp.slice (Rp.int .i64))) ([])]) (List.nil_sublist _) (List.Sublist.cons_cons _ (List.nil_sublist _))
      exact ⟨(Value.slice none 0 0),rfl,hW⟩
     ·
      refine D2 tk 5 hF hW fun a w hF hW => ?_
      have hW := hW.freeze
      refine CK (z := Value.slice none 0 0) (cs := [v10]) (Rp.slice (Rp.slice (Rp.int .i64))) ([x12.1] : List (List (List Int))) hF hW rfl Sm e8 rfl rfl rfl (Jz rfl (Gd (hW.oneF (k := 0) rfl)) rfl Lx) rfl rfl ⟨[v10],_,rfl,⟨_,rfl,(hW.item (i := 0) rfl)⟩,rfl⟩ (fun v11 a w hF hW => ?_)
      have hW := hW.frontZ (i := 2) rfl rfl
      have hW := hW.hideR F7 h6
      obtain ⟨x13,h12,H⟩ := Ad H
      refine BF (r := (Rp.slice (Rp.slice (Rp.int .i64)))) (i := 0) hF hW rfl Sm rfl rfl rfl rfl (BU hW 1 rfl) h12 rfl (fun v12 a w hF hW => ?_)
      have hW : Stw ⟨Y,[],w0⟩ [(b1,[.int .i64 p0.1.1,v1,v2,v3,v4,.int .i64 p0.2.2.2.1,.int .i64 p0.2.2.2.2.1,.int .i64 p0.2.2.2.2.2.1,.int .i64 p0.2.2.2.2.2.2.1,.int .i64 p0.2.2.2.2.2.2.2.1,.int .i64 p0.2.2.2.2.2.2.2.2])] [row v12 39 (Rp.slice (Rp.slice (Rp.int .i64))) x13,row v11 39 (Rp.slice (Rp.slice (Rp.int .i64))) ([x12.1] : List (List (List Int))),KB v10 (Rp.slice (Rp.int .i64)) x12.1] w := hW
      refine vl tk 2 hF hW fun a w hF hW => ?_
      refine An ?_
      refine vn tk 5 hF hW fun a w hF hW => ?_
      refine Aa ?_
      have hW := hW.sub (M' := [(b1,[.int .i64 p0.1.1,v1,v2,v3,v4,.int .i64 p0.2.2.2.1,.int .i64 p0.2.2.2.2.1,.int .i64 p0.2.2.2.2.2.1,.int .i64 p0.2.2.2.2.2.2.1,.int .i64 p0.2.2.2.2.2.2.2.1,.int .i64 p0.2.2.2.2.2.2.2.2])]) (Z' := [row v12 39 (Rp.slice (Rp.slice (Rp.int .i64))) x13]) (List.Sublist.refl _) (List.Sublist.cons_cons _ (List.nil_sublist _))
      exact ⟨_,H,(v12),hF.ra rfl,hW⟩
    ·
     refine AE ?_
     iterate 2 refine AQ ?_
     refine AF ?_
     refine Aa ?_
     have H := L6 _ H
     exact ⟨_,(v7),H,hF.ra rfl,hW⟩
   rintro a w ⟨x8,v6,hj,hF,hW⟩
   have H := K5 _ hj
   clear hj G5 K5 L5
   refine vc tk 7 hF hW fun a w hF hW => ?_
   refine Ah ?_
   have H := Option.some.inj H
   subst H
   refine Dz (.inl rfl) hF hW rfl (Ag hF rfl) (Ag hF rfl) ?_
   have hW := hW.sub (M' := []) (Z' := [row v6 39 (Rp.slice (Rp.slice (Rp.int .i64))) x8]) (List.nil_sublist _) (List.Sublist.refl _)
   exact ⟨(v6),rfl,hW⟩
theorem O5 : type_of% Tryz.underlying40 := Tryz.underlying40
theorem H7 : Has Tryz.prog 7 := Bj Tryz.func7
abbrev Hr (a : Value × List (Value × List Int)) : List Value := [a.1]
theorem OC : Dr (Rp.vsl (Rp.vsl (Rp.int .i64))) Hr := Dr.vsl
theorem Wa : Ty Tryz.prog 39 false 1 := ⟨by kernel_rfl,by kernel_rfl⟩
abbrev KJ (a : Value × List Int) : List Value := [a.1]
theorem Sz : Dr (Rp.vsl (Rp.int .i64)) KJ := Dr.vsl
def Ic  : Unit := ()
theorem Ea (Y : Nat → Prop) (w0 : World)   (r : Unit) (H : Ic  = r)  :
    Calls Tryz.prog 13 #[.pointer none] w0 fun e w' => e = .returned (.int .i64 6) ∧ Below w0.heap.size w0 w' := by
 refine enter Tryz.func13 rfl Tryz.ntmps13 rfl (fun a hF => ?_)
 have hW := Stw.start Y w0
 unfold Ic at H
 refine vc tk 9 hF hW fun a w hF hW => ?_
 refine ls hF hW rfl ((Cm O5 hF rfl rfl).q) (fun a w hF hW => ?_)
 refine Bc tk 8 hF hW fun a w hF hW => ?_
 refine Ah ?_
 refine Ak ?_
 subst H
 refine Aw (.inl rfl) hF hW rfl (Ag hF rfl) ?_
 exact ⟨rfl,hW.done⟩
theorem ZA : Has Tryz.prog 13 := Bj Tryz.func13
def H3 (p1 : Int) (p2 : Int) : Unit := ()
theorem J7 (Y : Nat → Prop) (w0 : World)  (p1 : Int) (p2 : Int) (r : Unit) (H : H3 p1 p2 = r)  :
    Calls Tryz.prog 8 #[.pointer none,.int .i64 p1,.int .i64 p2] w0 fun e w' => e = .returned (.tuple #[]) ∧ Below w0.heap.size w0 w' := by
 refine enter Tryz.func8 rfl Tryz.ntmps8 rfl (fun a hF => ?_)
 have hW := Stw.start Y w0
 unfold H3 at H
 refine vc tk 4 hF hW fun a w hF hW => ?_
 refine ls hF hW rfl (Av (v := Value.int .i64 6) hF ZA rfl (fun w hW => Ea any w _ rfl)) (fun a w hF hW => ?_)
 refine ls hF hW rfl ((IR hF rfl rfl).q) (fun a w hF hW => ?_)
 rw [show decide ((6 : Int) = 6) = true from by decide] at hF
 refine Bc tk 3 hF hW fun a w hF hW => ?_
 refine Ah ?_
 refine Ak ?_
 subst H
 refine GO (.inl rfl) hF rfl ?_
 exact ⟨rfl,hW.done⟩
theorem H8 : Has Tryz.prog 8 := Bj Tryz.func8
def Ig  : Unit := ()
theorem J5 (Y : Nat → Prop) (w0 : World)   (r : Unit) (H : Ig  = r)  :
    Calls Tryz.prog 9 #[.pointer none] w0 fun e w' => e = .returned (.tuple #[]) ∧ Below w0.heap.size w0 w' := by
 refine enter Tryz.func9 rfl Tryz.ntmps9 rfl (fun a hF => ?_)
 have hW := Stw.start Y w0
 unfold Ig at H
 refine vc tk 3 hF hW fun a w hF hW => ?_
 refine ls hF hW rfl ((Ik O5 hF rfl rfl).q) (fun a w hF hW => ?_)
 refine Bc tk 4 hF hW fun a w hF hW => ?_
 subst H
 refine GO (.inr rfl) hF rfl ?_
 exact ⟨rfl,hW.done⟩
theorem H9 : Has Tryz.prog 9 := Bj Tryz.func9
def Ip (p1 : Int) (p2 : Int) : Unit := ()
theorem Ko (Y : Nat → Prop) (w0 : World)  (p1 : Int) (p2 : Int) (r : Unit) (H : Ip p1 p2 = r)  :
    Calls Tryz.prog 10 #[.pointer none,.int .i64 p1,.int .i64 p2] w0 fun e w' => e = .returned (.tuple #[]) ∧ Below w0.heap.size w0 w' := by
 refine enter Tryz.func10 rfl Tryz.ntmps10 rfl (fun a hF => ?_)
 have hW := Stw.start Y w0
 unfold Ip at H
 refine vc tk 4 hF hW fun a w hF hW => ?_
 refine ls hF hW rfl ((Cm O5 hF rfl rfl).q) (fun a w hF hW => ?_)
 refine Bc tk 11 hF hW fun a w hF hW => ?_
 refine Ah ?_
 refine Ak ?_
 subst H
 refine GO (.inl rfl) hF rfl ?_
 exact ⟨rfl,hW.done⟩
theorem gO : Has Tryz.prog 10 := Bj Tryz.func10
theorem fU : Bt Tryz.prog 45 [.int .i64 0,.int .i64 0,.int .i64 0,.int .i64 0,.int .i64 0,.int .i64 0,.int .i64 0,.int .i64 0,.int .i64 0,.slice none 0 0] [(0,1),(1,1),(2,1),(3,1),(4,1),(5,1),(6,1),(7,1),(8,1),(9,1)] := ⟨⟨.agg #[.int .i64 0,.int .i64 0,.int .i64 0,.int .i64 0,.int .i64 0,.int .i64 0,.int .i64 0,.int .i64 0,.int .i64 0,.slice none 0 0],by kernel_rfl,rfl⟩,⟨_,aK,fun w => by kernel_rfl⟩⟩
end
end Go.Proofs.YtbiekjhlijdjbaaGreat
namespace Go.Proofs.YtbiekjhlijdjbaaGreat
set_option maxRecDepth 20000
set_option maxHeartbeats 1600000
theorem T4 : Ty Tryz.prog 4 false 1 := ⟨by kernel_rfl,by kernel_rfl⟩
theorem Zv : type_of% Tryz.underlying4 := Tryz.underlying4
end Go.Proofs.YtbiekjhlijdjbaaGreat
