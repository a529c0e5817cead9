/- The functions of layer 42, ET. Conditions: none. -/
import Derived.Test.YtflaelbmglmmcaaeA6
namespace Go.Proofs.Ytflaelbmglmmcaa
open Go Go.RowKit
set_option linter.unusedVariables false
set_option linter.unusedSimpArgs false
set_option maxRecDepth 20000
noncomputable def DM (p0 : Int × (List (Int × Int × Int × Int × Int × Int)) × (List (Int × Int))) (p1 : List (List Int)) (x2 : Int) : Int → Option (Int ⊕ (Unit ⊕ (Int ⊕ (Unit ⊕ Bool))))
  | x3 => (if x3 < (p0.2.2.length : Int) then (Dn p0 p1 x2 x3).bind fun x4 => (if x4.2 ≠ 0 then some (.inr (.inr (.inr (.inr false)))) else some (.inl (DH (x3 + 1)))) else some (.inr (.inl ())))
noncomputable def Eu (p0 : Int × (List (Int × Int × Int × Int × Int × Int)) × (List (Int × Int))) (p1 : List (List Int)) : Int → Option (Int ⊕ (Unit ⊕ Bool))
  | x2 => (if x2 < (p1.length : Int) then D7 (AQ (DM p0 p1 x2) 0) fun _ => some (.inl (DH (x2 + 1))) else some (.inr (.inl ())))
noncomputable def Fv (p0 : Int × (List (Int × Int × Int × Int × Int × Int)) × (List (Int × Int))) (p1 : List (List Int)) : Option Bool := (EP p0 p1).bind fun x1 => (if (!x1) = true then some false else D7 (AQ (Eu p0 p1) 0) fun _ => some true)
theorem KL (Y : Nat → Prop) (w0 : World) (v1 : Value) (v2 : Value) (v3 : Value) (p0 : Int × (List (Int × Int × Int × Int × Int × Int)) × (List (Int × Int))) (p1 : List (List Int)) (r : Bool) (H : Fv p0 p1 = some r) (h_v1 : Sl w0 (NX []) CS v1 p0.2.1) (h_v2 : Sl w0 (NX []) Ec v2 p0.2.2) (h_v3 : Sl w0 (NX []) (Rp.slice (Rp.int .i64)) v3 p1) :
    Calls Try.prog 21 #[.agg #[.int .i64 p0.1, v1, v2], v3] w0 fun e w' => e = .returned (.bool r) ∧ Below w0.heap.size w0 w' := by
 refine enter Try.func21 Aa Try.ntmps21 Aa fun a F => ?_
 have W := Stw.start Y w0
 obtain ⟨v4, h1, h_v3⟩ := h_v3.ex Dc
 unfold Fv at H
 refine Ai (Ac ?_)
 refine B9 (cs := [.int .i64 p0.1, v1, v2]) F W Aa Aa Aa fun b1 a w F W => ?_
 refine ls F W Aa (Ah F Aa).q fun a w F W => ?_
 refine Ad (Ab (Ai (Ai (Ac ?_))))
 refine ls F W Aa (Al (v := Value.agg #[.int .i64 p0.1, v1, v2]) 0 F Aa Aa G0 Aa).q fun a w F W => ?_
 refine ls F W Aa (Ae F Aa).q fun a w F W => ?_
 obtain ⟨x1, h2, H⟩ := Ao H
 refine ls F W Aa (BI (v := Value.bool x1) F Pi Aa (fun w W => HD any w (v1) (v2) (v3) p0 p1 _ h2 (((Aj h_v1) : CZ _ _ _ _ _ _) w W).nx (((Aj h_v2) : CZ _ _ _ _ _ _) w W).nx (((Bx Dc h1 (Aj h_v3)) : CZ _ _ _ _ _ _) w W).nx)) fun a w F W => ?_
 refine ls F W Aa (EJ F Aa).q fun a w F W => ?_
 refine Ad (Ab ?_)
 refine Ay F Aa (fun hb => ?_) fun hb => ?_
 ·
  have H := AN hb H
  rw [hb] at F
  clear hb
  refine Ai (Ac ?_)
  refine ls F W Aa (Ah F Aa).q fun a w F W => ?_
  refine Ad (Ab (AA (AD ?_)))
  have H := AW H
  subst H
  refine A8 (.inl Aa) F W Aa (Ap F Aa) ?_
  exact ⟨rfl, W.done⟩
 have H := AM (by rw [hb]; decide) H
 rw [hb] at F
 clear hb
 refine Aq (Ab ?_)
 obtain ⟨o1, G1, K1, L1⟩ := IY H
 refine AH (fun a w => some (Sum.inl ()) = some o1 ∧ Fr 36 [] [(4, .bool false)] a ∧ Stw ⟨Y, [], w0⟩ [(b1, [.int .i64 p0.1, v1, v2])] [] w) ?_ ?_
 ·
  have H := G1
  clear G1 K1
  refine Ai (Ac ?_)
  refine ls F W Aa (Ah F Aa).q fun a w F W => ?_
  refine Ad (Ab (Aw ?_))
  refine Bv H (fun s a w => Fr 36 [] [(1, v3), (2, .pointer (some ⟨b1, 0, none⟩)), (4, .bool false), (5, .int .i64 s)] a ∧ Stw ⟨Y, [], w0⟩ [(b1, [.int .i64 p0.1, v1, v2])] [] w) ⟨F.re ⟨rfl, Aa, Aa, Aa, trivial⟩, W⟩ fun s o a w H L2 hR => ?_
  obtain ⟨x2, rfl⟩ : ∃ x, x = s := ⟨s, rfl⟩
  obtain ⟨F, W⟩ := hR
  have F : Fr 36 [] [(1, v3), (2, .pointer (some ⟨b1, 0, none⟩)), (4, .bool false), (5, .int .i64 x2)] a := F
  have W : Stw ⟨Y, [], w0⟩ [(b1, [.int .i64 p0.1, v1, v2])] [] w := W
  rw [Eu] at H
  refine Ai (Ai (Ac ?_))
  iterate 2 refine ls F W Aa (Ae F Aa).q fun a w F W => ?_
  refine ls F W Aa (A7 (r := (Rp.slice (Rp.int .i64))) (l := p1) Ik Aa F Aa (Bx Dc h1 (Aj h_v3))).q fun a w F W => ?_
  refine ls F W Aa (Bq F Aa Aa).q fun a w F W => ?_
  refine Ad (Ab ?_)
  refine Ay F Aa (fun hb => ?_) fun hb => ?_
  ·
   have H := AN (Bf hb) H
   rw [hb] at F
   clear hb
   refine Aq (Ab ?_)
   obtain ⟨o3, G3, K3, L3⟩ := IY H
   refine AH (fun a w => some (Sum.inl ()) = some o3 ∧ Fr 36 [] [(1, v3), (2, .pointer (some ⟨b1, 0, none⟩)), (4, .bool false), (5, .int .i64 x2)] a ∧ Stw ⟨Y, [], w0⟩ [(b1, [.int .i64 p0.1, v1, v2])] [] w) ?_ ?_
   ·
    have H := G3
    clear G3 K3
    refine Aw (Ai (Ac ?_))
    refine ls F W Aa (Ah F Aa).q fun a w F W => ?_
    refine Ad (Ab (Aw ?_))
    refine Bv H (fun s a w => Fr 36 [] [(1, v3), (2, .pointer (some ⟨b1, 0, none⟩)), (4, .bool false), (5, .int .i64 x2), (6, .int .i64 s)] a ∧ Stw ⟨Y, [], w0⟩ [(b1, [.int .i64 p0.1, v1, v2])] [] w) ⟨F.re ⟨rfl, Aa, Aa, Aa, Aa, trivial⟩, W⟩ fun s o a w H L4 hR => ?_
    obtain ⟨x3, rfl⟩ : ∃ x, x = s := ⟨s, rfl⟩
    obtain ⟨F, W⟩ := hR
    have F : Fr 36 [] [(1, v3), (2, .pointer (some ⟨b1, 0, none⟩)), (4, .bool false), (5, .int .i64 x2), (6, .int .i64 x3)] a := F
    have W : Stw ⟨Y, [], w0⟩ [(b1, [.int .i64 p0.1, v1, v2])] [] w := W
    rw [DM] at H
    refine Ai (Ai (Ac ?_))
    refine ls F W Aa (Ae F Aa).q fun a w F W => ?_
    refine ls F W Aa (Ag CJ Aa Aa Aa FW F Aa 2 Aa).q fun a w F W => ?_
    refine ls F W Aa (Al (v := v2) 0 F Aa Aa FW Aa).q fun a w F W => ?_
    refine ls F W Aa (A7 (r := Ec) (l := p0.2.2) GW Aa F Aa (Aj h_v2)).q fun a w F W => ?_
    refine ls F W Aa (Bq F Aa Aa).q fun a w F W => ?_
    refine Ad (Ab ?_)
    refine Ay F Aa (fun hb => ?_) fun hb => ?_
    ·
     have H := AN (Bf hb) H
     rw [hb] at F
     clear hb
     refine Aq (Ab (Ai (Aw (Ai (Ac ?_)))))
     refine ls F W Aa (Al (v := Value.agg #[.int .i64 p0.1, v1, v2]) 0 F Aa Aa G0 Aa).q fun a w F W => ?_
     iterate 3 refine ls F W Aa (Ae F Aa).q fun a w F W => ?_
     obtain ⟨x4, h3, H⟩ := Ao H
     refine Cf (Ml := []) (Zl := []) (M := [(b1, [.int .i64 p0.1, v1, v2])]) (Z := []) (β := Value) (rv := fun x => .tuple #[x, .int .i64 x4.2]) (MM := fun x => []) (ZZ := fun x => [row x 3 (Rp.int .i64) x4.1]) F W Pf Aa Aa (fun hL => Ip _ w (v1) (v2) (v3) p0 p1 x2 x3 _ h3 ((Aj h_v1) w W).nx ((Aj h_v2) w W).nx ((Bx Dc h1 (Aj h_v3)) w W).nx) fun x a w F W => ?_
     obtain ⟨v5, rfl⟩ : ∃ y, y = x := ⟨x, rfl⟩
     have W : Stw ⟨Y, [], w0⟩ [(b1, [.int .i64 p0.1, v1, v2])] [row v5 3 (Rp.int .i64) x4.1] w := W
     refine ls F W Aa (Ae F Aa).q fun a w F W => ?_
     refine ls F W Aa (AZ (v := v5) F Aa Aa).q fun a w F W => ?_
     refine ls F W Aa (AZ (v := Value.int .i64 x4.2) F Aa Aa).q fun a w F W => ?_
     iterate 2 refine ls F W Aa (Ah F Aa).q fun a w F W => ?_
     refine Ad (Ab (Ai (Ac ?_)))
     refine ls F W Aa (Ae F Aa).q fun a w F W => ?_
     refine ls F W Aa (Fd F Aa Aa).q fun a w F W => ?_
     refine Ad (Ab ?_)
     refine Ay F Aa (fun hb => ?_) fun hb => ?_
     ·
      have H := AN (Bf hb) H
      rw [hb] at F
      clear hb
      refine Ai (Ac ?_)
      refine ls F W Aa (Ah F Aa).q fun a w F W => ?_
      refine Ad (Ab (AA (AF ?_)))
      iterate 2 refine AD ?_
      iterate 2 refine AF ?_
      iterate 2 refine AD ?_
      refine AF (AD ?_)
      have H := L4 _ H
      have H := L3 _ H
      have H := L2 _ H
      have H := L1 _ H
      have H := AW H
      subst H
      refine A8 (.inl Aa) F W Aa (Ap F Aa) ?_
      exact ⟨rfl, W.done⟩
     have H := AM (Bg hb) H
     rw [hb] at F
     clear hb
     refine Aq (AK (Ab (Ac ?_)))
     refine ls F W Aa (Ae F Aa).q fun a w F W => ?_
     refine ls F W Aa (Cq F Aa Aa Aa).q fun a w F W => ?_
     refine ls F W Aa (Ah F Aa).q fun a w F W => ?_
     refine Ad (Ab ?_)
     have W := W.sub (M' := [(b1, [.int .i64 p0.1, v1, v2])]) (Z' := []) (List.Sublist.refl _) (List.nil_sublist _)
     exact ⟨_, H, F.re ⟨rfl, Aa, Aa, Aa, Aa, trivial⟩, W⟩
    have H := AM (Bg hb) H
    rw [hb] at F
    clear hb
    refine Bk ?_
    iterate 2 refine BJ ?_
    refine Bl (AK (Ab ?_))
    have H := L4 _ H
    exact ⟨H, F.re ⟨rfl, Aa, Aa, Aa, trivial⟩, W⟩
   rintro a w ⟨hj, F, W⟩
   have H := K3 _ hj
   clear hj G3 K3 L3
   refine Ac ?_
   refine ls F W Aa (Ae F Aa).q fun a w F W => ?_
   refine ls F W Aa (Cq F Aa Aa Aa).q fun a w F W => ?_
   refine ls F W Aa (Ah F Aa).q fun a w F W => ?_
   refine Ad (Ab ?_)
   exact ⟨_, H, F.re ⟨rfl, Aa, Aa, Aa, trivial⟩, W⟩
  have H := AM (Bg hb) H
  rw [hb] at F
  clear hb
  refine Bk ?_
  iterate 2 refine BJ ?_
  refine Bl (Ab ?_)
  have H := L2 _ H
  exact ⟨H, F.re ⟨rfl, trivial⟩, W⟩
 rintro a w ⟨hj, F, W⟩
 have H := K1 _ hj
 clear hj G1 K1 L1
 refine Ai (Ac ?_)
 refine ls F W Aa (Ah F Aa).q fun a w F W => ?_
 refine Ad (Ab (AA ?_))
 have H := AW H
 subst H
 refine A8 (.inl Aa) F W Aa (Ap F Aa) ?_
 exact ⟨rfl, W.done⟩
end Go.Proofs.Ytflaelbmglmmcaa
