/- The functions of layer 30, JA. Conditions: none. -/
import Derived.Test.YtgoifghhcekahaaGreatDoorbA2
namespace Go.Proofs.YtgoifghhcekahaaGreatDoor
noncomputable section
open Go Go.RowKit
set_option linter.unusedVariables false
set_option linter.unusedSimpArgs false
set_option maxRecDepth 20000
theorem Xu : Has Tryz.prog 114 := ⟨fun args w => Aj Tryz.func114 rfl (by decide) args w⟩
def Cd (p0 : List Int) (p1 : Int) (p2 : Int) (p3 : Int) : Option (Int × Int × Int) := (ix p0 p2).bind fun x1 => (ix p0 p1).bind fun x2 => (if (AX x1 x2) = true then some (p2, p1, AG (p3 + 1)) else some (p1, p2, p3))
theorem E9 (Y : Nat → Prop) (X : List Nat) (w0 : World) (v1 : Value) (q_p3 : Nat) (p0 : List Int) (p1 : Int) (p2 : Int) (p3 : Int) (r : Int × Int × Int) (H : Cd p0 p1 p2 p3 = some r) (h_v1 : Sl w0 (NX X) (Rp.int .i64) v1 p0) (hL : Stw ⟨Y, X, w0⟩ [(q_p3, [.int .i64 p3])] [] w0) :
    Calls Tryz.prog 156 #[v1, .int .i64 p1, .int .i64 p2, .pointer (some ⟨q_p3, 0, none⟩)] w0 fun e w' => ∃ x : Unit, e = .returned (.tuple #[.int .i64 r.1, .int .i64 r.2.1]) ∧ Stw ⟨Y, X, w0⟩ [(q_p3, [.int .i64 r.2.2])] [] w' := by
 refine enter Tryz.func156 Aa Tryz.ntmps156 Aa fun a F => ?_
 have W := hL
 unfold Cd at H
 refine Ah (Ab ?_)
 iterate 2 refine ls F W Aa (Ae F Aa).q fun a w F W => ?_
 refine Ad (Ac ?_)
 iterate 2 refine Ah ?_
 refine CK W MO (by kernel_rfl) ?_
 iterate 2 refine qs F Aa (Ag F Aa).q fun a F => ?_
 obtain ⟨x1, h1, H⟩ := Am H
 refine qs F Aa (AM (r := (Rp.int .i64)) EF F Aa Aa (Aq h_v1) h1).q fun a F => ?_
 refine qs F Aa (AA (y := Value.int .i64 x1) (j := 0) (i := p2) F Aa Aa (Aq h_v1) h1 Fl.int.to T3 Aa).q fun a F => ?_
 iterate 2 refine qs F Aa (Ag F Aa).q fun a F => ?_
 obtain ⟨x2, h2, H⟩ := Am H
 refine qs F Aa (AM (r := (Rp.int .i64)) EF F Aa Aa (Aq h_v1) h2).q fun a F => ?_
 refine qs F Aa (AA (y := Value.int .i64 x2) (j := 0) (i := p1) F Aa Aa (Aq h_v1) h2 Fl.int.to T3 Aa).q fun a F => ?_
 refine qs F Aa (A3 (v := Value.bool (AX x1 x2)) F NI Aa (fun w W => CG any w x1 x2 _ Aa)) fun a F => ?_
 refine A9 fun w W => ?_
 refine Ac ?_
 refine Aw F Aa (fun hb => ?_) fun hb => ?_
 ·
  have H := AV hb H
  rw [hb] at F
  refine Ah (Ab ?_)
  refine ls F W Aa (Ag F Aa).q fun a w F W => ?_
  refine ls F W Aa (CI F Aa).q fun a w F W => ?_
  refine ls F W Aa (Ao (v := Value.int .i64 p3) 0 F Aa Aa T3 Aa).q fun a w F W => ?_
  refine ls F W Aa (BL F Aa Aa Aa).q fun a w F W => ?_
  refine ls F W Aa (CI F Aa).q fun a w F W => ?_
  refine Be (vs := [.int .i64 (AG (p3 + 1))]) (M' := [(q_p3, [.int .i64 (AG (p3 + 1))])]) 0 F W Aa Aa Aa T3 Aa Aa Aa Aa Aa fun w W => ?_
  refine Ad (Ac (Ah (Ab ?_)))
  iterate 2 refine ls F W Aa (Ag F Aa).q fun a w F W => ?_
  iterate 2 refine ls F W Aa (Ae F Aa).q fun a w F W => ?_
  refine Ad (Ac (Av (AN ?_)))
  have H := AP H
  subst H
  refine Pm (.inl Aa) F W Aa (AB F Aa) (AB F Aa) ?_
  exact ⟨(), Aa, W⟩
 have H := AR (by rw [hb]; decide) H
 rw [hb] at F
 refine Ay (Ac (Ah (Ab ?_)))
 iterate 2 refine ls F W Aa (Ag F Aa).q fun a w F W => ?_
 iterate 2 refine ls F W Aa (Ae F Aa).q fun a w F W => ?_
 refine Ad (Ac (Av ?_))
 have H := AP H
 subst H
 refine Pm (.inl Aa) F W Aa (AB F Aa) (AB F Aa) ?_
 exact ⟨(), Aa, W⟩
theorem VR : Has Tryz.prog 156 := ⟨fun args w => Aj Tryz.func156 rfl (by decide) args w⟩
def Ce (p0 : List Int) (p1 : Int) (p2 : Int) (p3 : Int) (p4 : Int) : Option (Int × Int) := (Cd p0 p1 p2 p4).bind fun x1 => (Cd p0 x1.2.1 p3 x1.2.2).bind fun x2 => (Cd p0 x1.1 x2.1 x2.2.2).bind fun x3 => some (x3.2.1, x3.2.2)
theorem GN (Y : Nat → Prop) (X : List Nat) (w0 : World) (v1 : Value) (q_p4 : Nat) (p0 : List Int) (p1 : Int) (p2 : Int) (p3 : Int) (p4 : Int) (r : Int × Int) (H : Ce p0 p1 p2 p3 p4 = some r) (h_v1 : Sl w0 (NX X) (Rp.int .i64) v1 p0) (hL : Stw ⟨Y, X, w0⟩ [(q_p4, [.int .i64 p4])] [] w0) :
    Calls Tryz.prog 143 #[v1, .int .i64 p1, .int .i64 p2, .int .i64 p3, .pointer (some ⟨q_p4, 0, none⟩)] w0 fun e w' => ∃ x : Unit, e = .returned (.int .i64 r.1) ∧ Stw ⟨Y, X, w0⟩ [(q_p4, [.int .i64 r.2])] [] w' := by
 refine enter Tryz.func143 Aa Tryz.ntmps143 Aa fun a F => ?_
 have W := hL
 unfold Ce at H
 refine Ah (Ab ?_)
 refine ls F W Aa (Ae F Aa).q fun a w F W => ?_
 refine Ad (Ac (Ah (Ab ?_)))
 iterate 4 refine ls F W Aa (Ag F Aa).q fun a w F W => ?_
 obtain ⟨x1, h1, H⟩ := Am H
 refine Bj (Ml := [(q_p4, [.int .i64 p4])]) (Zl := []) (M := []) (Z := []) (β := Unit) (rv := fun x => .tuple #[.int .i64 x1.1, .int .i64 x1.2.1]) (MM := fun x => [(q_p4, [.int .i64 x1.2.2])]) (ZZ := fun x => []) F W VR Aa Aa (fun hL => E9 _ _ w (v1) q_p4 p0 p1 p2 p4 _ h1 (W.roX h_v1 (fun g hg => GI hg)) hL) fun x a w F W => ?_
 have W : Stw ⟨Y, X, w0⟩ [(q_p4, [.int .i64 x1.2.2])] [] w := W
 refine ls F W Aa (Ag F Aa).q fun a w F W => ?_
 refine ls F W Aa (Ff (v := Value.int .i64 x1.1) F Aa Aa).q fun a w F W => ?_
 refine ls F W Aa (Ff (v := Value.int .i64 x1.2.1) F Aa Aa).q fun a w F W => ?_
 iterate 2 refine ls F W Aa (Ae F Aa).q fun a w F W => ?_
 refine Ad (Ac (Ah (Ab ?_)))
 iterate 4 refine ls F W Aa (Ag F Aa).q fun a w F W => ?_
 obtain ⟨x2, h2, H⟩ := Am H
 refine Bj (Ml := [(q_p4, [.int .i64 x1.2.2])]) (Zl := []) (M := []) (Z := []) (β := Unit) (rv := fun x => .tuple #[.int .i64 x2.1, .int .i64 x2.2.1]) (MM := fun x => [(q_p4, [.int .i64 x2.2.2])]) (ZZ := fun x => []) F W VR Aa Aa (fun hL => E9 _ _ w (v1) q_p4 p0 x1.2.1 p3 x1.2.2 _ h2 (W.roX h_v1 (fun g hg => GI hg)) hL) fun x a w F W => ?_
 have W : Stw ⟨Y, X, w0⟩ [(q_p4, [.int .i64 x2.2.2])] [] w := W
 refine ls F W Aa (Ag F Aa).q fun a w F W => ?_
 refine ls F W Aa (Ff (v := Value.int .i64 x2.1) F Aa Aa).q fun a w F W => ?_
 refine ls F W Aa (Ff (v := Value.int .i64 x2.2.1) F Aa Aa).q fun a w F W => ?_
 iterate 2 refine ls F W Aa (Ae F Aa).q fun a w F W => ?_
 refine Ad (Ac (Ah (Ab ?_)))
 iterate 4 refine ls F W Aa (Ag F Aa).q fun a w F W => ?_
 obtain ⟨x3, h3, H⟩ := Am H
 refine Bj (Ml := [(q_p4, [.int .i64 x2.2.2])]) (Zl := []) (M := []) (Z := []) (β := Unit) (rv := fun x => .tuple #[.int .i64 x3.1, .int .i64 x3.2.1]) (MM := fun x => [(q_p4, [.int .i64 x3.2.2])]) (ZZ := fun x => []) F W VR Aa Aa (fun hL => E9 _ _ w (v1) q_p4 p0 x1.1 x2.1 x2.2.2 _ h3 (W.roX h_v1 (fun g hg => GI hg)) hL) fun x a w F W => ?_
 have W : Stw ⟨Y, X, w0⟩ [(q_p4, [.int .i64 x3.2.2])] [] w := W
 refine ls F W Aa (Ag F Aa).q fun a w F W => ?_
 refine ls F W Aa (Ff (v := Value.int .i64 x3.1) F Aa Aa).q fun a w F W => ?_
 refine ls F W Aa (Ff (v := Value.int .i64 x3.2.1) F Aa Aa).q fun a w F W => ?_
 iterate 2 refine ls F W Aa (Ae F Aa).q fun a w F W => ?_
 refine Ad (Ac (Ah (Ab ?_)))
 refine ls F W Aa (Ag F Aa).q fun a w F W => ?_
 refine ls F W Aa (Ae F Aa).q fun a w F W => ?_
 refine Ad (Ac (Av ?_))
 have H := AP H
 subst H
 refine AJ (.inl Aa) F W Aa (AB F Aa) ?_
 exact ⟨(), Aa, W⟩
theorem WG : Has Tryz.prog 143 := ⟨fun args w => Aj Tryz.func143 rfl (by decide) args w⟩
def Bh (p0 : List Int) (p1 : Int) (p2 : Int) : Option (Int × Int) := (Ce p0 (AG (p1 - 1)) p1 (AG (p1 + 1)) p2).bind fun x1 => some (x1.1, x1.2)
theorem DF (Y : Nat → Prop) (X : List Nat) (w0 : World) (v1 : Value) (q_p2 : Nat) (p0 : List Int) (p1 : Int) (p2 : Int) (r : Int × Int) (H : Bh p0 p1 p2 = some r) (h_v1 : Sl w0 (NX X) (Rp.int .i64) v1 p0) (hL : Stw ⟨Y, X, w0⟩ [(q_p2, [.int .i64 p2])] [] w0) :
    Calls Tryz.prog 142 #[v1, .int .i64 p1, .pointer (some ⟨q_p2, 0, none⟩)] w0 fun e w' => ∃ x : Unit, e = .returned (.int .i64 r.1) ∧ Stw ⟨Y, X, w0⟩ [(q_p2, [.int .i64 r.2])] [] w' := by
 refine enter Tryz.func142 Aa Tryz.ntmps142 Aa fun a F => ?_
 have W := hL
 unfold Bh at H
 refine Ah (Ab ?_)
 refine ls F W Aa (Ae F Aa).q fun a w F W => ?_
 refine Ad (Ac (Ah (Ab ?_)))
 iterate 2 refine ls F W Aa (Ag F Aa).q fun a w F W => ?_
 refine ls F W Aa (CT F Aa Aa Aa).q fun a w F W => ?_
 iterate 2 refine ls F W Aa (Ag F Aa).q fun a w F W => ?_
 refine ls F W Aa (BL F Aa Aa Aa).q fun a w F W => ?_
 refine ls F W Aa (Ag F Aa).q fun a w F W => ?_
 obtain ⟨x1, h1, H⟩ := Am H
 refine Bj (Ml := [(q_p2, [.int .i64 p2])]) (Zl := []) (M := []) (Z := []) (β := Unit) (rv := fun x => .int .i64 x1.1) (MM := fun x => [(q_p2, [.int .i64 x1.2])]) (ZZ := fun x => []) F W WG Aa Aa (fun hL => GN _ _ w (v1) q_p2 p0 (AG (p1 - 1)) p1 (AG (p1 + 1)) p2 _ h1 (W.roX h_v1 (fun g hg => GI hg)) hL) fun x a w F W => ?_
 have W : Stw ⟨Y, X, w0⟩ [(q_p2, [.int .i64 x1.2])] [] w := W
 refine ls F W Aa (Ae F Aa).q fun a w F W => ?_
 refine Ad (Ac (Av ?_))
 have H := AP H
 subst H
 refine AJ (.inl Aa) F W Aa (AB F Aa) ?_
 exact ⟨(), Aa, W⟩
theorem VW : Has Tryz.prog 142 := ⟨fun args w => Aj Tryz.func142 rfl (by decide) args w⟩
def Cg (p0 : List Int) (p1 : Int) (p2 : Int) : Option (Int × Int) := (if 8 ≤ (AG (p2 - p1)) then (if 50 ≤ (AG (p2 - p1)) then (Bh p0 (AG (p1 + (AG ((AG (Int.tdiv (AG (p2 - p1)) 4)) * 1)))) 0).bind fun x7 => (Bh p0 (AG (p1 + (AG ((AG (Int.tdiv (AG (p2 - p1)) 4)) * 2)))) x7.2).bind fun x8 => (Bh p0 (AG (p1 + (AG ((AG (Int.tdiv (AG (p2 - p1)) 4)) * 3)))) x8.2).bind fun x9 => some (x7.1, x8.1, x9.1, x9.2) else some (AG (p1 + (AG ((AG (Int.tdiv (AG (p2 - p1)) 4)) * 1))), AG (p1 + (AG ((AG (Int.tdiv (AG (p2 - p1)) 4)) * 2))), AG (p1 + (AG ((AG (Int.tdiv (AG (p2 - p1)) 4)) * 3))), 0)).bind fun (x3, x4, x5, x6) => (Ce p0 x3 x4 x5 x6).bind fun x10 => some (x10.1, x10.2) else some (AG (p1 + (AG ((AG (Int.tdiv (AG (p2 - p1)) 4)) * 2))), 0)).bind fun (x1, x2) => (if x2 = 0 then some (x1, 1) else (if x2 = 12 then some (x1, 2) else some (x1, 0)))
theorem Ix (Y : Nat → Prop) (w0 : World) (v1 : Value) (p0 : List Int) (p1 : Int) (p2 : Int) (r : Int × Int) (H : Cg p0 p1 p2 = some r) (h_v1 : Sl w0 (NX []) (Rp.int .i64) v1 p0) :
    Calls Tryz.prog 116 #[v1, .int .i64 p1, .int .i64 p2] w0 fun e w' => e = .returned (.tuple #[.int .i64 r.1, .int .i64 r.2]) ∧ Below w0.heap.size w0 w' := by
 refine enter Tryz.func116 Aa Tryz.ntmps116 Aa fun a F => ?_
 have W := Stw.start Y w0
 unfold Cg at H
 refine Ah (Ab ?_)
 iterate 2 refine ls F W Aa (Ae F Aa).q fun a w F W => ?_
 refine Ad (Ac (Ah (Ab ?_)))
 iterate 2 refine ls F W Aa (Ag F Aa).q fun a w F W => ?_
 refine ls F W Aa (CT F Aa Aa Aa).q fun a w F W => ?_
 refine ls F W Aa (Ae F Aa).q fun a w F W => ?_
 refine Ad (Ac (Ah (Ab ?_)))
 refine Co (cs := [.int .i64 0]) F W Aa Z3 Aa fun b1 a w F W => ?_
 refine Ad (Ac (Ah (Ab ?_)))
 iterate 2 refine ls F W Aa (Ag F Aa).q fun a w F W => ?_
 refine ls F W Aa (Qo F Aa Aa (by decide) Aa).q fun a w F W => ?_
 refine ls F W Aa (OG F Aa Aa Aa).q fun a w F W => ?_
 refine ls F W Aa (BL F Aa Aa Aa).q fun a w F W => ?_
 refine ls F W Aa (Ae F Aa).q fun a w F W => ?_
 refine Ad (Ac (Ah (Ab ?_)))
 iterate 2 refine ls F W Aa (Ag F Aa).q fun a w F W => ?_
 refine ls F W Aa (Qo F Aa Aa (by decide) Aa).q fun a w F W => ?_
 refine ls F W Aa (OG F Aa Aa Aa).q fun a w F W => ?_
 refine ls F W Aa (BL F Aa Aa Aa).q fun a w F W => ?_
 refine ls F W Aa (Ae F Aa).q fun a w F W => ?_
 refine Ad (Ac (Ah (Ab ?_)))
 iterate 2 refine ls F W Aa (Ag F Aa).q fun a w F W => ?_
 refine ls F W Aa (Qo F Aa Aa (by decide) Aa).q fun a w F W => ?_
 refine ls F W Aa (OG F Aa Aa Aa).q fun a w F W => ?_
 refine ls F W Aa (BL F Aa Aa Aa).q fun a w F W => ?_
 refine ls F W Aa (Ae F Aa).q fun a w F W => ?_
 refine Ad (Ac ?_)
 obtain ⟨o1, G1, K1⟩ := Am H
 refine AO (fun a w => ∃ x1 : Int, ∃ x2 : Int, some ((x1, x2)) = some o1 ∧ Fr 57 [] [(6, .int .i64 0), (7, .int .i64 0), (9, .pointer (some ⟨b1, 0, none⟩)), (11, .int .i64 x1)] a ∧ Stw ⟨Y, [], w0⟩ [(b1, [.int .i64 x2])] [] w) ?_ ?_
 ·
  have H := G1
  refine Ah (Ab ?_)
  refine ls F W Aa (Ag F Aa).q fun a w F W => ?_
  refine ls F W Aa (D4 F Aa Aa).q fun a w F W => ?_
  refine Ad (Ac ?_)
  refine Aw F Aa (fun hb => ?_) fun hb => ?_
  ·
   have H := AV (Bg hb) H
   rw [hb] at F
   obtain ⟨o2, G2, K2⟩ := Am H
   refine AO (fun a w => ∃ x3 : Int, ∃ x4 : Int, ∃ x5 : Int, ∃ x6 : Int, some ((x3, x4, x5, x6)) = some o2 ∧ Fr 57 [] [(0, v1), (6, .int .i64 0), (7, .int .i64 0), (9, .pointer (some ⟨b1, 0, none⟩)), (10, .int .i64 x3), (11, .int .i64 x4), (12, .int .i64 x5)] a ∧ Stw ⟨Y, [], w0⟩ [(b1, [.int .i64 x6])] [] w) ?_ ?_
   ·
    have H := G2
    refine Ah (Ab ?_)
    refine ls F W Aa (Ag F Aa).q fun a w F W => ?_
    refine ls F W Aa (D4 F Aa Aa).q fun a w F W => ?_
    refine Ad (Ac ?_)
    refine Aw F Aa (fun hb => ?_) fun hb => ?_
    ·
     have H := AV (Bg hb) H
     rw [hb] at F
     refine Ah (Ab ?_)
     iterate 2 refine ls F W Aa (Ag F Aa).q fun a w F W => ?_
     obtain ⟨x7, h1, H⟩ := Am H
     refine Bj (Ml := [(b1, [.int .i64 0])]) (Zl := []) (M := []) (Z := []) (β := Unit) (rv := fun x => .int .i64 x7.1) (MM := fun x => [(b1, [.int .i64 x7.2])]) (ZZ := fun x => []) F W VW Aa Aa (fun hL => DF _ _ w (v1) b1 p0 (AG (p1 + (AG ((AG (Int.tdiv (AG (p2 - p1)) 4)) * 1)))) 0 _ h1 (W.roX h_v1 (fun g hg => GI hg)) hL) fun x a w F W => ?_
     have W : Stw ⟨Y, [], w0⟩ [(b1, [.int .i64 x7.2])] [] w := W
     refine ls F W Aa (Ae F Aa).q fun a w F W => ?_
     refine Ad (Ac (Ah (Ab ?_)))
     iterate 2 refine ls F W Aa (Ag F Aa).q fun a w F W => ?_
     obtain ⟨x8, h2, H⟩ := Am H
     refine Bj (Ml := [(b1, [.int .i64 x7.2])]) (Zl := []) (M := []) (Z := []) (β := Unit) (rv := fun x => .int .i64 x8.1) (MM := fun x => [(b1, [.int .i64 x8.2])]) (ZZ := fun x => []) F W VW Aa Aa (fun hL => DF _ _ w (v1) b1 p0 (AG (p1 + (AG ((AG (Int.tdiv (AG (p2 - p1)) 4)) * 2)))) x7.2 _ h2 (W.roX h_v1 (fun g hg => GI hg)) hL) fun x a w F W => ?_
     have W : Stw ⟨Y, [], w0⟩ [(b1, [.int .i64 x8.2])] [] w := W
     refine ls F W Aa (Ae F Aa).q fun a w F W => ?_
     refine Ad (Ac (Ab ?_))
     iterate 2 refine ls F W Aa (Ag F Aa).q fun a w F W => ?_
     obtain ⟨x9, h3, H⟩ := Am H
     refine Bj (Ml := [(b1, [.int .i64 x8.2])]) (Zl := []) (M := []) (Z := []) (β := Unit) (rv := fun x => .int .i64 x9.1) (MM := fun x => [(b1, [.int .i64 x9.2])]) (ZZ := fun x => []) F W VW Aa Aa (fun hL => DF _ _ w (v1) b1 p0 (AG (p1 + (AG ((AG (Int.tdiv (AG (p2 - p1)) 4)) * 3)))) x8.2 _ h3 (W.roX h_v1 (fun g hg => GI hg)) hL) fun x a w F W => ?_
     have W : Stw ⟨Y, [], w0⟩ [(b1, [.int .i64 x9.2])] [] w := W
     refine ls F W Aa (Ae F Aa).q fun a w F W => ?_
     refine Ad (Ac ?_)
     exact ⟨_, _, _, _, H, F.re ⟨rfl, Aa, Aa, Aa, Aa, Aa, Aa, trivial⟩, W⟩
    have H := AR (Bf hb) H
    rw [hb] at F
    refine Ay (Ac ?_)
    exact ⟨_, _, _, _, H, F.re ⟨rfl, Aa, Aa, Aa, Aa, Aa, Aa, trivial⟩, W⟩
   rintro a w ⟨x3, x4, x5, x6, hj, F, W⟩
   have hj := AP hj
   subst hj
   have H := K2
   refine Ab ?_
   iterate 4 refine ls F W Aa (Ag F Aa).q fun a w F W => ?_
   obtain ⟨x10, h4, H⟩ := Am H
   refine Bj (Ml := [(b1, [.int .i64 x6])]) (Zl := []) (M := []) (Z := []) (β := Unit) (rv := fun x => .int .i64 x10.1) (MM := fun x => [(b1, [.int .i64 x10.2])]) (ZZ := fun x => []) F W WG Aa Aa (fun hL => GN _ _ w (v1) b1 p0 x3 x4 x5 x6 _ h4 (W.roX h_v1 (fun g hg => GI hg)) hL) fun x a w F W => ?_
   have W : Stw ⟨Y, [], w0⟩ [(b1, [.int .i64 x10.2])] [] w := W
   refine ls F W Aa (Ae F Aa).q fun a w F W => ?_
   refine Ad (Ac ?_)
   exact ⟨_, _, H, F.re ⟨rfl, Aa, Aa, Aa, trivial⟩, W⟩
  have H := AR (Bf hb) H
  rw [hb] at F
  refine Ay (Ac ?_)
  exact ⟨_, _, H, F.re ⟨rfl, Aa, Aa, Aa, trivial⟩, W⟩
 rintro a w ⟨x1, x2, hj, F, W⟩
 have hj := AP hj
 subst hj
 have H := K1
 refine Ah (Ab ?_)
 refine ls F W Aa (Ao (v := Value.int .i64 x2) 0 F Aa Aa T3 Aa).q fun a w F W => ?_
 refine Ad (Ac (Az (Ah (Ab ?_))))
 refine ls F W Aa (A7 F Aa Aa).q fun a w F W => ?_
 refine ls F W Aa (Ae F Aa).q fun a w F W => ?_
 refine Ad (Ac ?_)
 refine Aw F Aa (fun hb => ?_) fun hb => ?_
 ·
  have H := AV (Bg hb) H
  rw [hb] at F
  refine Ah (Ab ?_)
  refine ls F W Aa (Ag F Aa).q fun a w F W => ?_
  iterate 2 refine ls F W Aa (Ae F Aa).q fun a w F W => ?_
  refine Ad (Ac (Av (AQ ?_)))
  have H := AP H
  subst H
  refine Pm (.inl Aa) F W Aa (AB F Aa) (AB F Aa) ?_
  exact ⟨rfl, W.done⟩
 have H := AR (Bf hb) H
 rw [hb] at F
 refine Ah (Ab ?_)
 refine ls F W Aa (A7 F Aa Aa).q fun a w F W => ?_
 refine ls F W Aa (Ae F Aa).q fun a w F W => ?_
 refine Ad (Ac ?_)
 refine Aw F Aa (fun hb => ?_) fun hb => ?_
 ·
  have H := AV (Bg hb) H
  rw [hb] at F
  refine Ah (Ab ?_)
  refine ls F W Aa (Ag F Aa).q fun a w F W => ?_
  iterate 2 refine ls F W Aa (Ae F Aa).q fun a w F W => ?_
  refine Ad (Ac (Av (AQ ?_)))
  have H := AP H
  subst H
  refine Pm (.inl Aa) F W Aa (AB F Aa) (AB F Aa) ?_
  exact ⟨rfl, W.done⟩
 have H := AR (Bf hb) H
 rw [hb] at F
 refine Ah (Ab ?_)
 refine ls F W Aa (Ag F Aa).q fun a w F W => ?_
 iterate 2 refine ls F W Aa (Ae F Aa).q fun a w F W => ?_
 refine Ad (Ac (Av (AQ ?_)))
 have H := AP H
 subst H
 refine Pm (.inl Aa) F W Aa (AB F Aa) (AB F Aa) ?_
 exact ⟨rfl, W.done⟩
theorem WX : Has Tryz.prog 116 := ⟨fun args w => Aj Tryz.func116 rfl (by decide) args w⟩
def Bq  : (List Int × Int × Int) → Option ((List Int × Int × Int) ⊕ (List Int))
  | (x1, x2, x3) => (if x2 < x3 then (ix x1 x3).bind fun x4 => (ix x1 x2).bind fun x5 => (ix x1 x2).bind fun x6 => (ix (AL x1 x2 x4) x3).bind fun x7 => some (.inl ((AL (AL x1 x2 x4) x3 x5), AG (x2 + 1), AG (x3 - 1))) else some (.inr x1))
def BU (p0 : List Int) (p1 : Int) (p2 : Int) : Option (List Int) := A6 (Bq) (p0, p1, AG (p2 - 1))
theorem Ik (Y : Nat → Prop) (X : List Nat) (w0 : World) (v1 : Value) (p0 : List Int) (p1 : Int) (p2 : Int) (r : List Int) (H : BU p0 p1 p2 = some r) (hL : Stw ⟨Y, X, w0⟩ [] [row v1 3 (Rp.int .i64) p0] w0) :
    Calls Tryz.prog 117 #[v1, .int .i64 p1, .int .i64 p2] w0 fun e w' => ∃ x : Unit, e = .returned (.tuple #[]) ∧ Stw ⟨Y, X, w0⟩ [] [row v1 3 (Rp.int .i64) r] w' := by
 refine enter Tryz.func117 Aa Tryz.ntmps117 Aa fun a F => ?_
 have W := hL
 unfold BU at H
 refine Ah (Ab ?_)
 refine ls F W Aa (Ag F Aa).q fun a w F W => ?_
 refine ls F W Aa (Ae F Aa).q fun a w F W => ?_
 refine Ad (Ac (Ah (Ab ?_)))
 refine ls F W Aa (Ag F Aa).q fun a w F W => ?_
 refine ls F W Aa (CT F Aa Aa Aa).q fun a w F W => ?_
 refine ls F W Aa (Ae F Aa).q fun a w F W => ?_
 refine Ad (Ac (Az ?_))
 refine BG H (fun s a w => Fr 32 [] [(0, v1), (6, .int .i64 s.2.1), (7, .int .i64 s.2.2)] a ∧ Stw ⟨Y, X, w0⟩ [] [row v1 3 (Rp.int .i64) s.1] w) ⟨F.re ⟨rfl, Aa, Aa, trivial⟩, W⟩ fun s o a w H L1 hR => ?_
 obtain ⟨x1, x2, x3⟩ := s
 obtain ⟨F, W⟩ := hR
 have F : Fr 32 [] [(0, v1), (6, .int .i64 x2), (7, .int .i64 x3)] a := F
 have W : Stw ⟨Y, X, w0⟩ [] [row v1 3 (Rp.int .i64) x1] w := W
 rw [Bq] at H
 refine Ah (Ah (Ab ?_))
 iterate 2 refine ls F W Aa (Ag F Aa).q fun a w F W => ?_
 refine ls F W Aa (Cu F Aa Aa).q fun a w F W => ?_
 refine Ad (Ac ?_)
 refine Aw F Aa (fun hb => ?_) fun hb => ?_
 ·
  have H := AV (Bg hb) H
  rw [hb] at F
  refine Ay (Ac (Az (Ah ?_)))
  refine Kc 13 [2, 3] [0, 1, 4, 5, 6, 7, 8, 9, 10, 11, 12] (fun ch a d v w h => by cases d <;> exact h) W MO (by kernel_rfl) ?_
  iterate 2 refine hm F Aa Aa Aa fun a F => ?_
  refine LZ ?_
  iterate 4 refine hs F Aa Aa Aa (Ag F Aa).q fun a F => ?_
  obtain ⟨x4, h1, H⟩ := Am H
  refine hs F Aa Aa Aa (AM (r := (Rp.int .i64)) EF F Aa Aa (Au 0 Aa) h1).q fun a F => ?_
  refine hs F Aa Aa Aa (AA (y := Value.int .i64 x4) (j := 0) (i := x3) F Aa Aa (Au 0 Aa) h1 Fl.int.to T3 Aa).q fun a F => ?_
  iterate 2 refine hs F Aa Aa Aa (Ag F Aa).q fun a F => ?_
  obtain ⟨x5, h2, H⟩ := Am H
  refine hs F Aa Aa Aa (AM (r := (Rp.int .i64)) EF F Aa Aa (Au 0 Aa) h2).q fun a F => ?_
  refine hs F Aa Aa Aa (AA (y := Value.int .i64 x5) (j := 0) (i := x2) F Aa Aa (Au 0 Aa) h2 Fl.int.to T3 Aa).q fun a F => ?_
  obtain ⟨x6, h3, H⟩ := Am H
  refine hs F Aa Aa Aa (AM (r := (Rp.int .i64)) EF F Aa Aa (Au 0 Aa) h3).q fun a F => ?_
  refine Ou fun w W => ?_
  have W : Stw ⟨Y, X, w0⟩ [] [row v1 3 (Rp.int .i64) x1] w := W
  refine BO (i := x2) (j := 0) (vs := [.int .i64 x4]) (x' := x4) F W Aa Aa Aa (k := 0) Aa Aa h3 T3 Aa Aa Aa Aa (fun A cs _ => Fl.int.sto (by rfl) _ _ _) fun w W => ?_
  obtain ⟨x7, h4, H⟩ := Am H
  refine ls F W Aa (AM (r := (Rp.int .i64)) EF F Aa Aa (Au 0 Aa) h4).q fun a w F W => ?_
  refine BO (i := x3) (j := 0) (vs := [.int .i64 x5]) (x' := x5) F W Aa Aa Aa (k := 0) Aa Aa h4 T3 Aa Aa Aa Aa (fun A cs _ => Fl.int.sto (by rfl) _ _ _) fun w W => ?_
  refine Ad (Ac (Ah (Ab ?_)))
  refine ls F W Aa (Ag F Aa).q fun a w F W => ?_
  refine ls F W Aa (BL F Aa Aa Aa).q fun a w F W => ?_
  refine ls F W Aa (Ae F Aa).q fun a w F W => ?_
  refine Ad (Ac (Ab ?_))
  refine ls F W Aa (Ag F Aa).q fun a w F W => ?_
  refine ls F W Aa (CT F Aa Aa Aa).q fun a w F W => ?_
  refine ls F W Aa (Ae F Aa).q fun a w F W => ?_
  refine Ad (AU (Ac ?_))
  exact ⟨_, H, F.re ⟨rfl, Aa, Aa, trivial⟩, W⟩
 have H := AR (Bf hb) H
 rw [hb] at F
 refine Bz ?_
 iterate 2 refine BS ?_
 refine Bx ?_
 have H := L1 _ H
 have H := AP H
 subst H
 refine LH (.inr Aa) F Aa ?_
 exact ⟨(), Aa, W⟩
theorem WN : Has Tryz.prog 117 := ⟨fun args w => Aj Tryz.func117 rfl (by decide) args w⟩
def Bp (p2 : Int) (x2 : List Int) : Int → Option (Int ⊕ Int)
  | x8 => (if x8 < p2 then (ix x2 x8).bind fun x10 => (ix x2 (AG (x8 - 1))).bind fun x11 => some (!(AX x10 x11)) else some false).bind fun x9 => (if x9 = true then some (.inl (AG (x8 + 1))) else some (.inr x8))
def AY  : (List Int × Int) → Option ((List Int × Int) ⊕ (List Int))
  | (x17, x18) => (if 1 ≤ x18 then (ix x17 x18).bind fun x19 => (ix x17 (AG (x18 - 1))).bind fun x20 => (if (!(AX x19 x20)) = true then some (.inr x17) else (ix x17 (AG (x18 - 1))).bind fun x21 => (ix x17 x18).bind fun x22 => (ix x17 x18).bind fun x23 => (ix (AL x17 x18 x21) (AG (x18 - 1))).bind fun x24 => some (.inl ((AL (AL x17 x18 x21) (AG (x18 - 1)) x22), AG (x18 - 1)))) else some (.inr x17))
def A2 (p2 : Int) (x7 : Int) : (List Int × Int) → Option ((List Int × Int) ⊕ ((List Int × Int) ⊕ ((List Int × Int × Int) ⊕ ((List Int) ⊕ (Bool × List Int)))))
  | (x25, x26) => (if x26 < p2 then (ix x25 x26).bind fun x27 => (ix x25 (AG (x26 - 1))).bind fun x28 => (if (!(AX x27 x28)) = true then some (.inr (.inl (x25, x7))) else (ix x25 (AG (x26 - 1))).bind fun x29 => (ix x25 x26).bind fun x30 => (ix x25 x26).bind fun x31 => (ix (AL x25 x26 x29) (AG (x26 - 1))).bind fun x32 => some (.inl ((AL (AL x25 x26 x29) (AG (x26 - 1)) x30), AG (x26 + 1)))) else some (.inr (.inl (x25, x7))))
def A1 (p1 : Int) (p2 : Int) : (List Int × Int × Int) → Option ((List Int × Int × Int) ⊕ ((List Int) ⊕ (Bool × List Int)))
  | (x2, x3, x4) => (if x4 < 5 then Je ((A6 (Bp p2 x2) x3).bind fun x7 => (if x7 = p2 then some (.inr (.inr (.inr (true, x2)))) else (if (AG (p2 - p1)) < 50 then some (.inr (.inr (.inr (false, x2)))) else (ix x2 (AG (x7 - 1))).bind fun x12 => (ix x2 x7).bind fun x13 => (ix x2 x7).bind fun x14 => (ix (AL x2 x7 x12) (AG (x7 - 1))).bind fun x15 => (if 2 ≤ (AG (x7 - p1)) then A6 (AY) ((AL (AL x2 x7 x12) (AG (x7 - 1)) x13), AG (x7 - 1)) else some (AL (AL x2 x7 x12) (AG (x7 - 1)) x13)).bind fun x16 => (if 2 ≤ (AG (p2 - x7)) then A6 (A2 p2 x7) (x16, AG (x7 + 1)) else some (.inl (x16, x7)))))) fun (x5, x6) => some (.inl (x5, x6, AG (x4 + 1))) else some (.inr (.inl x2)))
def Bl (p0 : List Int) (p1 : Int) (p2 : Int) : Option (Bool × List Int) := Je (A6 (A1 p1 p2) (p0, AG (p1 + 1), 0)) fun x1 => some (false, x1)
theorem Gz (Y : Nat → Prop) (X : List Nat) (w0 : World) (v1 : Value) (p0 : List Int) (p1 : Int) (p2 : Int) (r : Bool × List Int) (H : Bl p0 p1 p2 = some r) (hL : Stw ⟨Y, X, w0⟩ [] [row v1 3 (Rp.int .i64) p0] w0) :
    Calls Tryz.prog 118 #[v1, .int .i64 p1, .int .i64 p2] w0 fun e w' => ∃ x : Unit, e = .returned (.bool r.1) ∧ Stw ⟨Y, X, w0⟩ [] [row v1 3 (Rp.int .i64) r.2] w' := by
 refine enter Tryz.func118 Aa Tryz.ntmps118 Aa fun a F => ?_
 have W := hL
 unfold Bl at H
 refine Ah (Ab ?_)
 refine ls F W Aa (Ae F Aa).q fun a w F W => ?_
 refine Ad (Ac (Ah (Ab ?_)))
 refine ls F W Aa (Ag F Aa).q fun a w F W => ?_
 refine ls F W Aa (BL F Aa Aa Aa).q fun a w F W => ?_
 refine ls F W Aa (Ae F Aa).q fun a w F W => ?_
 refine Ad (Ac ?_)
 obtain ⟨o1, G1, K1, L1⟩ := PQ H
 refine AO (fun a w => ∃ x1 : List Int, some (Sum.inl x1) = some o1 ∧ Fr 133 [] [(6, .bool false)] a ∧ Stw ⟨Y, X, w0⟩ [] [row v1 3 (Rp.int .i64) x1] w) ?_ ?_
 ·
  have H := G1
  refine Ah (Ab ?_)
  refine ls F W Aa (Ae F Aa).q fun a w F W => ?_
  refine Ad (Ac (Az ?_))
  refine BG H (fun s a w => Fr 133 [] [(0, v1), (1, .int .i64 p1), (2, .int .i64 p2), (6, .bool false), (7, .int .i64 s.2.1), (8, .int .i64 s.2.2)] a ∧ Stw ⟨Y, X, w0⟩ [] [row v1 3 (Rp.int .i64) s.1] w) ⟨F.re ⟨rfl, Aa, Aa, Aa, Aa, Aa, trivial⟩, W⟩ fun s o a w H L2 hR => ?_
  obtain ⟨x2, x3, x4⟩ := s
  obtain ⟨F, W⟩ := hR
  have F : Fr 133 [] [(0, v1), (1, .int .i64 p1), (2, .int .i64 p2), (6, .bool false), (7, .int .i64 x3), (8, .int .i64 x4)] a := F
  have W : Stw ⟨Y, X, w0⟩ [] [row v1 3 (Rp.int .i64) x2] w := W
  rw [A1] at H
  refine Ah (Ah (Ab ?_))
  refine ls F W Aa (Ag F Aa).q fun a w F W => ?_
  refine ls F W Aa (Cu F Aa Aa).q fun a w F W => ?_
  refine Ad (Ac ?_)
  refine Aw F Aa (fun hb => ?_) fun hb => ?_
  ·
   have H := AV (Bg hb) H
   rw [hb] at F
   refine Ay (Ac ?_)
   obtain ⟨o3, G3, K3, L3⟩ := PQ H
   refine AO (fun a w => ∃ x5 : List Int, ∃ x6 : Int, some (Sum.inl (x5, x6)) = some o3 ∧ Fr 133 [] [(0, v1), (1, .int .i64 p1), (2, .int .i64 p2), (6, .bool false), (7, .int .i64 x6), (8, .int .i64 x4)] a ∧ Stw ⟨Y, X, w0⟩ [] [row v1 3 (Rp.int .i64) x5] w) ?_ ?_
   ·
    have H := G3
    refine Az ?_
    obtain ⟨o4, G4, K4⟩ := Am H
    refine AO (fun a w => ∃ x7 : Int, some (x7) = some o4 ∧ Fr 133 [] [(0, v1), (1, .int .i64 p1), (2, .int .i64 p2), (6, .bool false), (7, .int .i64 x7), (8, .int .i64 x4)] a ∧ Stw ⟨Y, X, w0⟩ [] [row v1 3 (Rp.int .i64) x2] w) ?_ ?_
    ·
     have H := G4
     refine Az ?_
     refine BG H (fun s a w => Fr 133 [] [(0, v1), (1, .int .i64 p1), (2, .int .i64 p2), (6, .bool false), (7, .int .i64 s), (8, .int .i64 x4)] a ∧ Stw ⟨Y, X, w0⟩ [] [row v1 3 (Rp.int .i64) x2] w) ⟨F.re ⟨rfl, Aa, Aa, Aa, Aa, Aa, trivial⟩, W⟩ fun s o a w H L5 hR => ?_
     obtain ⟨x8, rfl⟩ : ∃ x, x = s := ⟨s, rfl⟩
     obtain ⟨F, W⟩ := hR
     have F : Fr 133 [] [(0, v1), (1, .int .i64 p1), (2, .int .i64 p2), (6, .bool false), (7, .int .i64 x8), (8, .int .i64 x4)] a := F
     have W : Stw ⟨Y, X, w0⟩ [] [row v1 3 (Rp.int .i64) x2] w := W
     rw [Bp] at H
     refine Ah ?_
     obtain ⟨o6, G6, K6⟩ := Am H
     refine AO (fun a w => ∃ x9 : Bool, some (x9) = some o6 ∧ Fr 133 [] [(0, v1), (1, .int .i64 p1), (2, .int .i64 p2), (6, .bool false), (7, .int .i64 x8), (8, .int .i64 x4), (32, .bool x9)] a ∧ Stw ⟨Y, X, w0⟩ [] [row v1 3 (Rp.int .i64) x2] w) ?_ ?_
     ·
      have H := G6
      refine CK W MO (by kernel_rfl) ?_
      iterate 2 refine qs F Aa (Ag F Aa).q fun a F => ?_
      refine qs F Aa (Cu F Aa Aa).q fun a F => ?_
      refine qs F Aa (Ag F Aa).q fun a F => ?_
      rcases bxq (decide (x8 < p2)) with hb | hb
      ·
       have H := AV (Bg hb) H
       rw [hb] at F
       iterate 2 refine Bk F (Af F Aa Aa Aa Aa) Aa (Ak Aa) (Ag F Aa).q fun a F => ?_
       obtain ⟨x10, h1, H⟩ := Am H
       refine Bk F (Af F Aa Aa Aa Aa) Aa (Ak Aa) (AM (r := (Rp.int .i64)) EF F Aa Aa (Au 0 Aa) h1).q fun a F => ?_
       refine Bk F (Af F Aa Aa Aa Aa) Aa (Ak Aa) (AA (y := Value.int .i64 x10) (j := 0) (i := x8) F Aa Aa (Au 0 Aa) h1 Fl.int.to T3 Aa).q fun a F => ?_
       iterate 2 refine Bk F (Af F Aa Aa Aa Aa) Aa (Ak Aa) (Ag F Aa).q fun a F => ?_
       refine Bk F (Af F Aa Aa Aa Aa) Aa (Ak Aa) (CT F Aa Aa Aa).q fun a F => ?_
       obtain ⟨x11, h2, H⟩ := Am H
       refine Bk F (Af F Aa Aa Aa Aa) Aa (Ak Aa) (AM (r := (Rp.int .i64)) EF F Aa Aa (Au 0 Aa) h2).q fun a F => ?_
       refine Bk F (Af F Aa Aa Aa Aa) Aa (Ak Aa) (AA (y := Value.int .i64 x11) (j := 0) (i := AG (x8 - 1)) F Aa Aa (Au 0 Aa) h2 Fl.int.to T3 Aa).q fun a F => ?_
       refine Bk F (Af F Aa Aa Aa Aa) Aa (Ak Aa) (A3 (v := Value.bool (AX x10 x11)) F NI Aa (fun w W => CG any w x10 x11 _ Aa)) fun a F => ?_
       refine Bk F (Af F Aa Aa Aa Aa) Aa (Ak Aa) (F4 F Aa).q fun a F => ?_
       refine qs F Aa (Ax F Aa Aa Aa).q fun a F => ?_
       refine A9 fun w W => ?_
       refine Ac ?_
       exact ⟨_, H, F.re ⟨rfl, Aa, Aa, Aa, Aa, Aa, Aa, trivial⟩, W⟩
      have H := AR (Bf hb) H
      rw [hb] at F
      iterate 11 refine B4 F (Bi F Aa Aa Aa Aa Aa) Aa Aa fun a F => ?_
      refine qs F Aa (As F Aa Aa Aa).q fun a F => ?_
      refine A9 fun w W => ?_
      refine Ac ?_
      exact ⟨_, H, F.re ⟨rfl, Aa, Aa, Aa, Aa, Aa, Aa, trivial⟩, W⟩
     rintro a w ⟨x9, hj, F, W⟩
     have hj := AP hj
     subst hj
     have H := K6
     refine Aw F Aa (fun hb => ?_) fun hb => ?_
     ·
      have H := AV hb H
      rw [hb] at F
      refine Ay (Ac (Az (Ab ?_)))
      refine ls F W Aa (Ag F Aa).q fun a w F W => ?_
      refine ls F W Aa (BL F Aa Aa Aa).q fun a w F W => ?_
      refine ls F W Aa (Ae F Aa).q fun a w F W => ?_
      refine Ad (AU (Ac ?_))
      exact ⟨_, H, F.re ⟨rfl, Aa, Aa, Aa, Aa, Aa, trivial⟩, W⟩
     have H := AR (by rw [hb]; decide) H
     rw [hb] at F
     refine Bz ?_
     iterate 2 refine BS ?_
     refine Bx (Ac ?_)
     have H := L5 _ H
     exact ⟨_, H, F.re ⟨rfl, Aa, Aa, Aa, Aa, Aa, trivial⟩, W⟩
    rintro a w ⟨x7, hj, F, W⟩
    have hj := AP hj
    subst hj
    have H := K4
    refine Ah (Ah (Ab ?_))
    iterate 2 refine ls F W Aa (Ag F Aa).q fun a w F W => ?_
    refine ls F W Aa (A7 F Aa Aa).q fun a w F W => ?_
    refine Ad (Ac ?_)
    refine Aw F Aa (fun hb => ?_) fun hb => ?_
    ·
     have H := AV (Bg hb) H
     rw [hb] at F
     refine Ah (Ab ?_)
     refine ls F W Aa (Ae F Aa).q fun a w F W => ?_
     refine Ad (Ac (Av (AN (AQ ?_))))
     iterate 2 refine AN ?_
     refine AQ (AN ?_)
     have H := L3 _ H
     have H := L2 _ H
     have H := L1 _ H
     have H := AP H
     subst H
     refine AJ (.inl Aa) F W Aa (AB F Aa) ?_
     exact ⟨(), Aa, W⟩
    have H := AR (Bf hb) H
    rw [hb] at F
    refine Ay (Ac (Ah (Ah (Ab ?_))))
    iterate 2 refine ls F W Aa (Ag F Aa).q fun a w F W => ?_
    refine ls F W Aa (CT F Aa Aa Aa).q fun a w F W => ?_
    refine ls F W Aa (Cu F Aa Aa).q fun a w F W => ?_
    refine Ad (Ac ?_)
    refine Aw F Aa (fun hb => ?_) fun hb => ?_
    ·
     have H := AV (Bg hb) H
     rw [hb] at F
     refine Ah (Ab ?_)
     refine ls F W Aa (Ae F Aa).q fun a w F W => ?_
     refine Ad (Ac (Av (AN (AQ ?_))))
     iterate 2 refine AN ?_
     refine AQ (AN ?_)
     have H := L3 _ H
     have H := L2 _ H
     have H := L1 _ H
     have H := AP H
     subst H
     refine AJ (.inl Aa) F W Aa (AB F Aa) ?_
     exact ⟨(), Aa, W⟩
    have H := AR (Bf hb) H
    rw [hb] at F
    refine Ay (Ac (Ah ?_))
    refine GP [(true, 0), (true, 1), (true, 2), (true, 3), (true, 4), (true, 5), (true, 6), (true, 7), (true, 8), (true, 9), (true, 10), (true, 11), (true, 12), (true, 13), (true, 14), (false, 15), (true, 16), (false, 17)] (CN ⟨Y, X, w0⟩ [] [(some 15, row v1 3 (Rp.int .i64) x2)]) (fun ch a d v w h => by cases d <;> exact h) MO (by kernel_rfl) W (fun w W => ⟨_, _, W, AE, (Al (fun _ => (.head _)) AE)⟩) fun w W => ?_
    iterate 4 refine BK (R := []) F Aa Aa (yC fun M Z hN hZ => Ag F Aa) Aa Aa fun a F => ?_
    refine BK (R := []) F Aa Aa (yC fun M Z hN hZ => CT F Aa Aa Aa) Aa Aa fun a F => ?_
    iterate 2 refine BK (R := []) F Aa Aa (yC fun M Z hN hZ => Ag F Aa) Aa Aa fun a F => ?_
    refine BK (R := []) F Aa Aa (yC fun M Z hN hZ => CT F Aa Aa Aa) Aa Aa fun a F => ?_
    obtain ⟨x12, h3, H⟩ := Am H
    refine BK (R := []) F Aa Aa (yC fun M Z hN hZ => CM (r := (Rp.int .i64)) EF F Aa Aa (Fx W (Au 0 Aa)) h3) Aa Aa fun a F => ?_
    refine BK (R := [15]) F Aa Aa (yC fun M Z hN hZ => AA (y := Value.int .i64 x12) (j := 0) (i := AG (x7 - 1)) F Aa Aa (E8 (hZ ((some 15), row v1 3 (Rp.int .i64) x2) (.head _) Aa)) h3 Fl.int.to T3 Aa) (by kernel_rfl) Aa fun a F => ?_
    iterate 2 refine BK (R := []) F Aa Aa (yC fun M Z hN hZ => Ag F Aa) Aa Aa fun a F => ?_
    obtain ⟨x13, h4, H⟩ := Am H
    refine BK (R := []) F Aa Aa (yC fun M Z hN hZ => CM (r := (Rp.int .i64)) EF F Aa Aa (Fx W (Au 0 Aa)) h4) Aa Aa fun a F => ?_
    refine BK (R := [15]) F Aa Aa (yC fun M Z hN hZ => AA (y := Value.int .i64 x13) (j := 0) (i := x7) F Aa Aa (E8 (hZ ((some 15), row v1 3 (Rp.int .i64) x2) (.head _) Aa)) h4 Fl.int.to T3 Aa) (by kernel_rfl) Aa fun a F => ?_
    obtain ⟨x14, h5, H⟩ := Am H
    refine BK (R := []) F Aa Aa (yC fun M Z hN hZ => CM (r := (Rp.int .i64)) EF F Aa Aa (Fx W (Au 0 Aa)) h5) Aa Aa fun a F => ?_
    refine EK Aa ?_
    refine BO (i := x7) (j := 0) (vs := [.int .i64 x12]) (x' := x12) F W Aa Aa Aa (k := 0) Aa Aa h5 T3 Aa Aa Aa Aa (fun A cs _ => Fl.int.sto (by rfl) _ _ _) fun w W => ?_
    refine BP (N2 := []) (NZ2 := []) (N3 := []) (NZ3 := [(some 15, row v1 3 (Rp.int .i64) x2)]) W Aa Aa AE (Al (fun h => Ap (by kernel_rfl) h) AE) ?_
    obtain ⟨x15, h6, H⟩ := Am H
    refine BK (R := []) F Aa Aa (yC fun M Z hN hZ => CM (r := (Rp.int .i64)) EF F Aa Aa (Fx W (Au 0 Aa)) h6) Aa Aa fun a F => ?_
    refine EK Aa ?_
    refine BO (i := AG (x7 - 1)) (j := 0) (vs := [.int .i64 x13]) (x' := x13) F W Aa Aa Aa (k := 0) Aa Aa h6 T3 Aa Aa Aa Aa (fun A cs _ => Fl.int.sto (by rfl) _ _ _) fun w W => ?_
    refine BP (N2 := []) (NZ2 := []) (N3 := []) (NZ3 := [(some 15, row v1 3 (Rp.int .i64) x2)]) W Aa Aa AE (Al (fun h => Ap (by kernel_rfl) h) AE) ?_
    refine HG (Ac ?_)
    obtain ⟨o7, G7, K7⟩ := Am H
    refine AO (fun a w => ∃ x16 : List Int, some (x16) = some o7 ∧ Fr 133 [] [(0, v1), (1, .int .i64 p1), (2, .int .i64 p2), (6, .bool false), (7, .int .i64 x7), (8, .int .i64 x4)] a ∧ Stw ⟨Y, X, w0⟩ [] [row v1 3 (Rp.int .i64) x16] w) ?_ ?_
    ·
     have H := G7
     refine Ah (Ab ?_)
     iterate 2 refine ls F W Aa (Ag F Aa).q fun a w F W => ?_
     refine ls F W Aa (CT F Aa Aa Aa).q fun a w F W => ?_
     refine ls F W Aa (D4 F Aa Aa).q fun a w F W => ?_
     refine Ad (Ac ?_)
     refine Aw F Aa (fun hb => ?_) fun hb => ?_
     ·
      have H := AV (Bg hb) H
      rw [hb] at F
      refine Ah (Ab ?_)
      refine ls F W Aa (Ag F Aa).q fun a w F W => ?_
      refine ls F W Aa (CT F Aa Aa Aa).q fun a w F W => ?_
      refine ls F W Aa (Ae F Aa).q fun a w F W => ?_
      refine Ad (Ac (Az ?_))
      refine BG H (fun s a w => Fr 133 [] [(0, v1), (1, .int .i64 p1), (2, .int .i64 p2), (6, .bool false), (7, .int .i64 x7), (8, .int .i64 x4), (9, .int .i64 s.2)] a ∧ Stw ⟨Y, X, w0⟩ [] [row v1 3 (Rp.int .i64) s.1] w) ⟨F.re ⟨rfl, Aa, Aa, Aa, Aa, Aa, Aa, trivial⟩, W⟩ fun s o a w H L8 hR => ?_
      obtain ⟨x17, x18⟩ := s
      obtain ⟨F, W⟩ := hR
      have F : Fr 133 [] [(0, v1), (1, .int .i64 p1), (2, .int .i64 p2), (6, .bool false), (7, .int .i64 x7), (8, .int .i64 x4), (9, .int .i64 x18)] a := F
      have W : Stw ⟨Y, X, w0⟩ [] [row v1 3 (Rp.int .i64) x17] w := W
      rw [AY] at H
      refine Ah (Ah (Ab ?_))
      refine ls F W Aa (Ag F Aa).q fun a w F W => ?_
      refine ls F W Aa (D4 F Aa Aa).q fun a w F W => ?_
      refine Ad (Ac ?_)
      refine Aw F Aa (fun hb => ?_) fun hb => ?_
      ·
       have H := AV (Bg hb) H
       rw [hb] at F
       refine Ay (Ac (Ah (Az ?_)))
       iterate 2 refine Ah ?_
       refine CK W MO (by kernel_rfl) ?_
       iterate 2 refine qs F Aa (Ag F Aa).q fun a F => ?_
       obtain ⟨x19, h7, H⟩ := Am H
       refine qs F Aa (AM (r := (Rp.int .i64)) EF F Aa Aa (Au 0 Aa) h7).q fun a F => ?_
       refine qs F Aa (AA (y := Value.int .i64 x19) (j := 0) (i := x18) F Aa Aa (Au 0 Aa) h7 Fl.int.to T3 Aa).q fun a F => ?_
       iterate 2 refine qs F Aa (Ag F Aa).q fun a F => ?_
       refine qs F Aa (CT F Aa Aa Aa).q fun a F => ?_
       obtain ⟨x20, h8, H⟩ := Am H
       refine qs F Aa (AM (r := (Rp.int .i64)) EF F Aa Aa (Au 0 Aa) h8).q fun a F => ?_
       refine qs F Aa (AA (y := Value.int .i64 x20) (j := 0) (i := AG (x18 - 1)) F Aa Aa (Au 0 Aa) h8 Fl.int.to T3 Aa).q fun a F => ?_
       refine qs F Aa (A3 (v := Value.bool (AX x19 x20)) F NI Aa (fun w W => CG any w x19 x20 _ Aa)) fun a F => ?_
       refine qs F Aa (F4 F Aa).q fun a F => ?_
       refine A9 fun w W => ?_
       refine Ac ?_
       refine Aw F Aa (fun hb => ?_) fun hb => ?_
       ·
        have H := AV hb H
        rw [hb] at F
        refine Bz (BS ?_)
        refine Qk Aa ?_
        iterate 2 refine BS ?_
        refine Bx (Ac ?_)
        have H := L8 _ H
        exact ⟨_, H, F.re ⟨rfl, Aa, Aa, Aa, Aa, Aa, trivial⟩, W⟩
       have H := AR (by rw [hb]; decide) H
       rw [hb] at F
       refine Ay (Ac ?_)
       refine GP [(true, 0), (true, 1), (true, 2), (true, 3), (true, 4), (true, 5), (true, 6), (true, 7), (true, 8), (true, 9), (true, 10), (true, 11), (true, 12), (true, 13), (true, 14), (false, 15), (true, 16), (false, 17)] (CN ⟨Y, X, w0⟩ [] [(some 15, row v1 3 (Rp.int .i64) x17)]) (fun ch a d v w h => by cases d <;> exact h) MO (by kernel_rfl) W (fun w W => ⟨_, _, W, AE, (Al (fun _ => (.head _)) AE)⟩) fun w W => ?_
       iterate 4 refine BK (R := []) F Aa Aa (yC fun M Z hN hZ => Ag F Aa) Aa Aa fun a F => ?_
       refine BK (R := []) F Aa Aa (yC fun M Z hN hZ => CT F Aa Aa Aa) Aa Aa fun a F => ?_
       iterate 2 refine BK (R := []) F Aa Aa (yC fun M Z hN hZ => Ag F Aa) Aa Aa fun a F => ?_
       refine BK (R := []) F Aa Aa (yC fun M Z hN hZ => CT F Aa Aa Aa) Aa Aa fun a F => ?_
       obtain ⟨x21, h9, H⟩ := Am H
       refine BK (R := []) F Aa Aa (yC fun M Z hN hZ => CM (r := (Rp.int .i64)) EF F Aa Aa (Fx W (Au 0 Aa)) h9) Aa Aa fun a F => ?_
       refine BK (R := [15]) F Aa Aa (yC fun M Z hN hZ => AA (y := Value.int .i64 x21) (j := 0) (i := AG (x18 - 1)) F Aa Aa (E8 (hZ ((some 15), row v1 3 (Rp.int .i64) x17) (.head _) Aa)) h9 Fl.int.to T3 Aa) (by kernel_rfl) Aa fun a F => ?_
       iterate 2 refine BK (R := []) F Aa Aa (yC fun M Z hN hZ => Ag F Aa) Aa Aa fun a F => ?_
       obtain ⟨x22, h10, H⟩ := Am H
       refine BK (R := []) F Aa Aa (yC fun M Z hN hZ => CM (r := (Rp.int .i64)) EF F Aa Aa (Fx W (Au 0 Aa)) h10) Aa Aa fun a F => ?_
       refine BK (R := [15]) F Aa Aa (yC fun M Z hN hZ => AA (y := Value.int .i64 x22) (j := 0) (i := x18) F Aa Aa (E8 (hZ ((some 15), row v1 3 (Rp.int .i64) x17) (.head _) Aa)) h10 Fl.int.to T3 Aa) (by kernel_rfl) Aa fun a F => ?_
       obtain ⟨x23, h11, H⟩ := Am H
       refine BK (R := []) F Aa Aa (yC fun M Z hN hZ => CM (r := (Rp.int .i64)) EF F Aa Aa (Fx W (Au 0 Aa)) h11) Aa Aa fun a F => ?_
       refine EK Aa ?_
       refine BO (i := x18) (j := 0) (vs := [.int .i64 x21]) (x' := x21) F W Aa Aa Aa (k := 0) Aa Aa h11 T3 Aa Aa Aa Aa (fun A cs _ => Fl.int.sto (by rfl) _ _ _) fun w W => ?_
       refine BP (N2 := []) (NZ2 := []) (N3 := []) (NZ3 := [(some 15, row v1 3 (Rp.int .i64) x17)]) W Aa Aa AE (Al (fun h => Ap (by kernel_rfl) h) AE) ?_
       obtain ⟨x24, h12, H⟩ := Am H
       refine BK (R := []) F Aa Aa (yC fun M Z hN hZ => CM (r := (Rp.int .i64)) EF F Aa Aa (Fx W (Au 0 Aa)) h12) Aa Aa fun a F => ?_
       refine EK Aa ?_
       refine BO (i := AG (x18 - 1)) (j := 0) (vs := [.int .i64 x22]) (x' := x22) F W Aa Aa Aa (k := 0) Aa Aa h12 T3 Aa Aa Aa Aa (fun A cs _ => Fl.int.sto (by rfl) _ _ _) fun w W => ?_
       refine BP (N2 := []) (NZ2 := []) (N3 := []) (NZ3 := [(some 15, row v1 3 (Rp.int .i64) x17)]) W Aa Aa AE (Al (fun h => Ap (by kernel_rfl) h) AE) ?_
       refine HG (AU (Ac (Ab ?_)))
       refine ls F W Aa (Ag F Aa).q fun a w F W => ?_
       refine ls F W Aa (CT F Aa Aa Aa).q fun a w F W => ?_
       refine ls F W Aa (Ae F Aa).q fun a w F W => ?_
       refine Ad (Ac ?_)
       exact ⟨_, H, F.re ⟨rfl, Aa, Aa, Aa, Aa, Aa, Aa, trivial⟩, W⟩
      have H := AR (Bf hb) H
      rw [hb] at F
      refine Bz ?_
      iterate 2 refine BS ?_
      refine Bx (Ac ?_)
      have H := L8 _ H
      exact ⟨_, H, F.re ⟨rfl, Aa, Aa, Aa, Aa, Aa, trivial⟩, W⟩
     have H := AR (Bf hb) H
     rw [hb] at F
     refine Ay (Ac ?_)
     exact ⟨_, H, F.re ⟨rfl, Aa, Aa, Aa, Aa, Aa, trivial⟩, W⟩
    rintro a w ⟨x16, hj, F, W⟩
    have hj := AP hj
    subst hj
    have H := K7
    refine Ah (Ab ?_)
    iterate 2 refine ls F W Aa (Ag F Aa).q fun a w F W => ?_
    refine ls F W Aa (CT F Aa Aa Aa).q fun a w F W => ?_
    refine ls F W Aa (D4 F Aa Aa).q fun a w F W => ?_
    refine Ad (Ac ?_)
    refine Aw F Aa (fun hb => ?_) fun hb => ?_
    ·
     have H := AV (Bg hb) H
     rw [hb] at F
     refine Ah (Ab ?_)
     refine ls F W Aa (Ag F Aa).q fun a w F W => ?_
     refine ls F W Aa (BL F Aa Aa Aa).q fun a w F W => ?_
     refine ls F W Aa (Ae F Aa).q fun a w F W => ?_
     refine Ad (Ac (Az ?_))
     refine BG H (fun s a w => Fr 133 [] [(0, v1), (1, .int .i64 p1), (2, .int .i64 p2), (6, .bool false), (7, .int .i64 x7), (8, .int .i64 x4), (10, .int .i64 s.2)] a ∧ Stw ⟨Y, X, w0⟩ [] [row v1 3 (Rp.int .i64) s.1] w) ⟨F.re ⟨rfl, Aa, Aa, Aa, Aa, Aa, Aa, trivial⟩, W⟩ fun s o a w H L9 hR => ?_
     obtain ⟨x25, x26⟩ := s
     obtain ⟨F, W⟩ := hR
     have F : Fr 133 [] [(0, v1), (1, .int .i64 p1), (2, .int .i64 p2), (6, .bool false), (7, .int .i64 x7), (8, .int .i64 x4), (10, .int .i64 x26)] a := F
     have W : Stw ⟨Y, X, w0⟩ [] [row v1 3 (Rp.int .i64) x25] w := W
     rw [A2] at H
     refine Ah (Ah (Ab ?_))
     iterate 2 refine ls F W Aa (Ag F Aa).q fun a w F W => ?_
     refine ls F W Aa (Cu F Aa Aa).q fun a w F W => ?_
     refine Ad (Ac ?_)
     refine Aw F Aa (fun hb => ?_) fun hb => ?_
     ·
      have H := AV (Bg hb) H
      rw [hb] at F
      refine Ay (Ac (Ah (Az ?_)))
      iterate 2 refine Ah ?_
      refine CK W MO (by kernel_rfl) ?_
      iterate 2 refine qs F Aa (Ag F Aa).q fun a F => ?_
      obtain ⟨x27, h13, H⟩ := Am H
      refine qs F Aa (AM (r := (Rp.int .i64)) EF F Aa Aa (Au 0 Aa) h13).q fun a F => ?_
      refine qs F Aa (AA (y := Value.int .i64 x27) (j := 0) (i := x26) F Aa Aa (Au 0 Aa) h13 Fl.int.to T3 Aa).q fun a F => ?_
      iterate 2 refine qs F Aa (Ag F Aa).q fun a F => ?_
      refine qs F Aa (CT F Aa Aa Aa).q fun a F => ?_
      obtain ⟨x28, h14, H⟩ := Am H
      refine qs F Aa (AM (r := (Rp.int .i64)) EF F Aa Aa (Au 0 Aa) h14).q fun a F => ?_
      refine qs F Aa (AA (y := Value.int .i64 x28) (j := 0) (i := AG (x26 - 1)) F Aa Aa (Au 0 Aa) h14 Fl.int.to T3 Aa).q fun a F => ?_
      refine qs F Aa (A3 (v := Value.bool (AX x27 x28)) F NI Aa (fun w W => CG any w x27 x28 _ Aa)) fun a F => ?_
      refine qs F Aa (F4 F Aa).q fun a F => ?_
      refine A9 fun w W => ?_
      refine Ac ?_
      refine Aw F Aa (fun hb => ?_) fun hb => ?_
      ·
       have H := AV hb H
       rw [hb] at F
       refine Bz (BS ?_)
       refine Qk Aa ?_
       iterate 2 refine BS ?_
       refine Bx (AU (Ac ?_))
       have H := L9 _ H
       exact ⟨_, _, H, F.re ⟨rfl, Aa, Aa, Aa, Aa, Aa, trivial⟩, W⟩
      have H := AR (by rw [hb]; decide) H
      rw [hb] at F
      refine Ay (Ac ?_)
      refine GP [(true, 0), (true, 1), (true, 2), (true, 3), (true, 4), (true, 5), (true, 6), (true, 7), (true, 8), (true, 9), (true, 10), (true, 11), (true, 12), (true, 13), (true, 14), (false, 15), (true, 16), (false, 17)] (CN ⟨Y, X, w0⟩ [] [(some 15, row v1 3 (Rp.int .i64) x25)]) (fun ch a d v w h => by cases d <;> exact h) MO (by kernel_rfl) W (fun w W => ⟨_, _, W, AE, (Al (fun _ => (.head _)) AE)⟩) fun w W => ?_
      iterate 4 refine BK (R := []) F Aa Aa (yC fun M Z hN hZ => Ag F Aa) Aa Aa fun a F => ?_
      refine BK (R := []) F Aa Aa (yC fun M Z hN hZ => CT F Aa Aa Aa) Aa Aa fun a F => ?_
      iterate 2 refine BK (R := []) F Aa Aa (yC fun M Z hN hZ => Ag F Aa) Aa Aa fun a F => ?_
      refine BK (R := []) F Aa Aa (yC fun M Z hN hZ => CT F Aa Aa Aa) Aa Aa fun a F => ?_
      obtain ⟨x29, h15, H⟩ := Am H
      refine BK (R := []) F Aa Aa (yC fun M Z hN hZ => CM (r := (Rp.int .i64)) EF F Aa Aa (Fx W (Au 0 Aa)) h15) Aa Aa fun a F => ?_
      refine BK (R := [15]) F Aa Aa (yC fun M Z hN hZ => AA (y := Value.int .i64 x29) (j := 0) (i := AG (x26 - 1)) F Aa Aa (E8 (hZ ((some 15), row v1 3 (Rp.int .i64) x25) (.head _) Aa)) h15 Fl.int.to T3 Aa) (by kernel_rfl) Aa fun a F => ?_
      iterate 2 refine BK (R := []) F Aa Aa (yC fun M Z hN hZ => Ag F Aa) Aa Aa fun a F => ?_
      obtain ⟨x30, h16, H⟩ := Am H
      refine BK (R := []) F Aa Aa (yC fun M Z hN hZ => CM (r := (Rp.int .i64)) EF F Aa Aa (Fx W (Au 0 Aa)) h16) Aa Aa fun a F => ?_
      refine BK (R := [15]) F Aa Aa (yC fun M Z hN hZ => AA (y := Value.int .i64 x30) (j := 0) (i := x26) F Aa Aa (E8 (hZ ((some 15), row v1 3 (Rp.int .i64) x25) (.head _) Aa)) h16 Fl.int.to T3 Aa) (by kernel_rfl) Aa fun a F => ?_
      obtain ⟨x31, h17, H⟩ := Am H
      refine BK (R := []) F Aa Aa (yC fun M Z hN hZ => CM (r := (Rp.int .i64)) EF F Aa Aa (Fx W (Au 0 Aa)) h17) Aa Aa fun a F => ?_
      refine EK Aa ?_
      refine BO (i := x26) (j := 0) (vs := [.int .i64 x29]) (x' := x29) F W Aa Aa Aa (k := 0) Aa Aa h17 T3 Aa Aa Aa Aa (fun A cs _ => Fl.int.sto (by rfl) _ _ _) fun w W => ?_
      refine BP (N2 := []) (NZ2 := []) (N3 := []) (NZ3 := [(some 15, row v1 3 (Rp.int .i64) x25)]) W Aa Aa AE (Al (fun h => Ap (by kernel_rfl) h) AE) ?_
      obtain ⟨x32, h18, H⟩ := Am H
      refine BK (R := []) F Aa Aa (yC fun M Z hN hZ => CM (r := (Rp.int .i64)) EF F Aa Aa (Fx W (Au 0 Aa)) h18) Aa Aa fun a F => ?_
      refine EK Aa ?_
      refine BO (i := AG (x26 - 1)) (j := 0) (vs := [.int .i64 x30]) (x' := x30) F W Aa Aa Aa (k := 0) Aa Aa h18 T3 Aa Aa Aa Aa (fun A cs _ => Fl.int.sto (by rfl) _ _ _) fun w W => ?_
      refine BP (N2 := []) (NZ2 := []) (N3 := []) (NZ3 := [(some 15, row v1 3 (Rp.int .i64) x25)]) W Aa Aa AE (Al (fun h => Ap (by kernel_rfl) h) AE) ?_
      refine HG (AU (Ac (Ab ?_)))
      refine ls F W Aa (Ag F Aa).q fun a w F W => ?_
      refine ls F W Aa (BL F Aa Aa Aa).q fun a w F W => ?_
      refine ls F W Aa (Ae F Aa).q fun a w F W => ?_
      refine Ad (Ac ?_)
      exact ⟨_, H, F.re ⟨rfl, Aa, Aa, Aa, Aa, Aa, Aa, trivial⟩, W⟩
     have H := AR (Bf hb) H
     rw [hb] at F
     refine Bz ?_
     iterate 2 refine BS ?_
     refine Bx (AU (Ac ?_))
     have H := L9 _ H
     exact ⟨_, _, H, F.re ⟨rfl, Aa, Aa, Aa, Aa, Aa, trivial⟩, W⟩
    have H := AR (Bf hb) H
    rw [hb] at F
    refine Ay (AU (Ac ?_))
    exact ⟨_, _, H, F.re ⟨rfl, Aa, Aa, Aa, Aa, Aa, trivial⟩, W⟩
   rintro a w ⟨x5, x6, hj, F, W⟩
   have H := K3 _ hj
   refine Ab ?_
   refine ls F W Aa (Ag F Aa).q fun a w F W => ?_
   refine ls F W Aa (BL F Aa Aa Aa).q fun a w F W => ?_
   refine ls F W Aa (Ae F Aa).q fun a w F W => ?_
   refine Ad (Ac ?_)
   exact ⟨_, H, F.re ⟨rfl, Aa, Aa, Aa, Aa, Aa, trivial⟩, W⟩
  have H := AR (Bf hb) H
  rw [hb] at F
  refine Bz ?_
  iterate 2 refine BS ?_
  refine Bx (Ac ?_)
  have H := L2 _ H
  exact ⟨_, H, F.re ⟨rfl, trivial⟩, W⟩
 rintro a w ⟨x1, hj, F, W⟩
 have H := K1 _ hj
 refine Ah (Ab ?_)
 refine ls F W Aa (Ae F Aa).q fun a w F W => ?_
 refine Ad (Ac (Av ?_))
 have H := AP H
 subst H
 refine AJ (.inl Aa) F W Aa (AB F Aa) ?_
 exact ⟨(), Aa, W⟩
theorem Xi : Has Tryz.prog 118 := ⟨fun args w => Aj Tryz.func118 rfl (by decide) args w⟩
def BJ (p1 : Int) (x7 : List Int) (x9 : Int) : Int → Option (Int ⊕ Int)
  | x11 => (if x11 ≤ x9 then (ix x7 p1).bind fun x13 => (ix x7 x11).bind fun x14 => some (!(AX x13 x14)) else some false).bind fun x12 => (if x12 = true then some (.inl (AG (x11 + 1))) else some (.inr x11))
def BI (p1 : Int) (x7 : List Int) (x10 : Int) : Int → Option (Int ⊕ Int)
  | x16 => (if x10 ≤ x16 then (ix x7 p1).bind fun x18 => (ix x7 x16).bind fun x19 => some (AX x18 x19) else some false).bind fun x17 => (if x17 = true then some (.inl (AG (x16 - 1))) else some (.inr x16))
def Bu (p1 : Int) : (List Int × Int × Int) → Option ((List Int × Int × Int) ⊕ (Int × List Int))
  | (x7, x8, x9) => (A6 (BJ p1 x7 x9) x8).bind fun x10 => (A6 (BI p1 x7 x10) x9).bind fun x15 => (if x15 < x10 then some (.inr (x10, x7)) else (ix x7 x15).bind fun x20 => (ix x7 x10).bind fun x21 => (ix x7 x10).bind fun x22 => (ix (AL x7 x10 x20) x15).bind fun x23 => some (.inl ((AL (AL x7 x10 x20) x15 x21), AG (x10 + 1), AG (x15 - 1))))
def BZ (p0 : List Int) (p1 : Int) (p2 : Int) (p3 : Int) : Option (Int × List Int) := (ix p0 p3).bind fun x1 => (ix p0 p1).bind fun x2 => (ix p0 p1).bind fun x3 => (ix (AL p0 p1 x1) p3).bind fun x4 => (A6 (Bu p1) ((AL (AL p0 p1 x1) p3 x2), AG (p1 + 1), AG (p2 - 1))).bind fun (x5, x6) => some (x5, x6)
theorem HD (Y : Nat → Prop) (X : List Nat) (w0 : World) (v1 : Value) (p0 : List Int) (p1 : Int) (p2 : Int) (p3 : Int) (r : Int × List Int) (H : BZ p0 p1 p2 p3 = some r) (hL : Stw ⟨Y, X, w0⟩ [] [row v1 3 (Rp.int .i64) p0] w0) :
    Calls Tryz.prog 120 #[v1, .int .i64 p1, .int .i64 p2, .int .i64 p3] w0 fun e w' => ∃ x : Unit, e = .returned (.int .i64 r.1) ∧ Stw ⟨Y, X, w0⟩ [] [row v1 3 (Rp.int .i64) r.2] w' := by
 refine enter Tryz.func120 Aa Tryz.ntmps120 Aa fun a F => ?_
 have W := hL
 unfold BZ at H
 refine Ah (Ab ?_)
 refine ls F W Aa (Ae F Aa).q fun a w F W => ?_
 refine Ad (Ac (Ah ?_))
 refine Kc 13 [2, 3] [0, 1, 4, 5, 6, 7, 8, 9, 10, 11, 12] (fun ch a d v w h => by cases d <;> exact h) W MO (by kernel_rfl) ?_
 iterate 2 refine hm F Aa Aa Aa fun a F => ?_
 refine LZ ?_
 iterate 4 refine hs F Aa Aa Aa (Ag F Aa).q fun a F => ?_
 obtain ⟨x1, h1, H⟩ := Am H
 refine hs F Aa Aa Aa (AM (r := (Rp.int .i64)) EF F Aa Aa (Au 0 Aa) h1).q fun a F => ?_
 refine hs F Aa Aa Aa (AA (y := Value.int .i64 x1) (j := 0) (i := p3) F Aa Aa (Au 0 Aa) h1 Fl.int.to T3 Aa).q fun a F => ?_
 iterate 2 refine hs F Aa Aa Aa (Ag F Aa).q fun a F => ?_
 obtain ⟨x2, h2, H⟩ := Am H
 refine hs F Aa Aa Aa (AM (r := (Rp.int .i64)) EF F Aa Aa (Au 0 Aa) h2).q fun a F => ?_
 refine hs F Aa Aa Aa (AA (y := Value.int .i64 x2) (j := 0) (i := p1) F Aa Aa (Au 0 Aa) h2 Fl.int.to T3 Aa).q fun a F => ?_
 obtain ⟨x3, h3, H⟩ := Am H
 refine hs F Aa Aa Aa (AM (r := (Rp.int .i64)) EF F Aa Aa (Au 0 Aa) h3).q fun a F => ?_
 refine Ou fun w W => ?_
 have W : Stw ⟨Y, X, w0⟩ [] [row v1 3 (Rp.int .i64) p0] w := W
 refine BO (i := p1) (j := 0) (vs := [.int .i64 x1]) (x' := x1) F W Aa Aa Aa (k := 0) Aa Aa h3 T3 Aa Aa Aa Aa (fun A cs _ => Fl.int.sto (by rfl) _ _ _) fun w W => ?_
 obtain ⟨x4, h4, H⟩ := Am H
 refine ls F W Aa (AM (r := (Rp.int .i64)) EF F Aa Aa (Au 0 Aa) h4).q fun a w F W => ?_
 refine BO (i := p3) (j := 0) (vs := [.int .i64 x2]) (x' := x2) F W Aa Aa Aa (k := 0) Aa Aa h4 T3 Aa Aa Aa Aa (fun A cs _ => Fl.int.sto (by rfl) _ _ _) fun w W => ?_
 refine Ad (Ac (Ah (Ab ?_)))
 refine ls F W Aa (Ag F Aa).q fun a w F W => ?_
 refine ls F W Aa (BL F Aa Aa Aa).q fun a w F W => ?_
 refine ls F W Aa (Ag F Aa).q fun a w F W => ?_
 refine ls F W Aa (CT F Aa Aa Aa).q fun a w F W => ?_
 iterate 2 refine ls F W Aa (Ae F Aa).q fun a w F W => ?_
 refine Ad (Ac ?_)
 obtain ⟨o1, G1, K1⟩ := Am H
 refine AO (fun a w => ∃ x5 : Int, ∃ x6 : List Int, some ((x5, x6)) = some o1 ∧ Fr 84 [] [(8, .int .i64 0), (9, .int .i64 x5)] a ∧ Stw ⟨Y, X, w0⟩ [] [row v1 3 (Rp.int .i64) x6] w) ?_ ?_
 ·
  have H := G1
  refine Az ?_
  refine BG H (fun s a w => Fr 84 [] [(0, v1), (1, .int .i64 p1), (8, .int .i64 0), (9, .int .i64 s.2.1), (10, .int .i64 s.2.2)] a ∧ Stw ⟨Y, X, w0⟩ [] [row v1 3 (Rp.int .i64) s.1] w) ⟨F.re ⟨rfl, Aa, Aa, Aa, Aa, trivial⟩, W⟩ fun s o a w H L2 hR => ?_
  obtain ⟨x7, x8, x9⟩ := s
  obtain ⟨F, W⟩ := hR
  have F : Fr 84 [] [(0, v1), (1, .int .i64 p1), (8, .int .i64 0), (9, .int .i64 x8), (10, .int .i64 x9)] a := F
  have W : Stw ⟨Y, X, w0⟩ [] [row v1 3 (Rp.int .i64) x7] w := W
  rw [Bu] at H
  refine Az ?_
  obtain ⟨o3, G3, K3⟩ := Am H
  refine AO (fun a w => ∃ x10 : Int, some (x10) = some o3 ∧ Fr 84 [] [(0, v1), (1, .int .i64 p1), (8, .int .i64 0), (9, .int .i64 x10), (10, .int .i64 x9)] a ∧ Stw ⟨Y, X, w0⟩ [] [row v1 3 (Rp.int .i64) x7] w) ?_ ?_
  ·
   have H := G3
   refine Az ?_
   refine BG H (fun s a w => Fr 84 [] [(0, v1), (1, .int .i64 p1), (8, .int .i64 0), (9, .int .i64 s), (10, .int .i64 x9)] a ∧ Stw ⟨Y, X, w0⟩ [] [row v1 3 (Rp.int .i64) x7] w) ⟨F.re ⟨rfl, Aa, Aa, Aa, Aa, trivial⟩, W⟩ fun s o a w H L4 hR => ?_
   obtain ⟨x11, rfl⟩ : ∃ x, x = s := ⟨s, rfl⟩
   obtain ⟨F, W⟩ := hR
   have F : Fr 84 [] [(0, v1), (1, .int .i64 p1), (8, .int .i64 0), (9, .int .i64 x11), (10, .int .i64 x9)] a := F
   have W : Stw ⟨Y, X, w0⟩ [] [row v1 3 (Rp.int .i64) x7] w := W
   rw [BJ] at H
   refine Ah ?_
   obtain ⟨o5, G5, K5⟩ := Am H
   refine AO (fun a w => ∃ x12 : Bool, some (x12) = some o5 ∧ Fr 84 [] [(0, v1), (1, .int .i64 p1), (8, .int .i64 0), (9, .int .i64 x11), (10, .int .i64 x9), (43, .bool x12)] a ∧ Stw ⟨Y, X, w0⟩ [] [row v1 3 (Rp.int .i64) x7] w) ?_ ?_
   ·
    have H := G5
    refine CK W MO (by kernel_rfl) ?_
    iterate 2 refine qs F Aa (Ag F Aa).q fun a F => ?_
    refine qs F Aa (H4 F Aa Aa).q fun a F => ?_
    refine qs F Aa (Ag F Aa).q fun a F => ?_
    rcases bxq (decide (x11 ≤ x9)) with hb | hb
    ·
     have H := AV (Bg hb) H
     rw [hb] at F
     iterate 2 refine Bk F (Af F Aa Aa Aa Aa) Aa (Ak Aa) (Ag F Aa).q fun a F => ?_
     obtain ⟨x13, h5, H⟩ := Am H
     refine Bk F (Af F Aa Aa Aa Aa) Aa (Ak Aa) (AM (r := (Rp.int .i64)) EF F Aa Aa (Au 0 Aa) h5).q fun a F => ?_
     refine Bk F (Af F Aa Aa Aa Aa) Aa (Ak Aa) (AA (y := Value.int .i64 x13) (j := 0) (i := p1) F Aa Aa (Au 0 Aa) h5 Fl.int.to T3 Aa).q fun a F => ?_
     iterate 2 refine Bk F (Af F Aa Aa Aa Aa) Aa (Ak Aa) (Ag F Aa).q fun a F => ?_
     obtain ⟨x14, h6, H⟩ := Am H
     refine Bk F (Af F Aa Aa Aa Aa) Aa (Ak Aa) (AM (r := (Rp.int .i64)) EF F Aa Aa (Au 0 Aa) h6).q fun a F => ?_
     refine Bk F (Af F Aa Aa Aa Aa) Aa (Ak Aa) (AA (y := Value.int .i64 x14) (j := 0) (i := x11) F Aa Aa (Au 0 Aa) h6 Fl.int.to T3 Aa).q fun a F => ?_
     refine Bk F (Af F Aa Aa Aa Aa) Aa (Ak Aa) (A3 (v := Value.bool (AX x13 x14)) F NI Aa (fun w W => CG any w x13 x14 _ Aa)) fun a F => ?_
     refine Bk F (Af F Aa Aa Aa Aa) Aa (Ak Aa) (F4 F Aa).q fun a F => ?_
     refine qs F Aa (Ax F Aa Aa Aa).q fun a F => ?_
     refine A9 fun w W => ?_
     refine Ac ?_
     exact ⟨_, H, F.re ⟨rfl, Aa, Aa, Aa, Aa, Aa, trivial⟩, W⟩
    have H := AR (Bf hb) H
    rw [hb] at F
    iterate 10 refine B4 F (Bi F Aa Aa Aa Aa Aa) Aa Aa fun a F => ?_
    refine qs F Aa (As F Aa Aa Aa).q fun a F => ?_
    refine A9 fun w W => ?_
    refine Ac ?_
    exact ⟨_, H, F.re ⟨rfl, Aa, Aa, Aa, Aa, Aa, trivial⟩, W⟩
   rintro a w ⟨x12, hj, F, W⟩
   have hj := AP hj
   subst hj
   have H := K5
   refine Aw F Aa (fun hb => ?_) fun hb => ?_
   ·
    have H := AV hb H
    rw [hb] at F
    refine Ay (Ac (Az (Ab ?_)))
    refine ls F W Aa (Ag F Aa).q fun a w F W => ?_
    refine ls F W Aa (BL F Aa Aa Aa).q fun a w F W => ?_
    refine ls F W Aa (Ae F Aa).q fun a w F W => ?_
    refine Ad (AU (Ac ?_))
    exact ⟨_, H, F.re ⟨rfl, Aa, Aa, Aa, Aa, trivial⟩, W⟩
   have H := AR (by rw [hb]; decide) H
   rw [hb] at F
   refine Bz ?_
   iterate 2 refine BS ?_
   refine Bx (Ac ?_)
   have H := L4 _ H
   exact ⟨_, H, F.re ⟨rfl, Aa, Aa, Aa, Aa, trivial⟩, W⟩
  rintro a w ⟨x10, hj, F, W⟩
  have hj := AP hj
  subst hj
  have H := K3
  obtain ⟨o6, G6, K6⟩ := Am H
  refine AO (fun a w => ∃ x15 : Int, some (x15) = some o6 ∧ Fr 84 [] [(0, v1), (1, .int .i64 p1), (8, .int .i64 0), (9, .int .i64 x10), (10, .int .i64 x15)] a ∧ Stw ⟨Y, X, w0⟩ [] [row v1 3 (Rp.int .i64) x7] w) ?_ ?_
  ·
   have H := G6
   refine Az ?_
   refine BG H (fun s a w => Fr 84 [] [(0, v1), (1, .int .i64 p1), (8, .int .i64 0), (9, .int .i64 x10), (10, .int .i64 s)] a ∧ Stw ⟨Y, X, w0⟩ [] [row v1 3 (Rp.int .i64) x7] w) ⟨F.re ⟨rfl, Aa, Aa, Aa, Aa, trivial⟩, W⟩ fun s o a w H L7 hR => ?_
   obtain ⟨x16, rfl⟩ : ∃ x, x = s := ⟨s, rfl⟩
   obtain ⟨F, W⟩ := hR
   have F : Fr 84 [] [(0, v1), (1, .int .i64 p1), (8, .int .i64 0), (9, .int .i64 x10), (10, .int .i64 x16)] a := F
   have W : Stw ⟨Y, X, w0⟩ [] [row v1 3 (Rp.int .i64) x7] w := W
   rw [BI] at H
   refine Ah ?_
   obtain ⟨o8, G8, K8⟩ := Am H
   refine AO (fun a w => ∃ x17 : Bool, some (x17) = some o8 ∧ Fr 84 [] [(0, v1), (1, .int .i64 p1), (8, .int .i64 0), (9, .int .i64 x10), (10, .int .i64 x16), (59, .bool x17)] a ∧ Stw ⟨Y, X, w0⟩ [] [row v1 3 (Rp.int .i64) x7] w) ?_ ?_
   ·
    have H := G8
    refine CK W MO (by kernel_rfl) ?_
    iterate 2 refine qs F Aa (Ag F Aa).q fun a F => ?_
    refine qs F Aa (H4 F Aa Aa).q fun a F => ?_
    refine qs F Aa (Ag F Aa).q fun a F => ?_
    rcases bxq (decide (x10 ≤ x16)) with hb | hb
    ·
     have H := AV (Bg hb) H
     rw [hb] at F
     iterate 2 refine Bk F (Af F Aa Aa Aa Aa) Aa (Ak Aa) (Ag F Aa).q fun a F => ?_
     obtain ⟨x18, h7, H⟩ := Am H
     refine Bk F (Af F Aa Aa Aa Aa) Aa (Ak Aa) (AM (r := (Rp.int .i64)) EF F Aa Aa (Au 0 Aa) h7).q fun a F => ?_
     refine Bk F (Af F Aa Aa Aa Aa) Aa (Ak Aa) (AA (y := Value.int .i64 x18) (j := 0) (i := p1) F Aa Aa (Au 0 Aa) h7 Fl.int.to T3 Aa).q fun a F => ?_
     iterate 2 refine Bk F (Af F Aa Aa Aa Aa) Aa (Ak Aa) (Ag F Aa).q fun a F => ?_
     obtain ⟨x19, h8, H⟩ := Am H
     refine Bk F (Af F Aa Aa Aa Aa) Aa (Ak Aa) (AM (r := (Rp.int .i64)) EF F Aa Aa (Au 0 Aa) h8).q fun a F => ?_
     refine Bk F (Af F Aa Aa Aa Aa) Aa (Ak Aa) (AA (y := Value.int .i64 x19) (j := 0) (i := x16) F Aa Aa (Au 0 Aa) h8 Fl.int.to T3 Aa).q fun a F => ?_
     refine Bk F (Af F Aa Aa Aa Aa) Aa (Ak Aa) (A3 (v := Value.bool (AX x18 x19)) F NI Aa (fun w W => CG any w x18 x19 _ Aa)) fun a F => ?_
     refine qs F Aa (Ax F Aa Aa Aa).q fun a F => ?_
     refine A9 fun w W => ?_
     refine Ac ?_
     exact ⟨_, H, F.re ⟨rfl, Aa, Aa, Aa, Aa, Aa, trivial⟩, W⟩
    have H := AR (Bf hb) H
    rw [hb] at F
    iterate 9 refine B4 F (Bi F Aa Aa Aa Aa Aa) Aa Aa fun a F => ?_
    refine qs F Aa (As F Aa Aa Aa).q fun a F => ?_
    refine A9 fun w W => ?_
    refine Ac ?_
    exact ⟨_, H, F.re ⟨rfl, Aa, Aa, Aa, Aa, Aa, trivial⟩, W⟩
   rintro a w ⟨x17, hj, F, W⟩
   have hj := AP hj
   subst hj
   have H := K8
   refine Aw F Aa (fun hb => ?_) fun hb => ?_
   ·
    have H := AV hb H
    rw [hb] at F
    refine Ay (Ac (Az (Ab ?_)))
    refine ls F W Aa (Ag F Aa).q fun a w F W => ?_
    refine ls F W Aa (CT F Aa Aa Aa).q fun a w F W => ?_
    refine ls F W Aa (Ae F Aa).q fun a w F W => ?_
    refine Ad (AU (Ac ?_))
    exact ⟨_, H, F.re ⟨rfl, Aa, Aa, Aa, Aa, trivial⟩, W⟩
   have H := AR (by rw [hb]; decide) H
   rw [hb] at F
   refine Bz ?_
   iterate 2 refine BS ?_
   refine Bx (Ac ?_)
   have H := L7 _ H
   exact ⟨_, H, F.re ⟨rfl, Aa, Aa, Aa, Aa, trivial⟩, W⟩
  rintro a w ⟨x15, hj, F, W⟩
  have hj := AP hj
  subst hj
  have H := K6
  refine Ah (Ah (Ab ?_))
  iterate 2 refine ls F W Aa (Ag F Aa).q fun a w F W => ?_
  refine ls F W Aa (HL F Aa Aa).q fun a w F W => ?_
  refine Ad (Ac ?_)
  refine Aw F Aa (fun hb => ?_) fun hb => ?_
  ·
   have H := AV (Bg hb) H
   rw [hb] at F
   refine Bz (BS ?_)
   refine Qk Aa ?_
   refine BS (Bx (Ac ?_))
   have H := L2 _ H
   exact ⟨_, _, H, F.re ⟨rfl, Aa, trivial⟩, W⟩
  have H := AR (Bf hb) H
  rw [hb] at F
  refine Ay (Ac (Ah ?_))
  refine Kc 13 [2, 3] [0, 1, 4, 5, 6, 7, 8, 9, 10, 11, 12] (fun ch a d v w h => by cases d <;> exact h) W MO (by kernel_rfl) ?_
  iterate 2 refine hm F Aa Aa Aa fun a F => ?_
  refine LZ ?_
  iterate 4 refine hs F Aa Aa Aa (Ag F Aa).q fun a F => ?_
  obtain ⟨x20, h9, H⟩ := Am H
  refine hs F Aa Aa Aa (AM (r := (Rp.int .i64)) EF F Aa Aa (Au 0 Aa) h9).q fun a F => ?_
  refine hs F Aa Aa Aa (AA (y := Value.int .i64 x20) (j := 0) (i := x15) F Aa Aa (Au 0 Aa) h9 Fl.int.to T3 Aa).q fun a F => ?_
  iterate 2 refine hs F Aa Aa Aa (Ag F Aa).q fun a F => ?_
  obtain ⟨x21, h10, H⟩ := Am H
  refine hs F Aa Aa Aa (AM (r := (Rp.int .i64)) EF F Aa Aa (Au 0 Aa) h10).q fun a F => ?_
  refine hs F Aa Aa Aa (AA (y := Value.int .i64 x21) (j := 0) (i := x10) F Aa Aa (Au 0 Aa) h10 Fl.int.to T3 Aa).q fun a F => ?_
  obtain ⟨x22, h11, H⟩ := Am H
  refine hs F Aa Aa Aa (AM (r := (Rp.int .i64)) EF F Aa Aa (Au 0 Aa) h11).q fun a F => ?_
  refine Ou fun w W => ?_
  have W : Stw ⟨Y, X, w0⟩ [] [row v1 3 (Rp.int .i64) x7] w := W
  refine BO (i := x10) (j := 0) (vs := [.int .i64 x20]) (x' := x20) F W Aa Aa Aa (k := 0) Aa Aa h11 T3 Aa Aa Aa Aa (fun A cs _ => Fl.int.sto (by rfl) _ _ _) fun w W => ?_
  obtain ⟨x23, h12, H⟩ := Am H
  refine ls F W Aa (AM (r := (Rp.int .i64)) EF F Aa Aa (Au 0 Aa) h12).q fun a w F W => ?_
  refine BO (i := x15) (j := 0) (vs := [.int .i64 x21]) (x' := x21) F W Aa Aa Aa (k := 0) Aa Aa h12 T3 Aa Aa Aa Aa (fun A cs _ => Fl.int.sto (by rfl) _ _ _) fun w W => ?_
  refine Ad (Ac (Ah (Ab ?_)))
  refine ls F W Aa (Ag F Aa).q fun a w F W => ?_
  refine ls F W Aa (BL F Aa Aa Aa).q fun a w F W => ?_
  refine ls F W Aa (Ae F Aa).q fun a w F W => ?_
  refine Ad (Ac (Ab ?_))
  refine ls F W Aa (Ag F Aa).q fun a w F W => ?_
  refine ls F W Aa (CT F Aa Aa Aa).q fun a w F W => ?_
  refine ls F W Aa (Ae F Aa).q fun a w F W => ?_
  refine Ad (AU (Ac ?_))
  exact ⟨_, H, F.re ⟨rfl, Aa, Aa, Aa, Aa, trivial⟩, W⟩
 rintro a w ⟨x5, x6, hj, F, W⟩
 have hj := AP hj
 subst hj
 have H := K1
 refine Ah (Ab ?_)
 refine ls F W Aa (Ag F Aa).q fun a w F W => ?_
 refine ls F W Aa (Ae F Aa).q fun a w F W => ?_
 refine Ad (Ac (Av ?_))
 have H := AP H
 subst H
 refine AJ (.inl Aa) F W Aa (AB F Aa) ?_
 exact ⟨(), Aa, W⟩
theorem Xc : Has Tryz.prog 120 := ⟨fun args w => Aj Tryz.func120 rfl (by decide) args w⟩
def BT (p0 : List Int) (p1 : Int) (p2 : Int) (p3 : Int) (x1 : Int) (x2 : Int) : Int → Option (Int ⊕ Int)
  | x6 => (if x6 ≤ (AG (p2 - 1)) then (ix (AL (AL p0 p1 x1) p3 x2) x6).bind fun x8 => (ix (AL (AL p0 p1 x1) p3 x2) p1).bind fun x9 => some (AX x8 x9) else some false).bind fun x7 => (if x7 = true then some (.inl (AG (x6 + 1))) else some (.inr x6))
def Cb (p0 : List Int) (p1 : Int) (p3 : Int) (x1 : Int) (x2 : Int) (x5 : Int) : Int → Option (Int ⊕ Int)
  | x11 => (if x5 ≤ x11 then (ix (AL (AL p0 p1 x1) p3 x2) x11).bind fun x13 => (ix (AL (AL p0 p1 x1) p3 x2) p1).bind fun x14 => some (!(AX x13 x14)) else some false).bind fun x12 => (if x12 = true then some (.inl (AG (x11 - 1))) else some (.inr x11))
def Ca (p1 : Int) (x25 : List Int) (x27 : Int) : Int → Option (Int ⊕ Int)
  | x29 => (if x29 ≤ x27 then (ix x25 x29).bind fun x31 => (ix x25 p1).bind fun x32 => some (AX x31 x32) else some false).bind fun x30 => (if x30 = true then some (.inl (AG (x29 + 1))) else some (.inr x29))
def B9 (p1 : Int) (x25 : List Int) (x28 : Int) : Int → Option (Int ⊕ Int)
  | x34 => (if x28 ≤ x34 then (ix x25 x34).bind fun x36 => (ix x25 p1).bind fun x37 => some (!(AX x36 x37)) else some false).bind fun x35 => (if x35 = true then some (.inl (AG (x34 - 1))) else some (.inr x34))
def BH (p1 : Int) : (List Int × Int × Int) → Option ((List Int × Int × Int) ⊕ (List Int × Int))
  | (x25, x26, x27) => (A6 (Ca p1 x25 x27) x26).bind fun x28 => (A6 (B9 p1 x25 x28) x27).bind fun x33 => (if x33 < x28 then some (.inr (x25, x33)) else (ix x25 x33).bind fun x38 => (ix x25 x28).bind fun x39 => (ix x25 x28).bind fun x40 => (ix (AL x25 x28 x38) x33).bind fun x41 => some (.inl ((AL (AL x25 x28 x38) x33 x39), AG (x28 + 1), AG (x33 - 1))))
def Cp (p0 : List Int) (p1 : Int) (p2 : Int) (p3 : Int) : Option (Int × Bool × List Int) := (ix p0 p3).bind fun x1 => (ix p0 p1).bind fun x2 => (ix p0 p1).bind fun x3 => (ix (AL p0 p1 x1) p3).bind fun x4 => (A6 (BT p0 p1 p2 p3 x1 x2) (AG (p1 + 1))).bind fun x5 => (A6 (Cb p0 p1 p3 x1 x2 x5) (AG (p2 - 1))).bind fun x10 => (if x10 < x5 then (ix (AL (AL p0 p1 x1) p3 x2) p1).bind fun x15 => (ix (AL (AL p0 p1 x1) p3 x2) x10).bind fun x16 => (ix (AL (AL p0 p1 x1) p3 x2) x10).bind fun x17 => (ix (AL (AL (AL p0 p1 x1) p3 x2) x10 x15) p1).bind fun x18 => some (x10, true, (AL (AL (AL (AL p0 p1 x1) p3 x2) x10 x15) p1 x16)) else (ix (AL (AL p0 p1 x1) p3 x2) x10).bind fun x19 => (ix (AL (AL p0 p1 x1) p3 x2) x5).bind fun x20 => (ix (AL (AL p0 p1 x1) p3 x2) x5).bind fun x21 => (ix (AL (AL (AL p0 p1 x1) p3 x2) x5 x19) x10).bind fun x22 => (A6 (BH p1) ((AL (AL (AL (AL p0 p1 x1) p3 x2) x5 x19) x10 x20), AG (x5 + 1), AG (x10 - 1))).bind fun (x23, x24) => (ix x23 p1).bind fun x42 => (ix x23 x24).bind fun x43 => (ix x23 x24).bind fun x44 => (ix (AL x23 x24 x42) p1).bind fun x45 => some (x24, false, (AL (AL x23 x24 x42) p1 x43)))
theorem Jg (Y : Nat → Prop) (X : List Nat) (w0 : World) (v1 : Value) (p0 : List Int) (p1 : Int) (p2 : Int) (p3 : Int) (r : Int × Bool × List Int) (H : Cp p0 p1 p2 p3 = some r) (hL : Stw ⟨Y, X, w0⟩ [] [row v1 3 (Rp.int .i64) p0] w0) :
    Calls Tryz.prog 121 #[v1, .int .i64 p1, .int .i64 p2, .int .i64 p3] w0 fun e w' => ∃ x : Unit, e = .returned (.tuple #[.int .i64 r.1, .bool r.2.1]) ∧ Stw ⟨Y, X, w0⟩ [] [row v1 3 (Rp.int .i64) r.2.2] w' := by
 refine enter Tryz.func121 Aa Tryz.ntmps121 Aa fun a F => ?_
 have W := hL
 unfold Cp at H
 refine Ah (Ab ?_)
 iterate 2 refine ls F W Aa (Ae F Aa).q fun a w F W => ?_
 refine Ad (Ac (Ah ?_))
 refine Kc 13 [2, 3] [0, 1, 4, 5, 6, 7, 8, 9, 10, 11, 12] (fun ch a d v w h => by cases d <;> exact h) W MO (by kernel_rfl) ?_
 iterate 2 refine hm F Aa Aa Aa fun a F => ?_
 refine LZ ?_
 iterate 4 refine hs F Aa Aa Aa (Ag F Aa).q fun a F => ?_
 obtain ⟨x1, h1, H⟩ := Am H
 refine hs F Aa Aa Aa (AM (r := (Rp.int .i64)) EF F Aa Aa (Au 0 Aa) h1).q fun a F => ?_
 refine hs F Aa Aa Aa (AA (y := Value.int .i64 x1) (j := 0) (i := p3) F Aa Aa (Au 0 Aa) h1 Fl.int.to T3 Aa).q fun a F => ?_
 iterate 2 refine hs F Aa Aa Aa (Ag F Aa).q fun a F => ?_
 obtain ⟨x2, h2, H⟩ := Am H
 refine hs F Aa Aa Aa (AM (r := (Rp.int .i64)) EF F Aa Aa (Au 0 Aa) h2).q fun a F => ?_
 refine hs F Aa Aa Aa (AA (y := Value.int .i64 x2) (j := 0) (i := p1) F Aa Aa (Au 0 Aa) h2 Fl.int.to T3 Aa).q fun a F => ?_
 obtain ⟨x3, h3, H⟩ := Am H
 refine hs F Aa Aa Aa (AM (r := (Rp.int .i64)) EF F Aa Aa (Au 0 Aa) h3).q fun a F => ?_
 refine Ou fun w W => ?_
 have W : Stw ⟨Y, X, w0⟩ [] [row v1 3 (Rp.int .i64) p0] w := W
 refine BO (i := p1) (j := 0) (vs := [.int .i64 x1]) (x' := x1) F W Aa Aa Aa (k := 0) Aa Aa h3 T3 Aa Aa Aa Aa (fun A cs _ => Fl.int.sto (by rfl) _ _ _) fun w W => ?_
 obtain ⟨x4, h4, H⟩ := Am H
 refine ls F W Aa (AM (r := (Rp.int .i64)) EF F Aa Aa (Au 0 Aa) h4).q fun a w F W => ?_
 refine BO (i := p3) (j := 0) (vs := [.int .i64 x2]) (x' := x2) F W Aa Aa Aa (k := 0) Aa Aa h4 T3 Aa Aa Aa Aa (fun A cs _ => Fl.int.sto (by rfl) _ _ _) fun w W => ?_
 refine Ad (Ac (Ah (Ab ?_)))
 refine ls F W Aa (Ag F Aa).q fun a w F W => ?_
 refine ls F W Aa (BL F Aa Aa Aa).q fun a w F W => ?_
 refine ls F W Aa (Ag F Aa).q fun a w F W => ?_
 refine ls F W Aa (CT F Aa Aa Aa).q fun a w F W => ?_
 iterate 2 refine ls F W Aa (Ae F Aa).q fun a w F W => ?_
 refine Ad (Ac ?_)
 obtain ⟨o1, G1, K1⟩ := Am H
 refine AO (fun a w => ∃ x5 : Int, some (x5) = some o1 ∧ Fr 168 [] [(0, v1), (1, .int .i64 p1), (8, .int .i64 0), (9, .bool false), (10, .int .i64 x5), (11, .int .i64 (AG (p2 - 1)))] a ∧ Stw ⟨Y, X, w0⟩ [] [row v1 3 (Rp.int .i64) (AL (AL p0 p1 x1) p3 x2)] w) ?_ ?_
 ·
  have H := G1
  refine Az ?_
  refine BG H (fun s a w => Fr 168 [] [(0, v1), (1, .int .i64 p1), (8, .int .i64 0), (9, .bool false), (10, .int .i64 s), (11, .int .i64 (AG (p2 - 1)))] a ∧ Stw ⟨Y, X, w0⟩ [] [row v1 3 (Rp.int .i64) (AL (AL p0 p1 x1) p3 x2)] w) ⟨F.re ⟨rfl, Aa, Aa, Aa, Aa, Aa, trivial⟩, W⟩ fun s o a w H L2 hR => ?_
  obtain ⟨x6, rfl⟩ : ∃ x, x = s := ⟨s, rfl⟩
  obtain ⟨F, W⟩ := hR
  have F : Fr 168 [] [(0, v1), (1, .int .i64 p1), (8, .int .i64 0), (9, .bool false), (10, .int .i64 x6), (11, .int .i64 (AG (p2 - 1)))] a := F
  have W : Stw ⟨Y, X, w0⟩ [] [row v1 3 (Rp.int .i64) (AL (AL p0 p1 x1) p3 x2)] w := W
  rw [BT] at H
  refine Ah ?_
  obtain ⟨o3, G3, K3⟩ := Am H
  refine AO (fun a w => ∃ x7 : Bool, some (x7) = some o3 ∧ Fr 168 [] [(0, v1), (1, .int .i64 p1), (8, .int .i64 0), (9, .bool false), (10, .int .i64 x6), (11, .int .i64 (AG (p2 - 1))), (43, .bool x7)] a ∧ Stw ⟨Y, X, w0⟩ [] [row v1 3 (Rp.int .i64) (AL (AL p0 p1 x1) p3 x2)] w) ?_ ?_
  ·
   have H := G3
   refine CK W MO (by kernel_rfl) ?_
   iterate 2 refine qs F Aa (Ag F Aa).q fun a F => ?_
   refine qs F Aa (H4 F Aa Aa).q fun a F => ?_
   refine qs F Aa (Ag F Aa).q fun a F => ?_
   rcases bxq (decide (x6 ≤ (AG (p2 - 1)))) with hb | hb
   ·
    have H := AV (Bg hb) H
    rw [hb] at F
    iterate 2 refine Bk F (Af F Aa Aa Aa Aa) Aa (Ak Aa) (Ag F Aa).q fun a F => ?_
    obtain ⟨x8, h5, H⟩ := Am H
    refine Bk F (Af F Aa Aa Aa Aa) Aa (Ak Aa) (AM (r := (Rp.int .i64)) EF F Aa Aa (Au 0 Aa) h5).q fun a F => ?_
    refine Bk F (Af F Aa Aa Aa Aa) Aa (Ak Aa) (AA (y := Value.int .i64 x8) (j := 0) (i := x6) F Aa Aa (Au 0 Aa) h5 Fl.int.to T3 Aa).q fun a F => ?_
    iterate 2 refine Bk F (Af F Aa Aa Aa Aa) Aa (Ak Aa) (Ag F Aa).q fun a F => ?_
    obtain ⟨x9, h6, H⟩ := Am H
    refine Bk F (Af F Aa Aa Aa Aa) Aa (Ak Aa) (AM (r := (Rp.int .i64)) EF F Aa Aa (Au 0 Aa) h6).q fun a F => ?_
    refine Bk F (Af F Aa Aa Aa Aa) Aa (Ak Aa) (AA (y := Value.int .i64 x9) (j := 0) (i := p1) F Aa Aa (Au 0 Aa) h6 Fl.int.to T3 Aa).q fun a F => ?_
    refine Bk F (Af F Aa Aa Aa Aa) Aa (Ak Aa) (A3 (v := Value.bool (AX x8 x9)) F NI Aa (fun w W => CG any w x8 x9 _ Aa)) fun a F => ?_
    refine qs F Aa (Ax F Aa Aa Aa).q fun a F => ?_
    refine A9 fun w W => ?_
    refine Ac ?_
    exact ⟨_, H, F.re ⟨rfl, Aa, Aa, Aa, Aa, Aa, Aa, trivial⟩, W⟩
   have H := AR (Bf hb) H
   rw [hb] at F
   iterate 9 refine B4 F (Bi F Aa Aa Aa Aa Aa) Aa Aa fun a F => ?_
   refine qs F Aa (As F Aa Aa Aa).q fun a F => ?_
   refine A9 fun w W => ?_
   refine Ac ?_
   exact ⟨_, H, F.re ⟨rfl, Aa, Aa, Aa, Aa, Aa, Aa, trivial⟩, W⟩
  rintro a w ⟨x7, hj, F, W⟩
  have hj := AP hj
  subst hj
  have H := K3
  refine Aw F Aa (fun hb => ?_) fun hb => ?_
  ·
   have H := AV hb H
   rw [hb] at F
   refine Ay (Ac (Az (Ab ?_)))
   refine ls F W Aa (Ag F Aa).q fun a w F W => ?_
   refine ls F W Aa (BL F Aa Aa Aa).q fun a w F W => ?_
   refine ls F W Aa (Ae F Aa).q fun a w F W => ?_
   refine Ad (AU (Ac ?_))
   exact ⟨_, H, F.re ⟨rfl, Aa, Aa, Aa, Aa, Aa, trivial⟩, W⟩
  have H := AR (by rw [hb]; decide) H
  rw [hb] at F
  refine Bz ?_
  iterate 2 refine BS ?_
  refine Bx (Ac ?_)
  have H := L2 _ H
  exact ⟨_, H, F.re ⟨rfl, Aa, Aa, Aa, Aa, Aa, trivial⟩, W⟩
 rintro a w ⟨x5, hj, F, W⟩
 have hj := AP hj
 subst hj
 have H := K1
 obtain ⟨o4, G4, K4⟩ := Am H
 refine AO (fun a w => ∃ x10 : Int, some (x10) = some o4 ∧ Fr 168 [] [(0, v1), (1, .int .i64 p1), (8, .int .i64 0), (9, .bool false), (10, .int .i64 x5), (11, .int .i64 x10)] a ∧ Stw ⟨Y, X, w0⟩ [] [row v1 3 (Rp.int .i64) (AL (AL p0 p1 x1) p3 x2)] w) ?_ ?_
 ·
  have H := G4
  refine Az ?_
  refine BG H (fun s a w => Fr 168 [] [(0, v1), (1, .int .i64 p1), (8, .int .i64 0), (9, .bool false), (10, .int .i64 x5), (11, .int .i64 s)] a ∧ Stw ⟨Y, X, w0⟩ [] [row v1 3 (Rp.int .i64) (AL (AL p0 p1 x1) p3 x2)] w) ⟨F.re ⟨rfl, Aa, Aa, Aa, Aa, Aa, trivial⟩, W⟩ fun s o a w H L5 hR => ?_
  obtain ⟨x11, rfl⟩ : ∃ x, x = s := ⟨s, rfl⟩
  obtain ⟨F, W⟩ := hR
  have F : Fr 168 [] [(0, v1), (1, .int .i64 p1), (8, .int .i64 0), (9, .bool false), (10, .int .i64 x5), (11, .int .i64 x11)] a := F
  have W : Stw ⟨Y, X, w0⟩ [] [row v1 3 (Rp.int .i64) (AL (AL p0 p1 x1) p3 x2)] w := W
  rw [Cb] at H
  refine Ah ?_
  obtain ⟨o6, G6, K6⟩ := Am H
  refine AO (fun a w => ∃ x12 : Bool, some (x12) = some o6 ∧ Fr 168 [] [(0, v1), (1, .int .i64 p1), (8, .int .i64 0), (9, .bool false), (10, .int .i64 x5), (11, .int .i64 x11), (60, .bool x12)] a ∧ Stw ⟨Y, X, w0⟩ [] [row v1 3 (Rp.int .i64) (AL (AL p0 p1 x1) p3 x2)] w) ?_ ?_
  ·
   have H := G6
   refine CK W MO (by kernel_rfl) ?_
   iterate 2 refine qs F Aa (Ag F Aa).q fun a F => ?_
   refine qs F Aa (H4 F Aa Aa).q fun a F => ?_
   refine qs F Aa (Ag F Aa).q fun a F => ?_
   rcases bxq (decide (x5 ≤ x11)) with hb | hb
   ·
    have H := AV (Bg hb) H
    rw [hb] at F
    iterate 2 refine Bk F (Af F Aa Aa Aa Aa) Aa (Ak Aa) (Ag F Aa).q fun a F => ?_
    obtain ⟨x13, h7, H⟩ := Am H
    refine Bk F (Af F Aa Aa Aa Aa) Aa (Ak Aa) (AM (r := (Rp.int .i64)) EF F Aa Aa (Au 0 Aa) h7).q fun a F => ?_
    refine Bk F (Af F Aa Aa Aa Aa) Aa (Ak Aa) (AA (y := Value.int .i64 x13) (j := 0) (i := x11) F Aa Aa (Au 0 Aa) h7 Fl.int.to T3 Aa).q fun a F => ?_
    iterate 2 refine Bk F (Af F Aa Aa Aa Aa) Aa (Ak Aa) (Ag F Aa).q fun a F => ?_
    obtain ⟨x14, h8, H⟩ := Am H
    refine Bk F (Af F Aa Aa Aa Aa) Aa (Ak Aa) (AM (r := (Rp.int .i64)) EF F Aa Aa (Au 0 Aa) h8).q fun a F => ?_
    refine Bk F (Af F Aa Aa Aa Aa) Aa (Ak Aa) (AA (y := Value.int .i64 x14) (j := 0) (i := p1) F Aa Aa (Au 0 Aa) h8 Fl.int.to T3 Aa).q fun a F => ?_
    refine Bk F (Af F Aa Aa Aa Aa) Aa (Ak Aa) (A3 (v := Value.bool (AX x13 x14)) F NI Aa (fun w W => CG any w x13 x14 _ Aa)) fun a F => ?_
    refine Bk F (Af F Aa Aa Aa Aa) Aa (Ak Aa) (F4 F Aa).q fun a F => ?_
    refine qs F Aa (Ax F Aa Aa Aa).q fun a F => ?_
    refine A9 fun w W => ?_
    refine Ac ?_
    exact ⟨_, H, F.re ⟨rfl, Aa, Aa, Aa, Aa, Aa, Aa, trivial⟩, W⟩
   have H := AR (Bf hb) H
   rw [hb] at F
   iterate 10 refine B4 F (Bi F Aa Aa Aa Aa Aa) Aa Aa fun a F => ?_
   refine qs F Aa (As F Aa Aa Aa).q fun a F => ?_
   refine A9 fun w W => ?_
   refine Ac ?_
   exact ⟨_, H, F.re ⟨rfl, Aa, Aa, Aa, Aa, Aa, Aa, trivial⟩, W⟩
  rintro a w ⟨x12, hj, F, W⟩
  have hj := AP hj
  subst hj
  have H := K6
  refine Aw F Aa (fun hb => ?_) fun hb => ?_
  ·
   have H := AV hb H
   rw [hb] at F
   refine Ay (Ac (Az (Ab ?_)))
   refine ls F W Aa (Ag F Aa).q fun a w F W => ?_
   refine ls F W Aa (CT F Aa Aa Aa).q fun a w F W => ?_
   refine ls F W Aa (Ae F Aa).q fun a w F W => ?_
   refine Ad (AU (Ac ?_))
   exact ⟨_, H, F.re ⟨rfl, Aa, Aa, Aa, Aa, Aa, trivial⟩, W⟩
  have H := AR (by rw [hb]; decide) H
  rw [hb] at F
  refine Bz ?_
  iterate 2 refine BS ?_
  refine Bx (Ac ?_)
  have H := L5 _ H
  exact ⟨_, H, F.re ⟨rfl, Aa, Aa, Aa, Aa, Aa, trivial⟩, W⟩
 rintro a w ⟨x10, hj, F, W⟩
 have hj := AP hj
 subst hj
 have H := K4
 refine Ah (Ah (Ab ?_))
 iterate 2 refine ls F W Aa (Ag F Aa).q fun a w F W => ?_
 refine ls F W Aa (HL F Aa Aa).q fun a w F W => ?_
 refine Ad (Ac ?_)
 refine Aw F Aa (fun hb => ?_) fun hb => ?_
 ·
  have H := AV (Bg hb) H
  rw [hb] at F
  refine Ah ?_
  refine Kc 13 [2, 3] [0, 1, 4, 5, 6, 7, 8, 9, 10, 11, 12] (fun ch a d v w h => by cases d <;> exact h) W MO (by kernel_rfl) ?_
  iterate 2 refine hm F Aa Aa Aa fun a F => ?_
  refine LZ ?_
  iterate 4 refine hs F Aa Aa Aa (Ag F Aa).q fun a F => ?_
  obtain ⟨x15, h9, H⟩ := Am H
  refine hs F Aa Aa Aa (AM (r := (Rp.int .i64)) EF F Aa Aa (Au 0 Aa) h9).q fun a F => ?_
  refine hs F Aa Aa Aa (AA (y := Value.int .i64 x15) (j := 0) (i := p1) F Aa Aa (Au 0 Aa) h9 Fl.int.to T3 Aa).q fun a F => ?_
  iterate 2 refine hs F Aa Aa Aa (Ag F Aa).q fun a F => ?_
  obtain ⟨x16, h10, H⟩ := Am H
  refine hs F Aa Aa Aa (AM (r := (Rp.int .i64)) EF F Aa Aa (Au 0 Aa) h10).q fun a F => ?_
  refine hs F Aa Aa Aa (AA (y := Value.int .i64 x16) (j := 0) (i := x10) F Aa Aa (Au 0 Aa) h10 Fl.int.to T3 Aa).q fun a F => ?_
  obtain ⟨x17, h11, H⟩ := Am H
  refine hs F Aa Aa Aa (AM (r := (Rp.int .i64)) EF F Aa Aa (Au 0 Aa) h11).q fun a F => ?_
  refine Ou fun w W => ?_
  have W : Stw ⟨Y, X, w0⟩ [] [row v1 3 (Rp.int .i64) (AL (AL p0 p1 x1) p3 x2)] w := W
  refine BO (i := x10) (j := 0) (vs := [.int .i64 x15]) (x' := x15) F W Aa Aa Aa (k := 0) Aa Aa h11 T3 Aa Aa Aa Aa (fun A cs _ => Fl.int.sto (by rfl) _ _ _) fun w W => ?_
  obtain ⟨x18, h12, H⟩ := Am H
  refine ls F W Aa (AM (r := (Rp.int .i64)) EF F Aa Aa (Au 0 Aa) h12).q fun a w F W => ?_
  refine BO (i := p1) (j := 0) (vs := [.int .i64 x16]) (x' := x16) F W Aa Aa Aa (k := 0) Aa Aa h12 T3 Aa Aa Aa Aa (fun A cs _ => Fl.int.sto (by rfl) _ _ _) fun w W => ?_
  refine Ad (Ac (Ah (Ab ?_)))
  refine ls F W Aa (Ag F Aa).q fun a w F W => ?_
  iterate 2 refine ls F W Aa (Ae F Aa).q fun a w F W => ?_
  refine Ad (Ac (Av (AN ?_)))
  have H := AP H
  subst H
  refine Pm (.inl Aa) F W Aa (AB F Aa) (AB F Aa) ?_
  exact ⟨(), Aa, W⟩
 have H := AR (Bf hb) H
 rw [hb] at F
 refine Ay (Ac (Ah ?_))
 refine Kc 13 [2, 3] [0, 1, 4, 5, 6, 7, 8, 9, 10, 11, 12] (fun ch a d v w h => by cases d <;> exact h) W MO (by kernel_rfl) ?_
 iterate 2 refine hm F Aa Aa Aa fun a F => ?_
 refine LZ ?_
 iterate 4 refine hs F Aa Aa Aa (Ag F Aa).q fun a F => ?_
 obtain ⟨x19, h13, H⟩ := Am H
 refine hs F Aa Aa Aa (AM (r := (Rp.int .i64)) EF F Aa Aa (Au 0 Aa) h13).q fun a F => ?_
 refine hs F Aa Aa Aa (AA (y := Value.int .i64 x19) (j := 0) (i := x10) F Aa Aa (Au 0 Aa) h13 Fl.int.to T3 Aa).q fun a F => ?_
 iterate 2 refine hs F Aa Aa Aa (Ag F Aa).q fun a F => ?_
 obtain ⟨x20, h14, H⟩ := Am H
 refine hs F Aa Aa Aa (AM (r := (Rp.int .i64)) EF F Aa Aa (Au 0 Aa) h14).q fun a F => ?_
 refine hs F Aa Aa Aa (AA (y := Value.int .i64 x20) (j := 0) (i := x5) F Aa Aa (Au 0 Aa) h14 Fl.int.to T3 Aa).q fun a F => ?_
 obtain ⟨x21, h15, H⟩ := Am H
 refine hs F Aa Aa Aa (AM (r := (Rp.int .i64)) EF F Aa Aa (Au 0 Aa) h15).q fun a F => ?_
 refine Ou fun w W => ?_
 have W : Stw ⟨Y, X, w0⟩ [] [row v1 3 (Rp.int .i64) (AL (AL p0 p1 x1) p3 x2)] w := W
 refine BO (i := x5) (j := 0) (vs := [.int .i64 x19]) (x' := x19) F W Aa Aa Aa (k := 0) Aa Aa h15 T3 Aa Aa Aa Aa (fun A cs _ => Fl.int.sto (by rfl) _ _ _) fun w W => ?_
 obtain ⟨x22, h16, H⟩ := Am H
 refine ls F W Aa (AM (r := (Rp.int .i64)) EF F Aa Aa (Au 0 Aa) h16).q fun a w F W => ?_
 refine BO (i := x10) (j := 0) (vs := [.int .i64 x20]) (x' := x20) F W Aa Aa Aa (k := 0) Aa Aa h16 T3 Aa Aa Aa Aa (fun A cs _ => Fl.int.sto (by rfl) _ _ _) fun w W => ?_
 refine Ad (Ac (Ah (Ab ?_)))
 refine ls F W Aa (Ag F Aa).q fun a w F W => ?_
 refine ls F W Aa (BL F Aa Aa Aa).q fun a w F W => ?_
 refine ls F W Aa (Ae F Aa).q fun a w F W => ?_
 refine Ad (Ac (Ah (Ab ?_)))
 refine ls F W Aa (Ag F Aa).q fun a w F W => ?_
 refine ls F W Aa (CT F Aa Aa Aa).q fun a w F W => ?_
 refine ls F W Aa (Ae F Aa).q fun a w F W => ?_
 refine Ad (Ac ?_)
 obtain ⟨o7, G7, K7⟩ := Am H
 refine AO (fun a w => ∃ x23 : List Int, ∃ x24 : Int, some ((x23, x24)) = some o7 ∧ Fr 168 [] [(0, v1), (1, .int .i64 p1), (8, .int .i64 0), (9, .bool false), (11, .int .i64 x24)] a ∧ Stw ⟨Y, X, w0⟩ [] [row v1 3 (Rp.int .i64) x23] w) ?_ ?_
 ·
  have H := G7
  refine Az ?_
  refine BG H (fun s a w => Fr 168 [] [(0, v1), (1, .int .i64 p1), (8, .int .i64 0), (9, .bool false), (10, .int .i64 s.2.1), (11, .int .i64 s.2.2)] a ∧ Stw ⟨Y, X, w0⟩ [] [row v1 3 (Rp.int .i64) s.1] w) ⟨F.re ⟨rfl, Aa, Aa, Aa, Aa, Aa, trivial⟩, W⟩ fun s o a w H L8 hR => ?_
  obtain ⟨x25, x26, x27⟩ := s
  obtain ⟨F, W⟩ := hR
  have F : Fr 168 [] [(0, v1), (1, .int .i64 p1), (8, .int .i64 0), (9, .bool false), (10, .int .i64 x26), (11, .int .i64 x27)] a := F
  have W : Stw ⟨Y, X, w0⟩ [] [row v1 3 (Rp.int .i64) x25] w := W
  rw [BH] at H
  refine Az ?_
  obtain ⟨o9, G9, K9⟩ := Am H
  refine AO (fun a w => ∃ x28 : Int, some (x28) = some o9 ∧ Fr 168 [] [(0, v1), (1, .int .i64 p1), (8, .int .i64 0), (9, .bool false), (10, .int .i64 x28), (11, .int .i64 x27)] a ∧ Stw ⟨Y, X, w0⟩ [] [row v1 3 (Rp.int .i64) x25] w) ?_ ?_
  ·
   have H := G9
   refine Az ?_
   refine BG H (fun s a w => Fr 168 [] [(0, v1), (1, .int .i64 p1), (8, .int .i64 0), (9, .bool false), (10, .int .i64 s), (11, .int .i64 x27)] a ∧ Stw ⟨Y, X, w0⟩ [] [row v1 3 (Rp.int .i64) x25] w) ⟨F.re ⟨rfl, Aa, Aa, Aa, Aa, Aa, trivial⟩, W⟩ fun s o a w H L10 hR => ?_
   obtain ⟨x29, rfl⟩ : ∃ x, x = s := ⟨s, rfl⟩
   obtain ⟨F, W⟩ := hR
   have F : Fr 168 [] [(0, v1), (1, .int .i64 p1), (8, .int .i64 0), (9, .bool false), (10, .int .i64 x29), (11, .int .i64 x27)] a := F
   have W : Stw ⟨Y, X, w0⟩ [] [row v1 3 (Rp.int .i64) x25] w := W
   rw [Ca] at H
   refine Ah ?_
   obtain ⟨o11, G11, K11⟩ := Am H
   refine AO (fun a w => ∃ x30 : Bool, some (x30) = some o11 ∧ Fr 168 [] [(0, v1), (1, .int .i64 p1), (8, .int .i64 0), (9, .bool false), (10, .int .i64 x29), (11, .int .i64 x27), (112, .bool x30)] a ∧ Stw ⟨Y, X, w0⟩ [] [row v1 3 (Rp.int .i64) x25] w) ?_ ?_
   ·
    have H := G11
    refine CK W MO (by kernel_rfl) ?_
    iterate 2 refine qs F Aa (Ag F Aa).q fun a F => ?_
    refine qs F Aa (H4 F Aa Aa).q fun a F => ?_
    refine qs F Aa (Ag F Aa).q fun a F => ?_
    rcases bxq (decide (x29 ≤ x27)) with hb | hb
    ·
     have H := AV (Bg hb) H
     rw [hb] at F
     iterate 2 refine Bk F (Af F Aa Aa Aa Aa) Aa (Ak Aa) (Ag F Aa).q fun a F => ?_
     obtain ⟨x31, h17, H⟩ := Am H
     refine Bk F (Af F Aa Aa Aa Aa) Aa (Ak Aa) (AM (r := (Rp.int .i64)) EF F Aa Aa (Au 0 Aa) h17).q fun a F => ?_
     refine Bk F (Af F Aa Aa Aa Aa) Aa (Ak Aa) (AA (y := Value.int .i64 x31) (j := 0) (i := x29) F Aa Aa (Au 0 Aa) h17 Fl.int.to T3 Aa).q fun a F => ?_
     iterate 2 refine Bk F (Af F Aa Aa Aa Aa) Aa (Ak Aa) (Ag F Aa).q fun a F => ?_
     obtain ⟨x32, h18, H⟩ := Am H
     refine Bk F (Af F Aa Aa Aa Aa) Aa (Ak Aa) (AM (r := (Rp.int .i64)) EF F Aa Aa (Au 0 Aa) h18).q fun a F => ?_
     refine Bk F (Af F Aa Aa Aa Aa) Aa (Ak Aa) (AA (y := Value.int .i64 x32) (j := 0) (i := p1) F Aa Aa (Au 0 Aa) h18 Fl.int.to T3 Aa).q fun a F => ?_
     refine Bk F (Af F Aa Aa Aa Aa) Aa (Ak Aa) (A3 (v := Value.bool (AX x31 x32)) F NI Aa (fun w W => CG any w x31 x32 _ Aa)) fun a F => ?_
     refine qs F Aa (Ax F Aa Aa Aa).q fun a F => ?_
     refine A9 fun w W => ?_
     refine Ac ?_
     exact ⟨_, H, F.re ⟨rfl, Aa, Aa, Aa, Aa, Aa, Aa, trivial⟩, W⟩
    have H := AR (Bf hb) H
    rw [hb] at F
    iterate 9 refine B4 F (Bi F Aa Aa Aa Aa Aa) Aa Aa fun a F => ?_
    refine qs F Aa (As F Aa Aa Aa).q fun a F => ?_
    refine A9 fun w W => ?_
    refine Ac ?_
    exact ⟨_, H, F.re ⟨rfl, Aa, Aa, Aa, Aa, Aa, Aa, trivial⟩, W⟩
   rintro a w ⟨x30, hj, F, W⟩
   have hj := AP hj
   subst hj
   have H := K11
   refine Aw F Aa (fun hb => ?_) fun hb => ?_
   ·
    have H := AV hb H
    rw [hb] at F
    refine Ay (Ac (Az (Ab ?_)))
    refine ls F W Aa (Ag F Aa).q fun a w F W => ?_
    refine ls F W Aa (BL F Aa Aa Aa).q fun a w F W => ?_
    refine ls F W Aa (Ae F Aa).q fun a w F W => ?_
    refine Ad (AU (Ac ?_))
    exact ⟨_, H, F.re ⟨rfl, Aa, Aa, Aa, Aa, Aa, trivial⟩, W⟩
   have H := AR (by rw [hb]; decide) H
   rw [hb] at F
   refine Bz ?_
   iterate 2 refine BS ?_
   refine Bx (Ac ?_)
   have H := L10 _ H
   exact ⟨_, H, F.re ⟨rfl, Aa, Aa, Aa, Aa, Aa, trivial⟩, W⟩
  rintro a w ⟨x28, hj, F, W⟩
  have hj := AP hj
  subst hj
  have H := K9
  obtain ⟨o12, G12, K12⟩ := Am H
  refine AO (fun a w => ∃ x33 : Int, some (x33) = some o12 ∧ Fr 168 [] [(0, v1), (1, .int .i64 p1), (8, .int .i64 0), (9, .bool false), (10, .int .i64 x28), (11, .int .i64 x33)] a ∧ Stw ⟨Y, X, w0⟩ [] [row v1 3 (Rp.int .i64) x25] w) ?_ ?_
  ·
   have H := G12
   refine Az ?_
   refine BG H (fun s a w => Fr 168 [] [(0, v1), (1, .int .i64 p1), (8, .int .i64 0), (9, .bool false), (10, .int .i64 x28), (11, .int .i64 s)] a ∧ Stw ⟨Y, X, w0⟩ [] [row v1 3 (Rp.int .i64) x25] w) ⟨F.re ⟨rfl, Aa, Aa, Aa, Aa, Aa, trivial⟩, W⟩ fun s o a w H L13 hR => ?_
   obtain ⟨x34, rfl⟩ : ∃ x, x = s := ⟨s, rfl⟩
   obtain ⟨F, W⟩ := hR
   have F : Fr 168 [] [(0, v1), (1, .int .i64 p1), (8, .int .i64 0), (9, .bool false), (10, .int .i64 x28), (11, .int .i64 x34)] a := F
   have W : Stw ⟨Y, X, w0⟩ [] [row v1 3 (Rp.int .i64) x25] w := W
   rw [B9] at H
   refine Ah ?_
   obtain ⟨o14, G14, K14⟩ := Am H
   refine AO (fun a w => ∃ x35 : Bool, some (x35) = some o14 ∧ Fr 168 [] [(0, v1), (1, .int .i64 p1), (8, .int .i64 0), (9, .bool false), (10, .int .i64 x28), (11, .int .i64 x34), (129, .bool x35)] a ∧ Stw ⟨Y, X, w0⟩ [] [row v1 3 (Rp.int .i64) x25] w) ?_ ?_
   ·
    have H := G14
    refine CK W MO (by kernel_rfl) ?_
    iterate 2 refine qs F Aa (Ag F Aa).q fun a F => ?_
    refine qs F Aa (H4 F Aa Aa).q fun a F => ?_
    refine qs F Aa (Ag F Aa).q fun a F => ?_
    rcases bxq (decide (x28 ≤ x34)) with hb | hb
    ·
     have H := AV (Bg hb) H
     rw [hb] at F
     iterate 2 refine Bk F (Af F Aa Aa Aa Aa) Aa (Ak Aa) (Ag F Aa).q fun a F => ?_
     obtain ⟨x36, h19, H⟩ := Am H
     refine Bk F (Af F Aa Aa Aa Aa) Aa (Ak Aa) (AM (r := (Rp.int .i64)) EF F Aa Aa (Au 0 Aa) h19).q fun a F => ?_
     refine Bk F (Af F Aa Aa Aa Aa) Aa (Ak Aa) (AA (y := Value.int .i64 x36) (j := 0) (i := x34) F Aa Aa (Au 0 Aa) h19 Fl.int.to T3 Aa).q fun a F => ?_
     iterate 2 refine Bk F (Af F Aa Aa Aa Aa) Aa (Ak Aa) (Ag F Aa).q fun a F => ?_
     obtain ⟨x37, h20, H⟩ := Am H
     refine Bk F (Af F Aa Aa Aa Aa) Aa (Ak Aa) (AM (r := (Rp.int .i64)) EF F Aa Aa (Au 0 Aa) h20).q fun a F => ?_
     refine Bk F (Af F Aa Aa Aa Aa) Aa (Ak Aa) (AA (y := Value.int .i64 x37) (j := 0) (i := p1) F Aa Aa (Au 0 Aa) h20 Fl.int.to T3 Aa).q fun a F => ?_
     refine Bk F (Af F Aa Aa Aa Aa) Aa (Ak Aa) (A3 (v := Value.bool (AX x36 x37)) F NI Aa (fun w W => CG any w x36 x37 _ Aa)) fun a F => ?_
     refine Bk F (Af F Aa Aa Aa Aa) Aa (Ak Aa) (F4 F Aa).q fun a F => ?_
     refine qs F Aa (Ax F Aa Aa Aa).q fun a F => ?_
     refine A9 fun w W => ?_
     refine Ac ?_
     exact ⟨_, H, F.re ⟨rfl, Aa, Aa, Aa, Aa, Aa, Aa, trivial⟩, W⟩
    have H := AR (Bf hb) H
    rw [hb] at F
    iterate 10 refine B4 F (Bi F Aa Aa Aa Aa Aa) Aa Aa fun a F => ?_
    refine qs F Aa (As F Aa Aa Aa).q fun a F => ?_
    refine A9 fun w W => ?_
    refine Ac ?_
    exact ⟨_, H, F.re ⟨rfl, Aa, Aa, Aa, Aa, Aa, Aa, trivial⟩, W⟩
   rintro a w ⟨x35, hj, F, W⟩
   have hj := AP hj
   subst hj
   have H := K14
   refine Aw F Aa (fun hb => ?_) fun hb => ?_
   ·
    have H := AV hb H
    rw [hb] at F
    refine Ay (Ac (Az (Ab ?_)))
    refine ls F W Aa (Ag F Aa).q fun a w F W => ?_
    refine ls F W Aa (CT F Aa Aa Aa).q fun a w F W => ?_
    refine ls F W Aa (Ae F Aa).q fun a w F W => ?_
    refine Ad (AU (Ac ?_))
    exact ⟨_, H, F.re ⟨rfl, Aa, Aa, Aa, Aa, Aa, trivial⟩, W⟩
   have H := AR (by rw [hb]; decide) H
   rw [hb] at F
   refine Bz ?_
   iterate 2 refine BS ?_
   refine Bx (Ac ?_)
   have H := L13 _ H
   exact ⟨_, H, F.re ⟨rfl, Aa, Aa, Aa, Aa, Aa, trivial⟩, W⟩
  rintro a w ⟨x33, hj, F, W⟩
  have hj := AP hj
  subst hj
  have H := K12
  refine Ah (Ah (Ab ?_))
  iterate 2 refine ls F W Aa (Ag F Aa).q fun a w F W => ?_
  refine ls F W Aa (HL F Aa Aa).q fun a w F W => ?_
  refine Ad (Ac ?_)
  refine Aw F Aa (fun hb => ?_) fun hb => ?_
  ·
   have H := AV (Bg hb) H
   rw [hb] at F
   refine Bz (BS ?_)
   refine Qk Aa ?_
   refine BS (Bx (Ac ?_))
   have H := L8 _ H
   exact ⟨_, _, H, F.re ⟨rfl, Aa, Aa, Aa, Aa, trivial⟩, W⟩
  have H := AR (Bf hb) H
  rw [hb] at F
  refine Ay (Ac (Ah ?_))
  refine Kc 13 [2, 3] [0, 1, 4, 5, 6, 7, 8, 9, 10, 11, 12] (fun ch a d v w h => by cases d <;> exact h) W MO (by kernel_rfl) ?_
  iterate 2 refine hm F Aa Aa Aa fun a F => ?_
  refine LZ ?_
  iterate 4 refine hs F Aa Aa Aa (Ag F Aa).q fun a F => ?_
  obtain ⟨x38, h21, H⟩ := Am H
  refine hs F Aa Aa Aa (AM (r := (Rp.int .i64)) EF F Aa Aa (Au 0 Aa) h21).q fun a F => ?_
  refine hs F Aa Aa Aa (AA (y := Value.int .i64 x38) (j := 0) (i := x33) F Aa Aa (Au 0 Aa) h21 Fl.int.to T3 Aa).q fun a F => ?_
  iterate 2 refine hs F Aa Aa Aa (Ag F Aa).q fun a F => ?_
  obtain ⟨x39, h22, H⟩ := Am H
  refine hs F Aa Aa Aa (AM (r := (Rp.int .i64)) EF F Aa Aa (Au 0 Aa) h22).q fun a F => ?_
  refine hs F Aa Aa Aa (AA (y := Value.int .i64 x39) (j := 0) (i := x28) F Aa Aa (Au 0 Aa) h22 Fl.int.to T3 Aa).q fun a F => ?_
  obtain ⟨x40, h23, H⟩ := Am H
  refine hs F Aa Aa Aa (AM (r := (Rp.int .i64)) EF F Aa Aa (Au 0 Aa) h23).q fun a F => ?_
  refine Ou fun w W => ?_
  have W : Stw ⟨Y, X, w0⟩ [] [row v1 3 (Rp.int .i64) x25] w := W
  refine BO (i := x28) (j := 0) (vs := [.int .i64 x38]) (x' := x38) F W Aa Aa Aa (k := 0) Aa Aa h23 T3 Aa Aa Aa Aa (fun A cs _ => Fl.int.sto (by rfl) _ _ _) fun w W => ?_
  obtain ⟨x41, h24, H⟩ := Am H
  refine ls F W Aa (AM (r := (Rp.int .i64)) EF F Aa Aa (Au 0 Aa) h24).q fun a w F W => ?_
  refine BO (i := x33) (j := 0) (vs := [.int .i64 x39]) (x' := x39) F W Aa Aa Aa (k := 0) Aa Aa h24 T3 Aa Aa Aa Aa (fun A cs _ => Fl.int.sto (by rfl) _ _ _) fun w W => ?_
  refine Ad (Ac (Ah (Ab ?_)))
  refine ls F W Aa (Ag F Aa).q fun a w F W => ?_
  refine ls F W Aa (BL F Aa Aa Aa).q fun a w F W => ?_
  refine ls F W Aa (Ae F Aa).q fun a w F W => ?_
  refine Ad (Ac (Ab ?_))
  refine ls F W Aa (Ag F Aa).q fun a w F W => ?_
  refine ls F W Aa (CT F Aa Aa Aa).q fun a w F W => ?_
  refine ls F W Aa (Ae F Aa).q fun a w F W => ?_
  refine Ad (AU (Ac ?_))
  exact ⟨_, H, F.re ⟨rfl, Aa, Aa, Aa, Aa, Aa, trivial⟩, W⟩
 rintro a w ⟨x23, x24, hj, F, W⟩
 have hj := AP hj
 subst hj
 have H := K7
 refine Ah ?_
 refine Kc 13 [2, 3] [0, 1, 4, 5, 6, 7, 8, 9, 10, 11, 12] (fun ch a d v w h => by cases d <;> exact h) W MO (by kernel_rfl) ?_
 iterate 2 refine hm F Aa Aa Aa fun a F => ?_
 refine LZ ?_
 iterate 4 refine hs F Aa Aa Aa (Ag F Aa).q fun a F => ?_
 obtain ⟨x42, h25, H⟩ := Am H
 refine hs F Aa Aa Aa (AM (r := (Rp.int .i64)) EF F Aa Aa (Au 0 Aa) h25).q fun a F => ?_
 refine hs F Aa Aa Aa (AA (y := Value.int .i64 x42) (j := 0) (i := p1) F Aa Aa (Au 0 Aa) h25 Fl.int.to T3 Aa).q fun a F => ?_
 iterate 2 refine hs F Aa Aa Aa (Ag F Aa).q fun a F => ?_
 obtain ⟨x43, h26, H⟩ := Am H
 refine hs F Aa Aa Aa (AM (r := (Rp.int .i64)) EF F Aa Aa (Au 0 Aa) h26).q fun a F => ?_
 refine hs F Aa Aa Aa (AA (y := Value.int .i64 x43) (j := 0) (i := x24) F Aa Aa (Au 0 Aa) h26 Fl.int.to T3 Aa).q fun a F => ?_
 obtain ⟨x44, h27, H⟩ := Am H
 refine hs F Aa Aa Aa (AM (r := (Rp.int .i64)) EF F Aa Aa (Au 0 Aa) h27).q fun a F => ?_
 refine Ou fun w W => ?_
 have W : Stw ⟨Y, X, w0⟩ [] [row v1 3 (Rp.int .i64) x23] w := W
 refine BO (i := x24) (j := 0) (vs := [.int .i64 x42]) (x' := x42) F W Aa Aa Aa (k := 0) Aa Aa h27 T3 Aa Aa Aa Aa (fun A cs _ => Fl.int.sto (by rfl) _ _ _) fun w W => ?_
 obtain ⟨x45, h28, H⟩ := Am H
 refine ls F W Aa (AM (r := (Rp.int .i64)) EF F Aa Aa (Au 0 Aa) h28).q fun a w F W => ?_
 refine BO (i := p1) (j := 0) (vs := [.int .i64 x43]) (x' := x43) F W Aa Aa Aa (k := 0) Aa Aa h28 T3 Aa Aa Aa Aa (fun A cs _ => Fl.int.sto (by rfl) _ _ _) fun w W => ?_
 refine Ad (Ac (Ah (Ab ?_)))
 refine ls F W Aa (Ag F Aa).q fun a w F W => ?_
 iterate 2 refine ls F W Aa (Ae F Aa).q fun a w F W => ?_
 refine Ad (Ac (Av ?_))
 have H := AP H
 subst H
 refine Pm (.inl Aa) F W Aa (AB F Aa) (AB F Aa) ?_
 exact ⟨(), Aa, W⟩
theorem TY : type_of% Tryz.underlying134 := Tryz.underlying134
theorem XD : Has Tryz.prog 121 := ⟨fun args w => Aj Tryz.func121 rfl (by decide) args w⟩
theorem Xg : Has Tryz.prog 92 := ⟨fun args w => Aj Tryz.func92 rfl (by decide) args w⟩
theorem Xd : (Tryz.prog.info? 177).bind (·.zero) = some (.int .u64 0) := by kernel_rfl
theorem Qq : Ty Tryz.prog 177 false 1 := ⟨by kernel_rfl, by kernel_rfl⟩
def CO (p0 : Int) : Option Int := (EU (IntKind.u64.wrap p0)).bind fun x1 => (Vo (EY .u64 1 x1) x1).bind fun x2 => some x2
theorem K0 (Y : Nat → Prop) (w0 : World)  (p0 : Int) (r : Int) (H : CO p0 = some r)  :
    Calls Tryz.prog 140 #[.int .i64 p0] w0 fun e w' => e = .returned (.int .u64 r) ∧ Below w0.heap.size w0 w' := by
 refine enter Tryz.func140 Aa Tryz.ntmps140 Aa fun a F => ?_
 have W := Stw.start Y w0
 unfold CO at H
 refine Ah (Ab ?_)
 refine ls F W Aa (Ae F Aa).q fun a w F W => ?_
 refine Ad (Ac (Ah (Ab ?_)))
 refine ls F W Aa (Ag F Aa).q fun a w F W => ?_
 refine ls F W Aa (Mp UL TY F Aa).q fun a w F W => ?_
 obtain ⟨x1, h1, H⟩ := Am H
 refine ls F W Aa (A3 (v := Value.int .i64 x1) F X1 Aa (fun w W => Lz any w (IntKind.u64.wrap p0) _ h1)) fun a w F W => ?_
 obtain ⟨x2, h2, H⟩ := Am H
 refine ls F W Aa (Vf (NL h2).2 (S5 F Aa Aa (NL h2).1)).q fun a w F W => ?_
 refine ls F W Aa (Ae F Aa).q fun a w F W => ?_
 refine Ad (Ac (Av ?_))
 have H := AP H
 subst H
 refine AJ (.inl Aa) F W Aa (AB F Aa) ?_
 exact ⟨rfl, W.done⟩
end
end Go.Proofs.YtgoifghhcekahaaGreatDoor
