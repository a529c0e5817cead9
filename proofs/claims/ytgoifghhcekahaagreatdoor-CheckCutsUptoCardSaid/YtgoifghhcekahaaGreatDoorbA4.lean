/- The functions of layer 30, JA. Conditions: none. -/
import Derived.Test.YtgoifghhcekahaaGreatDoorbA3
namespace Go.Proofs.YtgoifghhcekahaaGreatDoor
noncomputable section
open Go Go.RowKit
set_option linter.unusedVariables false
set_option linter.unusedSimpArgs false
set_option maxRecDepth 20000
theorem W4 : Has Tryz.prog 140 := ⟨fun args w => Aj Tryz.func140 rfl (by decide) args w⟩
def Br (p0 : Int) : Int × Int := (Eg .u64 (Eg .u64 (Eg .u64 p0 (EY .u64 p0 13)) (H3 .u64 (Eg .u64 p0 (EY .u64 p0 13)) 7)) (EY .u64 (Eg .u64 (Eg .u64 p0 (EY .u64 p0 13)) (H3 .u64 (Eg .u64 p0 (EY .u64 p0 13)) 7)) 17), Eg .u64 (Eg .u64 (Eg .u64 p0 (EY .u64 p0 13)) (H3 .u64 (Eg .u64 p0 (EY .u64 p0 13)) 7)) (EY .u64 (Eg .u64 (Eg .u64 p0 (EY .u64 p0 13)) (H3 .u64 (Eg .u64 p0 (EY .u64 p0 13)) 7)) 17))
theorem Ll (Y : Nat → Prop) (X : List Nat) (w0 : World) (q_p0 : Nat) (p0 : Int) (r : Int × Int) (H : Br p0 = r) (hL : Stw ⟨Y, X, w0⟩ [(q_p0, [.int .u64 p0])] [] w0) :
    Calls Tryz.prog 141 #[.pointer (some ⟨q_p0, 0, none⟩)] w0 fun e w' => ∃ x : Unit, e = .returned (.int .u64 r.1) ∧ Stw ⟨Y, X, w0⟩ [(q_p0, [.int .u64 r.2])] [] w' := by
 refine enter Tryz.func141 Aa Tryz.ntmps141 Aa fun a F => ?_
 have W := hL
 unfold Br at H
 refine Ah (Ab ?_)
 refine ls F W Aa (Ae F Aa).q fun a w F W => ?_
 refine Ad (Ac (Ah ?_))
 refine Nt 9 W MO (by kernel_rfl) ?_
 refine qs F Aa (Ag F Aa).q fun a F => ?_
 refine qs F Aa (CI F Aa).q fun a F => ?_
 refine qs F Aa (Ao (v := Value.int .u64 p0) 0 F Aa Aa Qq Aa).q fun a F => ?_
 refine qs F Aa (Ag F Aa).q fun a F => ?_
 refine qs F Aa (CI F Aa).q fun a F => ?_
 refine qs F Aa (Ao (v := Value.int .u64 p0) 0 F Aa Aa Qq Aa).q fun a F => ?_
 refine qs F Aa (S5 F Aa Aa (by decide)).q fun a F => ?_
 refine qs F Aa (TZ F Aa Aa).q fun a F => ?_
 refine qs F Aa (CI F Aa).q fun a F => ?_
 refine A9 fun w W => ?_
 refine Be (vs := [.int .u64 (Eg .u64 p0 (EY .u64 p0 13))]) (M' := [(q_p0, [.int .u64 (Eg .u64 p0 (EY .u64 p0 13))])]) 0 F W Aa Aa Aa Qq Aa Aa Aa Aa Aa fun w W => ?_
 refine Ad (Ac (Ah ?_))
 refine Nt 9 W MO (by kernel_rfl) ?_
 refine qs F Aa (Ag F Aa).q fun a F => ?_
 refine qs F Aa (CI F Aa).q fun a F => ?_
 refine qs F Aa (Ao (v := Value.int .u64 (Eg .u64 p0 (EY .u64 p0 13))) 0 F Aa Aa Qq Aa).q fun a F => ?_
 refine qs F Aa (Ag F Aa).q fun a F => ?_
 refine qs F Aa (CI F Aa).q fun a F => ?_
 refine qs F Aa (Ao (v := Value.int .u64 (Eg .u64 p0 (EY .u64 p0 13))) 0 F Aa Aa Qq Aa).q fun a F => ?_
 refine qs F Aa (Ta F Aa Aa (by decide)).q fun a F => ?_
 refine qs F Aa (TZ F Aa Aa).q fun a F => ?_
 refine qs F Aa (CI F Aa).q fun a F => ?_
 refine A9 fun w W => ?_
 refine Be (vs := [.int .u64 (Eg .u64 (Eg .u64 p0 (EY .u64 p0 13)) (H3 .u64 (Eg .u64 p0 (EY .u64 p0 13)) 7))]) (M' := [(q_p0, [.int .u64 (Eg .u64 (Eg .u64 p0 (EY .u64 p0 13)) (H3 .u64 (Eg .u64 p0 (EY .u64 p0 13)) 7))])]) 0 F W Aa Aa Aa Qq Aa Aa Aa Aa Aa fun w W => ?_
 refine Ad (Ac (Ah ?_))
 refine Nt 9 W MO (by kernel_rfl) ?_
 refine qs F Aa (Ag F Aa).q fun a F => ?_
 refine qs F Aa (CI F Aa).q fun a F => ?_
 refine qs F Aa (Ao (v := Value.int .u64 (Eg .u64 (Eg .u64 p0 (EY .u64 p0 13)) (H3 .u64 (Eg .u64 p0 (EY .u64 p0 13)) 7))) 0 F Aa Aa Qq Aa).q fun a F => ?_
 refine qs F Aa (Ag F Aa).q fun a F => ?_
 refine qs F Aa (CI F Aa).q fun a F => ?_
 refine qs F Aa (Ao (v := Value.int .u64 (Eg .u64 (Eg .u64 p0 (EY .u64 p0 13)) (H3 .u64 (Eg .u64 p0 (EY .u64 p0 13)) 7))) 0 F Aa Aa Qq Aa).q fun a F => ?_
 refine qs F Aa (S5 F Aa Aa (by decide)).q fun a F => ?_
 refine qs F Aa (TZ F Aa Aa).q fun a F => ?_
 refine qs F Aa (CI F Aa).q fun a F => ?_
 refine A9 fun w W => ?_
 refine Be (vs := [.int .u64 (Eg .u64 (Eg .u64 (Eg .u64 p0 (EY .u64 p0 13)) (H3 .u64 (Eg .u64 p0 (EY .u64 p0 13)) 7)) (EY .u64 (Eg .u64 (Eg .u64 p0 (EY .u64 p0 13)) (H3 .u64 (Eg .u64 p0 (EY .u64 p0 13)) 7)) 17))]) (M' := [(q_p0, [.int .u64 (Eg .u64 (Eg .u64 (Eg .u64 p0 (EY .u64 p0 13)) (H3 .u64 (Eg .u64 p0 (EY .u64 p0 13)) 7)) (EY .u64 (Eg .u64 (Eg .u64 p0 (EY .u64 p0 13)) (H3 .u64 (Eg .u64 p0 (EY .u64 p0 13)) 7)) 17))])]) 0 F W Aa Aa Aa Qq Aa Aa Aa Aa Aa fun w W => ?_
 refine Ad (Ac (Ah (Ab ?_)))
 refine ls F W Aa (Ag F Aa).q fun a w F W => ?_
 refine ls F W Aa (CI F Aa).q fun a w F W => ?_
 refine ls F W Aa (Ao (v := Value.int .u64 (Eg .u64 (Eg .u64 (Eg .u64 p0 (EY .u64 p0 13)) (H3 .u64 (Eg .u64 p0 (EY .u64 p0 13)) 7)) (EY .u64 (Eg .u64 (Eg .u64 p0 (EY .u64 p0 13)) (H3 .u64 (Eg .u64 p0 (EY .u64 p0 13)) 7)) 17))) 0 F Aa Aa Qq Aa).q fun a w F W => ?_
 refine ls F W Aa (Ae F Aa).q fun a w F W => ?_
 refine Ad (Ac (Av ?_))
 subst H
 refine AJ (.inl Aa) F W Aa (AB F Aa) ?_
 exact ⟨(), Aa, W⟩
theorem Wy : type_of% Tryz.underlying177 := Tryz.underlying177
theorem XE : Has Tryz.prog 141 := ⟨fun args w => Aj Tryz.func141 rfl (by decide) args w⟩
def BC (p1 : Int) (p2 : Int) (x1 : Int) : (List Int × Int × Int) → Option ((List Int × Int × Int) ⊕ (List Int))
  | (x2, x3, x4) => (if x3 ≤ (AG ((AG (p1 + (AG ((AG (Int.tdiv (AG (p2 - p1)) 4)) * 2)))) + 1)) then (if (AG (p2 - p1)) ≤ (AG (QC .u64 ((Br x4).1) (IntKind.u64.wrap (x1 - 1)))) then some (AG ((AG (QC .u64 ((Br x4).1) (IntKind.u64.wrap (x1 - 1)))) - (AG (p2 - p1)))) else some (AG (QC .u64 ((Br x4).1) (IntKind.u64.wrap (x1 - 1))))).bind fun x5 => (ix x2 (AG (p1 + x5))).bind fun x6 => (ix x2 x3).bind fun x7 => (ix x2 x3).bind fun x8 => (ix (AL x2 x3 x6) (AG (p1 + x5))).bind fun x9 => some (.inl ((AL (AL x2 x3 x6) (AG (p1 + x5)) x7), AG (x3 + 1), (Br x4).2)) else some (.inr x2))
def BM (p0 : List Int) (p1 : Int) (p2 : Int) : Option (List Int) := (if 8 ≤ (AG (p2 - p1)) then (CO (AG (p2 - p1))).bind fun x1 => A6 (BC p1 p2 x1) (p0, AG ((AG (p1 + (AG ((AG (Int.tdiv (AG (p2 - p1)) 4)) * 2)))) - 1), IntKind.u64.wrap (AG (p2 - p1))) else some p0)
theorem HQ (Y : Nat → Prop) (X : List Nat) (w0 : World) (v1 : Value) (p0 : List Int) (p1 : Int) (p2 : Int) (r : List Int) (H : BM p0 p1 p2 = some r) (hL : Stw ⟨Y, X, w0⟩ [] [row v1 3 (Rp.int .i64) p0] w0) :
    Calls Tryz.prog 115 #[v1, .int .i64 p1, .int .i64 p2] w0 fun e w' => ∃ x : Unit, e = .returned (.tuple #[]) ∧ Stw ⟨Y, X, w0⟩ [] [row v1 3 (Rp.int .i64) r] w' := by
 refine enter Tryz.func115 Aa Tryz.ntmps115 Aa fun a F => ?_
 have W := hL
 unfold BM at H
 refine Ah (Ab ?_)
 iterate 2 refine ls F W Aa (Ag F Aa).q fun a w F W => ?_
 refine ls F W Aa (CT F Aa Aa Aa).q fun a w F W => ?_
 refine ls F W Aa (Ae F Aa).q fun a w F W => ?_
 refine Ad (Ac (Ah (Ab ?_)))
 refine ls F W Aa (Ag F Aa).q fun a w F W => ?_
 refine ls F W Aa (D4 F Aa Aa).q fun a w F W => ?_
 refine Ad (Ac ?_)
 refine Aw F Aa (fun hb => ?_) fun hb => ?_
 ·
  have H := AV (Bg hb) H
  rw [hb] at F
  refine Ah (Ab ?_)
  refine ls F W Aa (Ag F Aa).q fun a w F W => ?_
  refine ls F W Aa (Mp UL Wy F Aa).q fun a w F W => ?_
  refine Co (cs := [.int .u64 0]) F W Aa Xd Aa fun b1 a w F W => ?_
  refine Be (vs := [.int .u64 (IntKind.u64.wrap (AG (p2 - p1)))]) (M' := [(b1, [.int .u64 (IntKind.u64.wrap (AG (p2 - p1)))])]) 0 F W Aa Aa Aa Qq Aa Aa Aa Aa Aa fun w W => ?_
  refine Ad (Ac (Ah (Ab ?_)))
  refine ls F W Aa (Ag F Aa).q fun a w F W => ?_
  obtain ⟨x1, h1, H⟩ := Am H
  refine ls F W Aa (A3 (v := Value.int .u64 x1) F W4 Aa (fun w W => K0 any w (AG (p2 - p1)) _ h1)) fun a w F W => ?_
  refine ls F W Aa (Ae F Aa).q fun a w F W => ?_
  refine Ad (Ac (Ah (Ab ?_)))
  iterate 2 refine ls F W Aa (Ag F Aa).q fun a w F W => ?_
  refine ls F W Aa (Qo F Aa Aa (by decide) Aa).q fun a w F W => ?_
  refine ls F W Aa (OG F Aa Aa Aa).q fun a w F W => ?_
  refine ls F W Aa (BL F Aa Aa Aa).q fun a w F W => ?_
  refine ls F W Aa (CT F Aa Aa Aa).q fun a w F W => ?_
  refine ls F W Aa (Ae F Aa).q fun a w F W => ?_
  refine Ad (Ac (Az ?_))
  refine BG H (fun s a w => Fr 65 [] [(0, v1), (1, .int .i64 p1), (6, .int .i64 (AG (p2 - p1))), (7, .pointer (some ⟨b1, 0, none⟩)), (8, .int .u64 x1), (9, .int .i64 s.2.1)] a ∧ Stw ⟨Y, X, w0⟩ [(b1, [.int .u64 s.2.2])] [row v1 3 (Rp.int .i64) s.1] w) ⟨F.re ⟨rfl, Aa, Aa, Aa, Aa, Aa, trivial⟩, W⟩ fun s o a w H L1 hR => ?_
  obtain ⟨x2, x3, x4⟩ := s
  obtain ⟨F, W⟩ := hR
  have F : Fr 65 [] [(0, v1), (1, .int .i64 p1), (6, .int .i64 (AG (p2 - p1))), (7, .pointer (some ⟨b1, 0, none⟩)), (8, .int .u64 x1), (9, .int .i64 x3)] a := F
  have W : Stw ⟨Y, X, w0⟩ [(b1, [.int .u64 x4])] [row v1 3 (Rp.int .i64) x2] w := W
  rw [BC] at H
  refine Ah (Ah (Ab ?_))
  iterate 3 refine ls F W Aa (Ag F Aa).q fun a w F W => ?_
  refine ls F W Aa (Qo F Aa Aa (by decide) Aa).q fun a w F W => ?_
  refine ls F W Aa (OG F Aa Aa Aa).q fun a w F W => ?_
  iterate 2 refine ls F W Aa (BL F Aa Aa Aa).q fun a w F W => ?_
  refine ls F W Aa (H4 F Aa Aa).q fun a w F W => ?_
  refine Ad (Ac ?_)
  refine Aw F Aa (fun hb => ?_) fun hb => ?_
  ·
   have H := AV (Bg hb) H
   rw [hb] at F
   refine Ay (Ac (Ah (Az (Ah (Ab ?_)))))
   refine Bj (Ml := [(b1, [.int .u64 x4])]) (Zl := []) (M := []) (Z := [row v1 3 (Rp.int .i64) x2]) (β := Unit) (rv := fun x => .int .u64 ((Br x4).1)) (MM := fun x => [(b1, [.int .u64 ((Br x4).2)])]) (ZZ := fun x => []) F W XE Aa Aa (fun hL => Ll _ _ w b1 x4 _ Aa hL) fun x a w F W => ?_
   have W : Stw ⟨Y, X, w0⟩ [(b1, [.int .u64 ((Br x4).2)])] [row v1 3 (Rp.int .i64) x2] w := W
   refine ls F W Aa (Ag F Aa).q fun a w F W => ?_
   refine ls F W Aa (CT F Aa Aa Aa).q fun a w F W => ?_
   refine ls F W Aa (WB F Aa Aa).q fun a w F W => ?_
   refine ls F W Aa (Mp TY UL F Aa).q fun a w F W => ?_
   refine ls F W Aa (Ae F Aa).q fun a w F W => ?_
   refine Ad (Ac ?_)
   obtain ⟨o2, G2, K2⟩ := Am H
   refine AO (fun a w => ∃ x5 : Int, some (x5) = some o2 ∧ Fr 65 [] [(0, v1), (1, .int .i64 p1), (6, .int .i64 (AG (p2 - p1))), (7, .pointer (some ⟨b1, 0, none⟩)), (8, .int .u64 x1), (9, .int .i64 x3), (10, .int .i64 x5)] a ∧ Stw ⟨Y, X, w0⟩ [(b1, [.int .u64 ((Br x4).2)])] [row v1 3 (Rp.int .i64) x2] w) ?_ ?_
   ·
    have H := G2
    refine Ah (Ab ?_)
    iterate 2 refine ls F W Aa (Ag F Aa).q fun a w F W => ?_
    refine ls F W Aa (D4 F Aa Aa).q fun a w F W => ?_
    refine Ad (Ac ?_)
    refine Aw F Aa (fun hb => ?_) fun hb => ?_
    ·
     have H := AV (Bg hb) H
     rw [hb] at F
     refine Ab ?_
     iterate 2 refine ls F W Aa (Ag F Aa).q fun a w F W => ?_
     refine ls F W Aa (CT F Aa Aa Aa).q fun a w F W => ?_
     refine ls F W Aa (Ae F Aa).q fun a w F W => ?_
     refine Ad (Ac ?_)
     exact ⟨_, H, F.re ⟨rfl, Aa, Aa, Aa, Aa, Aa, Aa, trivial⟩, W⟩
    have H := AR (Bf hb) H
    rw [hb] at F
    refine Ay (Ac ?_)
    exact ⟨_, H, F.re ⟨rfl, Aa, Aa, Aa, Aa, Aa, Aa, trivial⟩, W⟩
   rintro a w ⟨x5, hj, F, W⟩
   have hj := AP hj
   subst hj
   have H := K2
   refine GP [(true, 0), (true, 1), (true, 2), (true, 3), (true, 4), (true, 5), (true, 6), (true, 7), (true, 8), (true, 9), (true, 10), (true, 11), (true, 12), (true, 13), (true, 14), (true, 15), (true, 16), (false, 17), (true, 18), (false, 19)] (CN ⟨Y, X, w0⟩ [] [(some 17, row v1 3 (Rp.int .i64) x2)]) (fun ch a d v w h => by cases d <;> exact h) MO (by kernel_rfl) W (fun w W => ⟨_, _, W, AE, (Al (fun _ => (.head _)) AE)⟩) fun w W => ?_
   iterate 5 refine BK (R := []) F Aa Aa (yC fun M Z hN hZ => Ag F Aa) Aa Aa fun a F => ?_
   refine BK (R := []) F Aa Aa (yC fun M Z hN hZ => BL F Aa Aa Aa) Aa Aa fun a F => ?_
   iterate 3 refine BK (R := []) F Aa Aa (yC fun M Z hN hZ => Ag F Aa) Aa Aa fun a F => ?_
   refine BK (R := []) F Aa Aa (yC fun M Z hN hZ => BL F Aa Aa Aa) Aa Aa fun a F => ?_
   obtain ⟨x6, h2, H⟩ := Am H
   refine BK (R := []) F Aa Aa (yC fun M Z hN hZ => CM (r := (Rp.int .i64)) EF F Aa Aa (Fx W (Au 0 Aa)) h2) Aa Aa fun a F => ?_
   refine BK (R := [17]) F Aa Aa (yC fun M Z hN hZ => AA (y := Value.int .i64 x6) (j := 0) (i := AG (p1 + x5)) F Aa Aa (E8 (hZ ((some 17), row v1 3 (Rp.int .i64) x2) (.head _) Aa)) h2 Fl.int.to T3 Aa) (by kernel_rfl) Aa fun a F => ?_
   iterate 2 refine BK (R := []) F Aa Aa (yC fun M Z hN hZ => Ag F Aa) Aa Aa fun a F => ?_
   obtain ⟨x7, h3, H⟩ := Am H
   refine BK (R := []) F Aa Aa (yC fun M Z hN hZ => CM (r := (Rp.int .i64)) EF F Aa Aa (Fx W (Au 0 Aa)) h3) Aa Aa fun a F => ?_
   refine BK (R := [17]) F Aa Aa (yC fun M Z hN hZ => AA (y := Value.int .i64 x7) (j := 0) (i := x3) F Aa Aa (E8 (hZ ((some 17), row v1 3 (Rp.int .i64) x2) (.head _) Aa)) h3 Fl.int.to T3 Aa) (by kernel_rfl) Aa fun a F => ?_
   obtain ⟨x8, h4, H⟩ := Am H
   refine BK (R := []) F Aa Aa (yC fun M Z hN hZ => CM (r := (Rp.int .i64)) EF F Aa Aa (Fx W (Au 0 Aa)) h4) Aa Aa fun a F => ?_
   refine EK Aa ?_
   refine BO (i := x3) (j := 0) (vs := [.int .i64 x6]) (x' := x6) F W Aa Aa Aa (k := 0) Aa Aa h4 T3 Aa Aa Aa Aa (fun A cs _ => Fl.int.sto (by rfl) _ _ _) fun w W => ?_
   refine BP (N2 := []) (NZ2 := []) (N3 := []) (NZ3 := [(some 17, row v1 3 (Rp.int .i64) x2)]) W Aa Aa AE (Al (fun h => Ap (by kernel_rfl) h) AE) ?_
   obtain ⟨x9, h5, H⟩ := Am H
   refine BK (R := []) F Aa Aa (yC fun M Z hN hZ => CM (r := (Rp.int .i64)) EF F Aa Aa (Fx W (Au 0 Aa)) h5) Aa Aa fun a F => ?_
   refine EK Aa ?_
   refine BO (i := AG (p1 + x5)) (j := 0) (vs := [.int .i64 x7]) (x' := x7) F W Aa Aa Aa (k := 0) Aa Aa h5 T3 Aa Aa Aa Aa (fun A cs _ => Fl.int.sto (by rfl) _ _ _) fun w W => ?_
   refine BP (N2 := []) (NZ2 := []) (N3 := []) (NZ3 := [(some 17, row v1 3 (Rp.int .i64) x2)]) W Aa Aa AE (Al (fun h => Ap (by kernel_rfl) h) AE) ?_
   refine HG (AU (Ac (Ab ?_)))
   refine ls F W Aa (Ag F Aa).q fun a w F W => ?_
   refine ls F W Aa (BL F Aa Aa Aa).q fun a w F W => ?_
   refine ls F W Aa (Ae F Aa).q fun a w F W => ?_
   refine Ad (Ac ?_)
   exact ⟨_, H, F.re ⟨rfl, Aa, Aa, Aa, Aa, Aa, trivial⟩, W⟩
  have H := AR (Bf hb) H
  rw [hb] at F
  refine Bz ?_
  iterate 2 refine BS ?_
  refine Bx ?_
  have H := L1 _ H
  have H := AP H
  subst H
  refine LH (.inr Aa) F Aa ?_
  have W := W.sub (M' := []) (Z' := [row v1 3 (Rp.int .i64) x2]) (List.nil_sublist _) (List.Sublist.refl _)
  exact ⟨(), Aa, W⟩
 have H := AR (Bf hb) H
 rw [hb] at F
 refine Ay ?_
 have H := AP H
 subst H
 refine LH (.inr Aa) F Aa ?_
 exact ⟨(), Aa, W⟩
theorem W0 : Has Tryz.prog 115 := ⟨fun args w => Aj Tryz.func115 rfl (by decide) args w⟩
def AD (fRec : (List Int) → Int → Int → Int → Option (List Int)) : (List Int × Int × Int × Int × Bool × Bool) → Option ((List Int × Int × Int × Int × Bool × Bool) ⊕ (List Int))
  | (x1, x2, x3, x4, x5, x6) => (if (AG (x3 - x2)) ≤ 12 then (B6 x1 x2 x3).bind fun x7 => some (.inr x7) else (if x4 = 0 then (Cy x1 x2 x3).bind fun x8 => some (.inr x8) else (if (!x5) = true then (BM x1 x2 x3).bind fun x11 => some (x11, AG (x4 - 1)) else some (x1, x4)).bind fun (x9, x10) => (Cg x9 x2 x3).bind fun x12 => (if x12.2 = 2 then (BU x9 x2 x3).bind fun x16 => some (x16, AG ((AG (x3 - 1)) - (AG (x12.1 - x2))), 1) else some (x9, x12.1, x12.2)).bind fun (x13, x14, x15) => Je (if (x5 && (x6 && decide (x15 = 1))) = true then (Bl x13 x2 x3).bind fun x18 => (if x18.1 = true then some (.inr (.inr x18.2)) else some (.inl x18.2)) else some (.inl x13)) fun x17 => (if 0 < x2 then (ix x17 (AG (x2 - 1))).bind fun x20 => (ix x17 x14).bind fun x21 => some (!(AX x20 x21)) else some false).bind fun x19 => (if x19 = true then (BZ x17 x2 x3 x14).bind fun x22 => some (.inl (x22.2, x22.1, x3, x10, (x5 && (x6 || true)), (bif x5 then x6 else x6))) else (Cp x17 x2 x3 x14).bind fun x23 => (if (AG (x23.1 - x2)) < (AG (x3 - x23.1)) then (fRec x23.2.2 x2 x23.1 x10).bind fun x24 => some (.inl (x24, AG (x23.1 + 1), x3, x10, decide ((AG (Int.tdiv (AG (x3 - x2)) 8)) ≤ (AG (x23.1 - x2))), x23.2.1)) else (fRec x23.2.2 (AG (x23.1 + 1)) x3 x10).bind fun x25 => some (.inl (x25, x2, x23.1, x10, decide ((AG (Int.tdiv (AG (x3 - x2)) 8)) ≤ (AG (x3 - x23.1))), x23.2.1))))))
def B5 (fRec : (List Int) → Int → Int → Int → Option (List Int)) (p0 : List Int) (p1 : Int) (p2 : Int) (p3 : Int) : Option (List Int) := A6 (AD fRec) (p0, p1, p2, p3, true, true)
def A4 : Nat → (List Int) → Int → Int → Int → Option (List Int)
  | 0 => fun _ _ _ _ => none
  | n + 1 => B5 (A4 n)
def Dn (p0 : List Int) (p1 : Int) (p2 : Int) (p3 : Int) : Option (List Int) := Jl fun n => A4 n p0 p1 p2 p3
theorem Jb (fRec : (List Int) → Int → Int → Int → Option (List Int)) (ih : ∀ (Y : Nat → Prop) (X : List Nat) (w0 : World) (v1 : Value) (p0 : List Int) (p1 : Int) (p2 : Int) (p3 : Int) (r : List Int) (H : fRec p0 p1 p2 p3 = some r) (hL : Stw ⟨Y, X, w0⟩ [] [row v1 3 (Rp.int .i64) p0] w0), Calls Tryz.prog 92 #[v1, .int .i64 p1, .int .i64 p2, .int .i64 p3] w0 fun e w' => ∃ x : Unit, e = .returned (.tuple #[]) ∧ Stw ⟨Y, X, w0⟩ [] [row v1 3 (Rp.int .i64) r] w') (Y : Nat → Prop) (X : List Nat) (w0 : World) (v1 : Value) (p0 : List Int) (p1 : Int) (p2 : Int) (p3 : Int) (r : List Int) (H : B5 fRec p0 p1 p2 p3 = some r) (hL : Stw ⟨Y, X, w0⟩ [] [row v1 3 (Rp.int .i64) p0] w0) :
    Calls Tryz.prog 92 #[v1, .int .i64 p1, .int .i64 p2, .int .i64 p3] w0 fun e w' => ∃ x : Unit, e = .returned (.tuple #[]) ∧ Stw ⟨Y, X, w0⟩ [] [row v1 3 (Rp.int .i64) r] w' := by
 refine enter Tryz.func92 Aa Tryz.ntmps92 Aa fun a F => ?_
 have W := hL
 unfold B5 at H
 refine Ah (Ab ?_)
 refine ls F W Aa (Ae F Aa).q fun a w F W => ?_
 refine Ad (Ac (Ah (Ab ?_)))
 refine ls F W Aa (Ae F Aa).q fun a w F W => ?_
 refine Ad (Ac (Az ?_))
 refine BG H (fun s a w => Fr 134 [] [(0, v1), (1, .int .i64 s.2.1), (2, .int .i64 s.2.2.1), (3, .int .i64 s.2.2.2.1), (8, .bool s.2.2.2.2.1), (9, .bool s.2.2.2.2.2)] a ∧ Stw ⟨Y, X, w0⟩ [] [row v1 3 (Rp.int .i64) s.1] w) ⟨F.re ⟨rfl, Aa, Aa, Aa, Aa, Aa, trivial⟩, W⟩ fun s o a w H L1 hR => ?_
 obtain ⟨x1, x2, x3, x4, x5, x6⟩ := s
 obtain ⟨F, W⟩ := hR
 have F : Fr 134 [] [(0, v1), (1, .int .i64 x2), (2, .int .i64 x3), (3, .int .i64 x4), (8, .bool x5), (9, .bool x6)] a := F
 have W : Stw ⟨Y, X, w0⟩ [] [row v1 3 (Rp.int .i64) x1] w := W
 rw [AD] at H
 refine Az (Ah (Ab ?_))
 iterate 2 refine ls F W Aa (Ag F Aa).q fun a w F W => ?_
 refine ls F W Aa (CT F Aa Aa Aa).q fun a w F W => ?_
 refine ls F W Aa (Ae F Aa).q fun a w F W => ?_
 refine Ad (Ac (Ah (Ah (Ab ?_))))
 refine ls F W Aa (Ag F Aa).q fun a w F W => ?_
 refine ls F W Aa (H4 F Aa Aa).q fun a w F W => ?_
 refine Ad (Ac ?_)
 refine Aw F Aa (fun hb => ?_) fun hb => ?_
 ·
  have H := AV (Bg hb) H
  rw [hb] at F
  refine Ah (Ab ?_)
  iterate 3 refine ls F W Aa (Ag F Aa).q fun a w F W => ?_
  obtain ⟨x7, h1, H⟩ := Am H
  refine Bj (Ml := []) (Zl := [row v1 3 (Rp.int .i64) x1]) (M := []) (Z := []) (β := Unit) (rv := fun x => .tuple #[]) (MM := fun x => []) (ZZ := fun x => [row v1 3 (Rp.int .i64) x7]) F W Xo Aa Aa (fun hL => HY _ _ w (v1) x1 x2 x3 _ h1 hL) fun x a w F W => ?_
  have W : Stw ⟨Y, X, w0⟩ [] [row v1 3 (Rp.int .i64) x7] w := W
  refine Ad (Ac (Av (AN (AQ (AN (AQ ?_))))))
  have H := L1 _ H
  have H := AP H
  subst H
  refine LH (.inl Aa) F Aa ?_
  exact ⟨(), Aa, W⟩
 have H := AR (Bf hb) H
 rw [hb] at F
 refine Ay (Ac (Ah (Ah (Ab ?_))))
 refine ls F W Aa (Ag F Aa).q fun a w F W => ?_
 refine ls F W Aa (A7 F Aa Aa).q fun a w F W => ?_
 refine Ad (Ac ?_)
 refine Aw F Aa (fun hb => ?_) fun hb => ?_
 ·
  have H := AV (Bg hb) H
  rw [hb] at F
  refine Ah (Ab ?_)
  iterate 3 refine ls F W Aa (Ag F Aa).q fun a w F W => ?_
  obtain ⟨x8, h2, H⟩ := Am H
  refine Bj (Ml := []) (Zl := [row v1 3 (Rp.int .i64) x1]) (M := []) (Z := []) (β := Unit) (rv := fun x => .tuple #[]) (MM := fun x => []) (ZZ := fun x => [row v1 3 (Rp.int .i64) x8]) F W Xu Aa Aa (fun hL => Jv _ _ w (v1) x1 x2 x3 _ h2 hL) fun x a w F W => ?_
  have W : Stw ⟨Y, X, w0⟩ [] [row v1 3 (Rp.int .i64) x8] w := W
  refine Ad (Ac (Av (AN (AQ (AN (AQ ?_))))))
  have H := L1 _ H
  have H := AP H
  subst H
  refine LH (.inl Aa) F Aa ?_
  exact ⟨(), Aa, W⟩
 have H := AR (Bf hb) H
 rw [hb] at F
 refine Ay (Ac ?_)
 obtain ⟨o2, G2, K2⟩ := Am H
 refine AO (fun a w => ∃ x9 : List Int, ∃ x10 : Int, some ((x9, x10)) = some o2 ∧ Fr 134 [] [(0, v1), (1, .int .i64 x2), (2, .int .i64 x3), (3, .int .i64 x10), (8, .bool x5), (9, .bool x6), (10, .int .i64 (AG (x3 - x2)))] a ∧ Stw ⟨Y, X, w0⟩ [] [row v1 3 (Rp.int .i64) x9] w) ?_ ?_
 ·
  have H := G2
  refine Ah (Ab ?_)
  refine ls F W Aa (Ag F Aa).q fun a w F W => ?_
  refine ls F W Aa (F4 F Aa).q fun a w F W => ?_
  refine Ad (Ac ?_)
  refine Aw F Aa (fun hb => ?_) fun hb => ?_
  ·
   have H := AV hb H
   rw [hb] at F
   refine Ah (Ab ?_)
   iterate 3 refine ls F W Aa (Ag F Aa).q fun a w F W => ?_
   obtain ⟨x11, h3, H⟩ := Am H
   refine Bj (Ml := []) (Zl := [row v1 3 (Rp.int .i64) x1]) (M := []) (Z := []) (β := Unit) (rv := fun x => .tuple #[]) (MM := fun x => []) (ZZ := fun x => [row v1 3 (Rp.int .i64) x11]) F W W0 Aa Aa (fun hL => HQ _ _ w (v1) x1 x2 x3 _ h3 hL) fun x a w F W => ?_
   have W : Stw ⟨Y, X, w0⟩ [] [row v1 3 (Rp.int .i64) x11] w := W
   refine Ad (Ac (Ab ?_))
   refine ls F W Aa (Ag F Aa).q fun a w F W => ?_
   refine ls F W Aa (CT F Aa Aa Aa).q fun a w F W => ?_
   refine ls F W Aa (Ae F Aa).q fun a w F W => ?_
   refine Ad (Ac ?_)
   exact ⟨_, _, H, F.re ⟨rfl, Aa, Aa, Aa, Aa, Aa, Aa, trivial⟩, W⟩
  have H := AR (by rw [hb]; decide) H
  rw [hb] at F
  refine Ay (Ac ?_)
  exact ⟨_, _, H, F.re ⟨rfl, Aa, Aa, Aa, Aa, Aa, Aa, trivial⟩, W⟩
 rintro a w ⟨x9, x10, hj, F, W⟩
 have hj := AP hj
 subst hj
 have H := K2
 refine Ah (Ab ?_)
 iterate 3 refine ls F W Aa (Ag F Aa).q fun a w F W => ?_
 obtain ⟨x12, h4, H⟩ := Am H
 refine ls F W Aa (A3 (v := Value.tuple #[.int .i64 x12.1, .int .i64 x12.2]) F WX Aa (fun w W => Ix any w (v1) x9 x2 x3 _ h4 (((Au 0 Aa) : D1 _ _ _ _ _ _) w W).nx)) fun a w F W => ?_
 refine ls F W Aa (Ag F Aa).q fun a w F W => ?_
 refine ls F W Aa (Ff (v := Value.int .i64 x12.1) F Aa Aa).q fun a w F W => ?_
 refine ls F W Aa (Ff (v := Value.int .i64 x12.2) F Aa Aa).q fun a w F W => ?_
 iterate 2 refine ls F W Aa (Ae F Aa).q fun a w F W => ?_
 refine Ad (Ac ?_)
 obtain ⟨o3, G3, K3⟩ := Am H
 refine AO (fun a w => ∃ x13 : List Int, ∃ x14 : Int, ∃ x15 : Int, some ((x13, x14, x15)) = some o3 ∧ Fr 134 [] [(0, v1), (1, .int .i64 x2), (2, .int .i64 x3), (3, .int .i64 x10), (8, .bool x5), (9, .bool x6), (10, .int .i64 (AG (x3 - x2))), (11, .int .i64 x14), (12, .int .i64 x15)] a ∧ Stw ⟨Y, X, w0⟩ [] [row v1 3 (Rp.int .i64) x13] w) ?_ ?_
 ·
  have H := G3
  refine Ah (Ab ?_)
  refine ls F W Aa (Ag F Aa).q fun a w F W => ?_
  refine ls F W Aa (A7 F Aa Aa).q fun a w F W => ?_
  refine Ad (Ac ?_)
  refine Aw F Aa (fun hb => ?_) fun hb => ?_
  ·
   have H := AV (Bg hb) H
   rw [hb] at F
   refine Ah (Ab ?_)
   iterate 3 refine ls F W Aa (Ag F Aa).q fun a w F W => ?_
   obtain ⟨x16, h5, H⟩ := Am H
   refine Bj (Ml := []) (Zl := [row v1 3 (Rp.int .i64) x9]) (M := []) (Z := []) (β := Unit) (rv := fun x => .tuple #[]) (MM := fun x => []) (ZZ := fun x => [row v1 3 (Rp.int .i64) x16]) F W WN Aa Aa (fun hL => Ik _ _ w (v1) x9 x2 x3 _ h5 hL) fun x a w F W => ?_
   have W : Stw ⟨Y, X, w0⟩ [] [row v1 3 (Rp.int .i64) x16] w := W
   refine Ad (Ac (Ah (Ab ?_)))
   refine ls F W Aa (Ag F Aa).q fun a w F W => ?_
   refine ls F W Aa (CT F Aa Aa Aa).q fun a w F W => ?_
   iterate 2 refine ls F W Aa (Ag F Aa).q fun a w F W => ?_
   iterate 2 refine ls F W Aa (CT F Aa Aa Aa).q fun a w F W => ?_
   refine ls F W Aa (Ae F Aa).q fun a w F W => ?_
   refine Ad (Ac (Ab ?_))
   refine ls F W Aa (Ae F Aa).q fun a w F W => ?_
   refine Ad (Ac ?_)
   exact ⟨_, _, _, H, F.re ⟨rfl, Aa, Aa, Aa, Aa, Aa, Aa, Aa, Aa, trivial⟩, W⟩
  have H := AR (Bf hb) H
  rw [hb] at F
  refine Ay (Ac ?_)
  exact ⟨_, _, _, H, F.re ⟨rfl, Aa, Aa, Aa, Aa, Aa, Aa, Aa, Aa, trivial⟩, W⟩
 rintro a w ⟨x13, x14, x15, hj, F, W⟩
 have hj := AP hj
 subst hj
 have H := K3
 obtain ⟨o4, G4, K4, L4⟩ := PQ H
 refine AO (fun a w => ∃ x17 : List Int, some (Sum.inl x17) = some o4 ∧ Fr 134 [] [(0, v1), (1, .int .i64 x2), (2, .int .i64 x3), (3, .int .i64 x10), (8, .bool (x5 && (x6 || true))), (9, .bool (bif x5 then x6 else x6)), (10, .int .i64 (AG (x3 - x2))), (11, .int .i64 x14)] a ∧ Stw ⟨Y, X, w0⟩ [] [row v1 3 (Rp.int .i64) x17] w) ?_ ?_
 ·
  have H := G4
  refine AO (fun a w => Fr 134 [] [(0, v1), (1, .int .i64 x2), (2, .int .i64 x3), (3, .int .i64 x10), (8, .bool (x5 && (x6 || true))), (9, .bool (bif x5 then x6 else x6)), (10, .int .i64 (AG (x3 - x2))), (11, .int .i64 x14), (68, .bool (x5 && (x6 && decide (x15 = 1))))] a ∧ Stw ⟨Y, X, w0⟩ [] [row v1 3 (Rp.int .i64) x13] w) ?_ ?_
  ·
   refine Ab ?_
   iterate 2 refine ls F W Aa (Ag F Aa).q fun a w F W => ?_
   rcases bxq x5 with hb0 | hb0
   ·
    rw [hb0] at F
    refine AK F W (Af F Aa Aa Aa Aa) Aa (Ak Aa) (Ag F Aa).q fun a w F W => ?_
    refine ls F W Aa (Ax F Aa Aa Aa).q fun a w F W => ?_
    refine ls F W Aa (Ag F Aa).q fun a w F W => ?_
    rcases bxq x6 with hb1 | hb1
    ·
     rw [hb1] at F
     refine AK F W (Af F Aa Aa Aa Aa) Aa (Ak Aa) (Ag F Aa).q fun a w F W => ?_
     refine AK F W (Af F Aa Aa Aa Aa) Aa (Ak Aa) (A7 F Aa Aa).q fun a w F W => ?_
     refine ls F W Aa (Ax F Aa Aa Aa).q fun a w F W => ?_
     refine Ad (Ac ?_)
     exact ⟨F.re ⟨rfl, Aa, Aa, Aa, (by show some (Value.bool true) = some (Value.bool (x5 && (x6 || true))); try rw [hb0]; try rw [hb1]; all_goals simp only [Bool.not_true, Bool.not_false, Bool.true_and, Bool.false_and, Bool.true_or, Bool.false_or, Bool.and_true, Bool.or_false, cond_true, cond_false]), (by show some (Value.bool true) = some (Value.bool (bif x5 then x6 else x6)); try rw [hb0]; try rw [hb1]; all_goals simp only [Bool.not_true, Bool.not_false, Bool.true_and, Bool.false_and, Bool.true_or, Bool.false_or, Bool.and_true, Bool.or_false, cond_true, cond_false]), Aa, Aa, (by show some (Value.bool (decide (x15 = 1))) = some (Value.bool (x5 && (x6 && decide (x15 = 1)))); try rw [hb0]; try rw [hb1]; all_goals simp only [Bool.not_true, Bool.not_false, Bool.true_and, Bool.false_and, Bool.true_or, Bool.false_or, Bool.and_true, Bool.or_false, cond_true, cond_false]), trivial⟩, W⟩
    rw [hb1] at F
    iterate 2 refine Dz F Aa Aa Aa Aa Aa Aa Aa fun a F => ?_
    refine ls F W Aa (As F Aa Aa Aa).q fun a w F W => ?_
    refine Ad (Ac ?_)
    exact ⟨F.re ⟨rfl, Aa, Aa, Aa, (by show some (Value.bool true) = some (Value.bool (x5 && (x6 || true))); try rw [hb0]; try rw [hb1]; all_goals simp only [Bool.not_true, Bool.not_false, Bool.true_and, Bool.false_and, Bool.true_or, Bool.false_or, Bool.and_true, Bool.or_false, cond_true, cond_false]), (by show some (Value.bool false) = some (Value.bool (bif x5 then x6 else x6)); try rw [hb0]; try rw [hb1]; all_goals simp only [Bool.not_true, Bool.not_false, Bool.true_and, Bool.false_and, Bool.true_or, Bool.false_or, Bool.and_true, Bool.or_false, cond_true, cond_false]), Aa, Aa, (by show some (Value.bool false) = some (Value.bool (x5 && (x6 && decide (x15 = 1)))); try rw [hb0]; try rw [hb1]; all_goals simp only [Bool.not_true, Bool.not_false, Bool.true_and, Bool.false_and, Bool.true_or, Bool.false_or, Bool.and_true, Bool.or_false, cond_true, cond_false]), trivial⟩, W⟩
   rw [hb0] at F
   refine Dz F Aa Aa Aa Aa Aa Aa Aa fun a F => ?_
   refine ls F W Aa (As F Aa Aa Aa).q fun a w F W => ?_
   refine ls F W Aa (Ag F Aa).q fun a w F W => ?_
   iterate 2 refine Dz F Aa Aa Aa Aa Aa Aa Aa fun a F => ?_
   refine ls F W Aa (As F Aa Aa Aa).q fun a w F W => ?_
   refine Ad (Ac ?_)
   exact ⟨F.re ⟨rfl, Aa, Aa, Aa, (by show some (Value.bool false) = some (Value.bool (x5 && (x6 || true))); try rw [hb0]; all_goals simp only [Bool.not_true, Bool.not_false, Bool.true_and, Bool.false_and, Bool.true_or, Bool.false_or, Bool.and_true, Bool.or_false, cond_true, cond_false]), (by show some (Value.bool x6) = some (Value.bool (bif x5 then x6 else x6)); try rw [hb0]; all_goals simp only [Bool.not_true, Bool.not_false, Bool.true_and, Bool.false_and, Bool.true_or, Bool.false_or, Bool.and_true, Bool.or_false, cond_true, cond_false]), Aa, Aa, (by show some (Value.bool false) = some (Value.bool (x5 && (x6 && decide (x15 = 1)))); try rw [hb0]; all_goals simp only [Bool.not_true, Bool.not_false, Bool.true_and, Bool.false_and, Bool.true_or, Bool.false_or, Bool.and_true, Bool.or_false, cond_true, cond_false]), trivial⟩, W⟩
  rintro a w ⟨F, W⟩
  refine Aw F Aa (fun hb => ?_) fun hb => ?_
  ·
   have H := AV hb H
   rw [hb] at F
   refine Ah (Ab ?_)
   iterate 3 refine ls F W Aa (Ag F Aa).q fun a w F W => ?_
   obtain ⟨x18, h6, H⟩ := Am H
   refine Bj (Ml := []) (Zl := [row v1 3 (Rp.int .i64) x13]) (M := []) (Z := []) (β := Unit) (rv := fun x => .bool x18.1) (MM := fun x => []) (ZZ := fun x => [row v1 3 (Rp.int .i64) x18.2]) F W Xi Aa Aa (fun hL => Gz _ _ w (v1) x13 x2 x3 _ h6 hL) fun x a w F W => ?_
   have W : Stw ⟨Y, X, w0⟩ [] [row v1 3 (Rp.int .i64) x18.2] w := W
   refine Ad (Ac ?_)
   refine Aw F Aa (fun hb => ?_) fun hb => ?_
   ·
    have H := AV hb H
    rw [hb] at F
    refine Av (AN (AQ (AN (AQ ?_))))
    have H := L4 _ H
    have H := L1 _ H
    have H := AP H
    subst H
    refine LH (.inl Aa) F Aa ?_
    exact ⟨(), Aa, W⟩
   have H := AR (by rw [hb]; decide) H
   rw [hb] at F
   refine Ay (Ac ?_)
   exact ⟨_, H, F.re ⟨rfl, Aa, Aa, Aa, Aa, Aa, Aa, Aa, trivial⟩, W⟩
  have H := AR (by rw [hb]; decide) H
  rw [hb] at F
  refine Ay (Ac ?_)
  exact ⟨_, H, F.re ⟨rfl, Aa, Aa, Aa, Aa, Aa, Aa, Aa, trivial⟩, W⟩
 rintro a w ⟨x17, hj, F, W⟩
 have H := K4 _ hj
 refine Ah ?_
 obtain ⟨o5, G5, K5⟩ := Am H
 refine AO (fun a w => ∃ x19 : Bool, some (x19) = some o5 ∧ Fr 134 [] [(0, v1), (1, .int .i64 x2), (2, .int .i64 x3), (3, .int .i64 x10), (8, .bool (x5 && (x6 || true))), (9, .bool (bif x5 then x6 else x6)), (10, .int .i64 (AG (x3 - x2))), (11, .int .i64 x14), (87, .bool x19)] a ∧ Stw ⟨Y, X, w0⟩ [] [row v1 3 (Rp.int .i64) x17] w) ?_ ?_
 ·
  have H := G5
  refine CK W MO (by kernel_rfl) ?_
  refine qs F Aa (Ag F Aa).q fun a F => ?_
  refine qs F Aa (HL F Aa Aa).q fun a F => ?_
  refine qs F Aa (Ag F Aa).q fun a F => ?_
  rcases bxq (decide (0 < x2)) with hb | hb
  ·
   have H := AV (Bg hb) H
   rw [hb] at F
   iterate 2 refine Bk F (Af F Aa Aa Aa Aa) Aa (Ak Aa) (Ag F Aa).q fun a F => ?_
   refine Bk F (Af F Aa Aa Aa Aa) Aa (Ak Aa) (CT F Aa Aa Aa).q fun a F => ?_
   obtain ⟨x20, h7, H⟩ := Am H
   refine Bk F (Af F Aa Aa Aa Aa) Aa (Ak Aa) (AM (r := (Rp.int .i64)) EF F Aa Aa (Au 0 Aa) h7).q fun a F => ?_
   refine Bk F (Af F Aa Aa Aa Aa) Aa (Ak Aa) (AA (y := Value.int .i64 x20) (j := 0) (i := AG (x2 - 1)) F Aa Aa (Au 0 Aa) h7 Fl.int.to T3 Aa).q fun a F => ?_
   iterate 2 refine Bk F (Af F Aa Aa Aa Aa) Aa (Ak Aa) (Ag F Aa).q fun a F => ?_
   obtain ⟨x21, h8, H⟩ := Am H
   refine Bk F (Af F Aa Aa Aa Aa) Aa (Ak Aa) (AM (r := (Rp.int .i64)) EF F Aa Aa (Au 0 Aa) h8).q fun a F => ?_
   refine Bk F (Af F Aa Aa Aa Aa) Aa (Ak Aa) (AA (y := Value.int .i64 x21) (j := 0) (i := x14) F Aa Aa (Au 0 Aa) h8 Fl.int.to T3 Aa).q fun a F => ?_
   refine Bk F (Af F Aa Aa Aa Aa) Aa (Ak Aa) (A3 (v := Value.bool (AX x20 x21)) F NI Aa (fun w W => CG any w x20 x21 _ Aa)) fun a F => ?_
   refine Bk F (Af F Aa Aa Aa Aa) Aa (Ak Aa) (F4 F Aa).q fun a F => ?_
   refine qs F Aa (Ax F Aa Aa Aa).q fun a F => ?_
   refine A9 fun w W => ?_
   refine Ac ?_
   exact ⟨_, H, F.re ⟨rfl, Aa, Aa, Aa, Aa, Aa, Aa, Aa, Aa, trivial⟩, W⟩
  have H := AR (Bf hb) H
  rw [hb] at F
  iterate 11 refine B4 F (Bi F Aa Aa Aa Aa Aa) Aa Aa fun a F => ?_
  refine qs F Aa (As F Aa Aa Aa).q fun a F => ?_
  refine A9 fun w W => ?_
  refine Ac ?_
  exact ⟨_, H, F.re ⟨rfl, Aa, Aa, Aa, Aa, Aa, Aa, Aa, Aa, trivial⟩, W⟩
 rintro a w ⟨x19, hj, F, W⟩
 have hj := AP hj
 subst hj
 have H := K5
 refine Aw F Aa (fun hb => ?_) fun hb => ?_
 ·
  have H := AV hb H
  rw [hb] at F
  refine Ah (Ab ?_)
  iterate 4 refine ls F W Aa (Ag F Aa).q fun a w F W => ?_
  obtain ⟨x22, h9, H⟩ := Am H
  refine Bj (Ml := []) (Zl := [row v1 3 (Rp.int .i64) x17]) (M := []) (Z := []) (β := Unit) (rv := fun x => .int .i64 x22.1) (MM := fun x => []) (ZZ := fun x => [row v1 3 (Rp.int .i64) x22.2]) F W Xc Aa Aa (fun hL => HD _ _ w (v1) x17 x2 x3 x14 _ h9 hL) fun x a w F W => ?_
  have W : Stw ⟨Y, X, w0⟩ [] [row v1 3 (Rp.int .i64) x22.2] w := W
  refine ls F W Aa (Ae F Aa).q fun a w F W => ?_
  refine Ad (Ac (Ah (Ab ?_)))
  refine ls F W Aa (Ag F Aa).q fun a w F W => ?_
  refine ls F W Aa (Ae F Aa).q fun a w F W => ?_
  refine Ad (Ac (Bz (BS (Bx (Ac ?_)))))
  exact ⟨_, H, F.re ⟨rfl, Aa, Aa, Aa, Aa, Aa, trivial⟩, W⟩
 have H := AR (by rw [hb]; decide) H
 rw [hb] at F
 refine Ay (Ac (Ah (Ab ?_)))
 iterate 4 refine ls F W Aa (Ag F Aa).q fun a w F W => ?_
 obtain ⟨x23, h10, H⟩ := Am H
 refine Bj (Ml := []) (Zl := [row v1 3 (Rp.int .i64) x17]) (M := []) (Z := []) (β := Unit) (rv := fun x => .tuple #[.int .i64 x23.1, .bool x23.2.1]) (MM := fun x => []) (ZZ := fun x => [row v1 3 (Rp.int .i64) x23.2.2]) F W XD Aa Aa (fun hL => Jg _ _ w (v1) x17 x2 x3 x14 _ h10 hL) fun x a w F W => ?_
 have W : Stw ⟨Y, X, w0⟩ [] [row v1 3 (Rp.int .i64) x23.2.2] w := W
 refine ls F W Aa (Ag F Aa).q fun a w F W => ?_
 refine ls F W Aa (Ff (v := Value.int .i64 x23.1) F Aa Aa).q fun a w F W => ?_
 refine ls F W Aa (Ff (v := Value.bool x23.2.1) F Aa Aa).q fun a w F W => ?_
 iterate 2 refine ls F W Aa (Ae F Aa).q fun a w F W => ?_
 refine Ad (Ac (Ah (Ab ?_)))
 refine ls F W Aa (Ag F Aa).q fun a w F W => ?_
 refine ls F W Aa (Ae F Aa).q fun a w F W => ?_
 refine Ad (Ac (Ah (Ab ?_)))
 iterate 2 refine ls F W Aa (Ag F Aa).q fun a w F W => ?_
 refine ls F W Aa (CT F Aa Aa Aa).q fun a w F W => ?_
 iterate 2 refine ls F W Aa (Ag F Aa).q fun a w F W => ?_
 refine ls F W Aa (CT F Aa Aa Aa).q fun a w F W => ?_
 iterate 2 refine ls F W Aa (Ae F Aa).q fun a w F W => ?_
 refine Ad (Ac (Ah (Ab ?_)))
 refine ls F W Aa (Ag F Aa).q fun a w F W => ?_
 refine ls F W Aa (Qo F Aa Aa (by decide) Aa).q fun a w F W => ?_
 refine ls F W Aa (Ae F Aa).q fun a w F W => ?_
 refine Ad (Ac (Ah (Ab ?_)))
 iterate 2 refine ls F W Aa (Ag F Aa).q fun a w F W => ?_
 refine ls F W Aa (Cu F Aa Aa).q fun a w F W => ?_
 refine Ad (Ac ?_)
 refine Aw F Aa (fun hb => ?_) fun hb => ?_
 ·
  have H := AV (Bg hb) H
  rw [hb] at F
  refine Ah (Ab ?_)
  iterate 2 refine ls F W Aa (Ag F Aa).q fun a w F W => ?_
  refine ls F W Aa (D4 F Aa Aa).q fun a w F W => ?_
  refine ls F W Aa (Ae F Aa).q fun a w F W => ?_
  refine Ad (Ac (Ah (Ab ?_)))
  iterate 4 refine ls F W Aa (Ag F Aa).q fun a w F W => ?_
  obtain ⟨x24, h11, H⟩ := Am H
  refine Bj (Ml := []) (Zl := [row v1 3 (Rp.int .i64) x23.2.2]) (M := []) (Z := []) (β := Unit) (rv := fun x => .tuple #[]) (MM := fun x => []) (ZZ := fun x => [row v1 3 (Rp.int .i64) x24]) F W Xg Aa Aa (fun hL => ih _ _ w (v1) x23.2.2 x2 x23.1 x10 _ h11 hL) fun x a w F W => ?_
  have W : Stw ⟨Y, X, w0⟩ [] [row v1 3 (Rp.int .i64) x24] w := W
  refine Ad (Ac (Ab ?_))
  refine ls F W Aa (Ag F Aa).q fun a w F W => ?_
  refine ls F W Aa (BL F Aa Aa Aa).q fun a w F W => ?_
  refine ls F W Aa (Ae F Aa).q fun a w F W => ?_
  refine Ad (AU (Ac ?_))
  exact ⟨_, H, F.re ⟨rfl, Aa, Aa, Aa, Aa, Aa, trivial⟩, W⟩
 have H := AR (Bf hb) H
 rw [hb] at F
 refine Ah (Ab ?_)
 iterate 2 refine ls F W Aa (Ag F Aa).q fun a w F W => ?_
 refine ls F W Aa (D4 F Aa Aa).q fun a w F W => ?_
 refine ls F W Aa (Ae F Aa).q fun a w F W => ?_
 refine Ad (Ac (Ah (Ab ?_)))
 iterate 2 refine ls F W Aa (Ag F Aa).q fun a w F W => ?_
 refine ls F W Aa (BL F Aa Aa Aa).q fun a w F W => ?_
 iterate 2 refine ls F W Aa (Ag F Aa).q fun a w F W => ?_
 obtain ⟨x25, h12, H⟩ := Am H
 refine Bj (Ml := []) (Zl := [row v1 3 (Rp.int .i64) x23.2.2]) (M := []) (Z := []) (β := Unit) (rv := fun x => .tuple #[]) (MM := fun x => []) (ZZ := fun x => [row v1 3 (Rp.int .i64) x25]) F W Xg Aa Aa (fun hL => ih _ _ w (v1) x23.2.2 (AG (x23.1 + 1)) x3 x10 _ h12 hL) fun x a w F W => ?_
 have W : Stw ⟨Y, X, w0⟩ [] [row v1 3 (Rp.int .i64) x25] w := W
 refine Ad (Ac (Ab ?_))
 refine ls F W Aa (Ag F Aa).q fun a w F W => ?_
 refine ls F W Aa (Ae F Aa).q fun a w F W => ?_
 refine Ad (AU (Ac ?_))
 exact ⟨_, H, F.re ⟨rfl, Aa, Aa, Aa, Aa, Aa, trivial⟩, W⟩
theorem Js : ∀ (n : Nat) (Y : Nat → Prop) (X : List Nat) (w0 : World) (v1 : Value) (p0 : List Int) (p1 : Int) (p2 : Int) (p3 : Int) (r : List Int) (H : A4 n p0 p1 p2 p3 = some r) (hL : Stw ⟨Y, X, w0⟩ [] [row v1 3 (Rp.int .i64) p0] w0), Calls Tryz.prog 92 #[v1, .int .i64 p1, .int .i64 p2, .int .i64 p3] w0 fun e w' => ∃ x : Unit, e = .returned (.tuple #[]) ∧ Stw ⟨Y, X, w0⟩ [] [row v1 3 (Rp.int .i64) r] w' := by
  intro n
  induction n with
  | zero => intro Y X w0 v1 p0 p1 p2 p3 r H; exact nomatch H
  | succ n ih => intro Y X w0 v1 p0 p1 p2 p3 r H hL; exact Jb (A4 n) ih Y X w0 v1 p0 p1 p2 p3 r H hL
theorem JI (Y : Nat → Prop) (X : List Nat) (w0 : World) (v1 : Value) (p0 : List Int) (p1 : Int) (p2 : Int) (p3 : Int) (r : List Int) (H : Dn p0 p1 p2 p3 = some r) (hL : Stw ⟨Y, X, w0⟩ [] [row v1 3 (Rp.int .i64) p0] w0) :
    Calls Tryz.prog 92 #[v1, .int .i64 p1, .int .i64 p2, .int .i64 p3] w0 fun e w' => ∃ x : Unit, e = .returned (.tuple #[]) ∧ Stw ⟨Y, X, w0⟩ [] [row v1 3 (Rp.int .i64) r] w' := by
  obtain ⟨n, H⟩ := Dd H
  exact Js n Y X w0 v1 p0 p1 p2 p3 r H hL
def C6 (p0 : List Int) : Option (List Int) := (EU (IntKind.u64.wrap (p0.length : Int))).bind fun x1 => (Dn p0 0 (p0.length : Int) x1).bind fun x2 => some x2
theorem Iz (Y : Nat → Prop) (X : List Nat) (w0 : World) (v1 : Value) (p0 : List Int) (r : List Int) (H : C6 p0 = some r) (hL : Stw ⟨Y, X, w0⟩ [] [row v1 3 (Rp.int .i64) p0] w0) :
    Calls Tryz.prog 56 #[v1] w0 fun e w' => ∃ x : Unit, e = .returned (.tuple #[]) ∧ Stw ⟨Y, X, w0⟩ [] [row v1 3 (Rp.int .i64) r] w' := by
 refine enter Tryz.func56 Aa Tryz.ntmps56 Aa fun a F => ?_
 have W := hL
 unfold C6 at H
 refine Ah (Ab ?_)
 refine ls F W Aa (Ag F Aa).q fun a w F W => ?_
 refine ls F W Aa (CA (r := (Rp.int .i64)) (l := p0) RS Aa F Aa (Au 0 Aa)).q fun a w F W => ?_
 refine ls F W Aa (Ae F Aa).q fun a w F W => ?_
 refine Ad (Ac (Ab ?_))
 iterate 3 refine ls F W Aa (Ag F Aa).q fun a w F W => ?_
 refine ls F W Aa (Mp UL TY F Aa).q fun a w F W => ?_
 obtain ⟨x1, h1, H⟩ := Am H
 refine ls F W Aa (A3 (v := Value.int .i64 x1) F X1 Aa (fun w W => Lz any w (IntKind.u64.wrap (p0.length : Int)) _ h1)) fun a w F W => ?_
 obtain ⟨x2, h2, H⟩ := Am H
 refine Bj (Ml := []) (Zl := [row v1 3 (Rp.int .i64) p0]) (M := []) (Z := []) (β := Unit) (rv := fun x => .tuple #[]) (MM := fun x => []) (ZZ := fun x => [row v1 3 (Rp.int .i64) x2]) F W Xg Aa Aa (fun hL => JI _ _ w (v1) p0 0 (p0.length : Int) x1 _ h2 hL) fun x a w F W => ?_
 have W : Stw ⟨Y, X, w0⟩ [] [row v1 3 (Rp.int .i64) x2] w := W
 refine Ad ?_
 have H := AP H
 subst H
 refine LH (.inr Aa) F Aa ?_
 exact ⟨(), Aa, W⟩
theorem XI : Has Tryz.prog 56 := ⟨fun args w => Aj Tryz.func56 rfl (by decide) args w⟩
def B7 (p0 : List Int) (x1 : Int) : (List Int × Int × Int) → Option ((List Int × Int × Int) ⊕ (List Int × Int))
  | (x7, x8, x9) => (Lh x7 x1 (p0.length : Int)).bind fun x10 => (if x9 < (x10.length : Int) then ((ix x10 x9).bind fun x13 => (ix x10 (AG (x9 - 1))).bind fun x14 => (if x13 ≠ x14 then (ix x10 x9).bind fun x15 => (ix x7 x8).bind fun x16 => some ((AL x7 x8 x15), AG (x8 + 1)) else some (x7, x8))).bind fun (x11, x12) => some (.inl (x11, x12, AG (x9 + 1))) else some (.inr (x7, x8)))
def BR (p0 : List Int) : Int → Option (Int ⊕ (Unit ⊕ (List Int)))
  | x1 => (if x1 < (p0.length : Int) then Je ((ix p0 x1).bind fun x2 => (ix p0 (AG (x1 - 1))).bind fun x3 => (if x2 = x3 then (Lh p0 x1 (p0.length : Int)).bind fun x4 => (A6 (B7 p0 x1) (p0, x1, 1)).bind fun (x5, x6) => (Lh x5 x6 (x5.length : Int)).bind fun x17 => (Vx x5 x6 (List.replicate (x17.length) (0 : Int))).bind fun x18 => (Lh x18 0 x6).bind fun x19 => some (.inr (.inr (.inr x19))) else some (.inl ()))) fun _ => some (.inl (AG (x1 + 1))) else some (.inr (.inl ())))
def CH (p0 : List Int) : Option (List Int) := (if (p0.length : Int) < 2 then some p0 else Je (A6 (BR p0) 1) fun _ => some p0)
theorem Hx (Y : Nat → Prop) (X : List Nat) (w0 : World) (v1 : Value) (p0 : List Int) (r : List Int) (H : CH p0 = some r) (hL : Stw ⟨Y, X, w0⟩ [] [row v1 3 (Rp.int .i64) p0] w0) :
    Calls Tryz.prog 57 #[v1] w0 fun e w' => ∃ x : Value, e = .returned (x) ∧ Stw ⟨Y, X, w0⟩ [] [row (x) 3 (Rp.int .i64) r] w' := by
 refine enter Tryz.func57 Aa Tryz.ntmps57 Aa fun a F => ?_
 have W := hL
 unfold CH at H
 refine Ah (Ab ?_)
 refine ls F W Aa (Ae F Aa).q fun a w F W => ?_
 refine Ad (Ac (Ah (Ah (Ab ?_))))
 refine ls F W Aa (Ag F Aa).q fun a w F W => ?_
 refine ls F W Aa (CA (r := (Rp.int .i64)) (l := p0) RS Aa F Aa (Au 0 Aa)).q fun a w F W => ?_
 refine ls F W Aa (Cu F Aa Aa).q fun a w F W => ?_
 refine Ad (Ac ?_)
 refine Aw F Aa (fun hb => ?_) fun hb => ?_
 ·
  have H := AV (Bg hb) H
  rw [hb] at F
  refine Ah (Ab ?_)
  refine ls F W Aa (Ag F Aa).q fun a w F W => ?_
  refine ls F W Aa (Ae F Aa).q fun a w F W => ?_
  refine Ad (Ac (Av (AN ?_)))
  have H := AP H
  subst H
  refine AJ (.inl Aa) F W Aa (AB F Aa) ?_
  exact ⟨(v1), Aa, W⟩
 have H := AR (Bf hb) H
 rw [hb] at F
 refine Ay (Ac ?_)
 obtain ⟨o1, G1, K1, L1⟩ := PQ H
 refine AO (fun a w => some (Sum.inl ()) = some o1 ∧ Fr 61 [] [(0, v1), (2, .slice none 0 0)] a ∧ Stw ⟨Y, X, w0⟩ [] [row v1 3 (Rp.int .i64) p0] w) ?_ ?_
 ·
  have H := G1
  refine Ah (Ab ?_)
  refine ls F W Aa (Ae F Aa).q fun a w F W => ?_
  refine Ad (Ac (Az ?_))
  refine BG H (fun s a w => Fr 61 [] [(0, v1), (2, .slice none 0 0), (3, .int .i64 s)] a ∧ Stw ⟨Y, X, w0⟩ [] [row v1 3 (Rp.int .i64) p0] w) ⟨F.re ⟨rfl, Aa, Aa, trivial⟩, W⟩ fun s o a w H L2 hR => ?_
  obtain ⟨x1, rfl⟩ : ∃ x, x = s := ⟨s, rfl⟩
  obtain ⟨F, W⟩ := hR
  have F : Fr 61 [] [(0, v1), (2, .slice none 0 0), (3, .int .i64 x1)] a := F
  have W : Stw ⟨Y, X, w0⟩ [] [row v1 3 (Rp.int .i64) p0] w := W
  rw [BR] at H
  refine Ah (Ah (Ab ?_))
  iterate 2 refine ls F W Aa (Ag F Aa).q fun a w F W => ?_
  refine ls F W Aa (CA (r := (Rp.int .i64)) (l := p0) RS Aa F Aa (Au 0 Aa)).q fun a w F W => ?_
  refine ls F W Aa (Cu F Aa Aa).q fun a w F W => ?_
  refine Ad (Ac ?_)
  refine Aw F Aa (fun hb => ?_) fun hb => ?_
  ·
   have H := AV (Bg hb) H
   rw [hb] at F
   refine Ay (Ac ?_)
   obtain ⟨o3, G3, K3, L3⟩ := PQ H
   refine AO (fun a w => some (Sum.inl ()) = some o3 ∧ Fr 61 [] [(0, v1), (2, .slice none 0 0), (3, .int .i64 x1)] a ∧ Stw ⟨Y, X, w0⟩ [] [row v1 3 (Rp.int .i64) p0] w) ?_ ?_
   ·
    have H := G3
    refine Az (Ah ?_)
    refine CK W MO (by kernel_rfl) ?_
    iterate 2 refine qs F Aa (Ag F Aa).q fun a F => ?_
    obtain ⟨x2, h1, H⟩ := Am H
    refine qs F Aa (AM (r := (Rp.int .i64)) EF F Aa Aa (Au 0 Aa) h1).q fun a F => ?_
    refine qs F Aa (AA (y := Value.int .i64 x2) (j := 0) (i := x1) F Aa Aa (Au 0 Aa) h1 Fl.int.to T3 Aa).q fun a F => ?_
    iterate 2 refine qs F Aa (Ag F Aa).q fun a F => ?_
    refine qs F Aa (CT F Aa Aa Aa).q fun a F => ?_
    obtain ⟨x3, h2, H⟩ := Am H
    refine qs F Aa (AM (r := (Rp.int .i64)) EF F Aa Aa (Au 0 Aa) h2).q fun a F => ?_
    refine qs F Aa (AA (y := Value.int .i64 x3) (j := 0) (i := AG (x1 - 1)) F Aa Aa (Au 0 Aa) h2 Fl.int.to T3 Aa).q fun a F => ?_
    refine qs F Aa (A7 F Aa Aa).q fun a F => ?_
    refine A9 fun w W => ?_
    refine Ac ?_
    refine Aw F Aa (fun hb => ?_) fun hb => ?_
    ·
     have H := AV (Bg hb) H
     rw [hb] at F
     refine Ah (Ab ?_)
     iterate 2 refine ls F W Aa (Ag F Aa).q fun a w F W => ?_
     obtain ⟨x4, h3, H⟩ := Am H
     refine ls F W Aa (Ro (r := (Rp.int .i64)) EF F Aa Aa Aa (Au 0 Aa) h3).q fun a w F W => ?_
     refine ls F W Aa (Ae F Aa).q fun a w F W => ?_
     refine Ad (Ac ?_)
     obtain ⟨o4, G4, K4⟩ := Am H
     refine AO (fun a w => ∃ x5 : List Int, ∃ x6 : Int, some ((x5, x6)) = some o4 ∧ Fr 61 [] [(0, v1), (2, .slice none 0 0), (3, .int .i64 x6)] a ∧ Stw ⟨Y, X, w0⟩ [] [row v1 3 (Rp.int .i64) x5] w) ?_ ?_
     ·
      have H := G4
      refine Ah (Ab ?_)
      refine ls F W Aa (Ae F Aa).q fun a w F W => ?_
      refine Ad (Ac (Az ?_))
      refine BG H (fun s a w => Fr 61 [] [(0, v1), (2, .slice none 0 0), (3, .int .i64 s.2.1), (4, (E1 v1 x1 (p0.length : Int) 1)), (5, .int .i64 s.2.2)] a ∧ Stw ⟨Y, X, w0⟩ [] [row v1 3 (Rp.int .i64) s.1] w) ⟨F.re ⟨rfl, Aa, Aa, Aa, Aa, trivial⟩, W⟩ fun s o a w H L5 hR => ?_
      obtain ⟨x7, x8, x9⟩ := s
      obtain ⟨F, W⟩ := hR
      have F : Fr 61 [] [(0, v1), (2, .slice none 0 0), (3, .int .i64 x8), (4, (E1 v1 x1 (p0.length : Int) 1)), (5, .int .i64 x9)] a := F
      have W : Stw ⟨Y, X, w0⟩ [] [row v1 3 (Rp.int .i64) x7] w := W
      rw [B7] at H
      refine Ah (Ah (Ab ?_))
      iterate 2 refine ls F W Aa (Ag F Aa).q fun a w F W => ?_
      obtain ⟨x10, h4, H⟩ := Am H
      refine ls F W Aa (CA (r := (Rp.int .i64)) (l := x10) RS Aa F Aa (Lo (Au 0 Aa) h4)).q fun a w F W => ?_
      refine ls F W Aa (Cu F Aa Aa).q fun a w F W => ?_
      refine Ad (Ac ?_)
      refine Aw F Aa (fun hb => ?_) fun hb => ?_
      ·
       have H := AV (Bg hb) H
       rw [hb] at F
       refine Ay (Ac ?_)
       obtain ⟨o6, G6, K6⟩ := Am H
       refine AO (fun a w => ∃ x11 : List Int, ∃ x12 : Int, some ((x11, x12)) = some o6 ∧ Fr 61 [] [(0, v1), (2, .slice none 0 0), (3, .int .i64 x12), (4, (E1 v1 x1 (p0.length : Int) 1)), (5, .int .i64 x9)] a ∧ Stw ⟨Y, X, w0⟩ [] [row v1 3 (Rp.int .i64) x11] w) ?_ ?_
       ·
        have H := G6
        refine Az (Ah ?_)
        refine CK W MO (by kernel_rfl) ?_
        iterate 2 refine qs F Aa (Ag F Aa).q fun a F => ?_
        obtain ⟨x13, h5, H⟩ := Am H
        refine qs F Aa (AM (r := (Rp.int .i64)) EF F Aa Aa (Lo (Au 0 Aa) h4) h5).q fun a F => ?_
        refine qs F Aa (AA (y := Value.int .i64 x13) (j := 0) (i := x9) F Aa Aa (Lo (Au 0 Aa) h4) h5 Fl.int.to T3 Aa).q fun a F => ?_
        iterate 2 refine qs F Aa (Ag F Aa).q fun a F => ?_
        refine qs F Aa (CT F Aa Aa Aa).q fun a F => ?_
        obtain ⟨x14, h6, H⟩ := Am H
        refine qs F Aa (AM (r := (Rp.int .i64)) EF F Aa Aa (Lo (Au 0 Aa) h4) h6).q fun a F => ?_
        refine qs F Aa (AA (y := Value.int .i64 x14) (j := 0) (i := AG (x9 - 1)) F Aa Aa (Lo (Au 0 Aa) h4) h6 Fl.int.to T3 Aa).q fun a F => ?_
        refine qs F Aa (Ip F Aa Aa).q fun a F => ?_
        refine A9 fun w W => ?_
        refine Ac ?_
        refine Aw F Aa (fun hb => ?_) fun hb => ?_
        ·
         have H := AV (Bg hb) H
         rw [hb] at F
         refine Ah (Ab ?_)
         iterate 4 refine ls F W Aa (Ag F Aa).q fun a w F W => ?_
         obtain ⟨x15, h7, H⟩ := Am H
         refine ls F W Aa (AM (r := (Rp.int .i64)) EF F Aa Aa (Lo (Au 0 Aa) h4) h7).q fun a w F W => ?_
         refine ls F W Aa (AA (y := Value.int .i64 x15) (j := 0) (i := x9) F Aa Aa (Lo (Au 0 Aa) h4) h7 Fl.int.to T3 Aa).q fun a w F W => ?_
         obtain ⟨x16, h8, H⟩ := Am H
         refine ls F W Aa (AM (r := (Rp.int .i64)) EF F Aa Aa (Au 0 Aa) h8).q fun a w F W => ?_
         refine BO (i := x8) (j := 0) (vs := [.int .i64 x15]) (x' := x15) F W Aa Aa Aa (k := 0) Aa Aa h8 T3 Aa Aa Aa Aa (fun A cs _ => Fl.int.sto (by rfl) _ _ _) fun w W => ?_
         refine Ad (Ac (Ab ?_))
         refine ls F W Aa (Ag F Aa).q fun a w F W => ?_
         refine ls F W Aa (BL F Aa Aa Aa).q fun a w F W => ?_
         refine ls F W Aa (Ae F Aa).q fun a w F W => ?_
         refine Ad (AU (Ac ?_))
         exact ⟨_, _, H, F.re ⟨rfl, Aa, Aa, Aa, Aa, trivial⟩, W⟩
        have H := AR (Bf hb) H
        rw [hb] at F
        refine Ay (AU (Ac ?_))
        exact ⟨_, _, H, F.re ⟨rfl, Aa, Aa, Aa, Aa, trivial⟩, W⟩
       rintro a w ⟨x11, x12, hj, F, W⟩
       have hj := AP hj
       subst hj
       have H := K6
       refine Ab ?_
       refine ls F W Aa (Ag F Aa).q fun a w F W => ?_
       refine ls F W Aa (BL F Aa Aa Aa).q fun a w F W => ?_
       refine ls F W Aa (Ae F Aa).q fun a w F W => ?_
       refine Ad (Ac ?_)
       exact ⟨_, H, F.re ⟨rfl, Aa, Aa, Aa, Aa, trivial⟩, W⟩
      have H := AR (Bf hb) H
      rw [hb] at F
      refine Bz ?_
      iterate 2 refine BS ?_
      refine Bx (Ac ?_)
      have H := L5 _ H
      exact ⟨_, _, H, F.re ⟨rfl, Aa, Aa, trivial⟩, W⟩
     rintro a w ⟨x5, x6, hj, F, W⟩
     have hj := AP hj
     subst hj
     have H := K4
     refine Ah (Ab ?_)
     iterate 2 refine ls F W Aa (Ag F Aa).q fun a w F W => ?_
     obtain ⟨x17, h9, H⟩ := Am H
     refine ls F W Aa (Ro (r := (Rp.int .i64)) EF F Aa Aa Aa (Au 0 Aa) h9).q fun a w F W => ?_
     obtain ⟨x18, h10, H⟩ := Am H
     refine U9 (r := (Rp.int .i64)) (v := v1) (k := 0) (0 : Int) F W EF Z3 Aa Aa Aa h9 (fun w A => Fl.int.mk' w A (0 : Int)) h10 fun w W => ?_
     have W : Stw ⟨Y, X, w0⟩ [] [row v1 3 (Rp.int .i64) x18] w := W
     refine Ad (Ac (Ah (Ab ?_)))
     iterate 2 refine ls F W Aa (Ag F Aa).q fun a w F W => ?_
     obtain ⟨x19, h11, H⟩ := Am H
     refine ls F W Aa (Ro (r := (Rp.int .i64)) EF F Aa Aa Aa (Au 0 Aa) h11).q fun a w F W => ?_
     refine ls F W Aa (Ae F Aa).q fun a w F W => ?_
     refine Ad (Ac (Av (AQ ?_)))
     iterate 2 refine AN ?_
     refine AQ (AN ?_)
     have H := L3 _ H
     have H := L2 _ H
     have H := L1 _ H
     have H := AP H
     subst H
     refine AJ (.inl Aa) F W Aa (AB F Aa) ?_
     have W := W.subRow (k := 0) Aa Aa h11
     exact ⟨((E1 v1 (0 : Int) x6 1)), Aa, W⟩
    have H := AR (Bf hb) H
    rw [hb] at F
    refine Ay (AU (Ac ?_))
    exact ⟨H, F.re ⟨rfl, Aa, Aa, trivial⟩, W⟩
   rintro a w ⟨hj, F, W⟩
   have H := K3 _ hj
   refine Ab ?_
   refine ls F W Aa (Ag F Aa).q fun a w F W => ?_
   refine ls F W Aa (BL F Aa Aa Aa).q fun a w F W => ?_
   refine ls F W Aa (Ae F Aa).q fun a w F W => ?_
   refine Ad (Ac ?_)
   exact ⟨_, H, F.re ⟨rfl, Aa, Aa, trivial⟩, W⟩
  have H := AR (Bf hb) H
  rw [hb] at F
  refine Bz ?_
  iterate 2 refine BS ?_
  refine Bx (Ac ?_)
  have H := L2 _ H
  exact ⟨H, F.re ⟨rfl, Aa, trivial⟩, W⟩
 rintro a w ⟨hj, F, W⟩
 have H := K1 _ hj
 refine Ah (Ab ?_)
 refine ls F W Aa (Ag F Aa).q fun a w F W => ?_
 refine ls F W Aa (Ae F Aa).q fun a w F W => ?_
 refine Ad (Ac (Av ?_))
 have H := AP H
 subst H
 refine AJ (.inl Aa) F W Aa (AB F Aa) ?_
 exact ⟨(v1), Aa, W⟩
theorem X7 : Has Tryz.prog 57 := ⟨fun args w => Aj Tryz.func57 rfl (by decide) args w⟩
def FZ (p0 : Tr36) (p1 : Int) : Option (List Int) := (I2 p0 p1).bind fun x1 => (C6 x1).bind fun x2 => (CH x2).bind fun x3 => some x3
theorem MJ (Y : Nat → Prop) (w0 : World) (v1 : Value) (p0 : Tr36) (p1 : Int) (r : List Int) (H : FZ p0 p1 = some r) (h_v1 : Sl w0 (NX []) BF v1 p0.un.2.2.2) :
    Calls Tryz.prog 28 #[.agg #[.int .i64 p0.un.1, .int .i64 p0.un.2.1, .int .i64 p0.un.2.2.1, v1], .int .i64 p1] w0 fun e w' => ∃ x : Value, e = .returned (x) ∧ Stw ⟨Y, [], w0⟩ [] [row (x) 3 (Rp.int .i64) r] w' := by
 refine enter Tryz.func28 Aa Tryz.ntmps28 Aa fun a F => ?_
 have W := Stw.start Y w0
 obtain ⟨v2, h1, h_v1⟩ := h_v1.ex BV
 unfold FZ at H
 refine Ah (Ab ?_)
 refine CS (cs := [.int .i64 p0.un.1, .int .i64 p0.un.2.1, .int .i64 p0.un.2.2.1, v1]) F W Aa Aa Aa fun b1 a w F W => ?_
 refine ls F W Aa (Ae F Aa).q fun a w F W => ?_
 refine Ad (Ac (Ah (Ab ?_)))
 refine ls F W Aa (Ao (v := Value.agg #[.int .i64 p0.un.1, .int .i64 p0.un.2.1, .int .i64 p0.un.2.2.1, v1]) 0 F Aa Aa ER Aa).q fun a w F W => ?_
 refine ls F W Aa (Ag F Aa).q fun a w F W => ?_
 obtain ⟨x1, h2, H⟩ := Am H
 refine Bj (Ml := []) (Zl := []) (M := [(b1, [.int .i64 p0.un.1, .int .i64 p0.un.2.1, .int .i64 p0.un.2.2.1, v1])]) (Z := []) (β := Value) (rv := fun x => x) (MM := fun x => []) (ZZ := fun x => [row x 3 (Rp.int .i64) x1]) F W X6 Aa Aa (fun hL => OQ _ w (v1) p0 p1 _ h2 ((AH BV h1 (Aq h_v1)) w W).nx) fun x a w F W => ?_
 obtain ⟨v3, rfl⟩ : ∃ y, y = x := ⟨x, rfl⟩
 have W : Stw ⟨Y, [], w0⟩ [(b1, [.int .i64 p0.un.1, .int .i64 p0.un.2.1, .int .i64 p0.un.2.2.1, v1])] [row v3 3 (Rp.int .i64) x1] w := W
 refine ls F W Aa (Ae F Aa).q fun a w F W => ?_
 refine Ad (Ac (Ah (Ab ?_)))
 refine ls F W Aa (Ag F Aa).q fun a w F W => ?_
 obtain ⟨x2, h3, H⟩ := Am H
 refine Bj (Ml := []) (Zl := [row v3 3 (Rp.int .i64) x1]) (M := [(b1, [.int .i64 p0.un.1, .int .i64 p0.un.2.1, .int .i64 p0.un.2.2.1, v1])]) (Z := []) (β := Unit) (rv := fun x => .tuple #[]) (MM := fun x => []) (ZZ := fun x => [row v3 3 (Rp.int .i64) x2]) F W XI Aa Aa (fun hL => Iz _ _ w (v3) x1 _ h3 hL) fun x a w F W => ?_
 have W : Stw ⟨Y, [], w0⟩ [(b1, [.int .i64 p0.un.1, .int .i64 p0.un.2.1, .int .i64 p0.un.2.2.1, v1])] [row v3 3 (Rp.int .i64) x2] w := W
 refine Ad (Ac (Ah (Ab ?_)))
 refine ls F W Aa (Ag F Aa).q fun a w F W => ?_
 obtain ⟨x3, h4, H⟩ := Am H
 refine Bj (Ml := []) (Zl := [row v3 3 (Rp.int .i64) x2]) (M := [(b1, [.int .i64 p0.un.1, .int .i64 p0.un.2.1, .int .i64 p0.un.2.2.1, v1])]) (Z := []) (β := Value) (rv := fun x => x) (MM := fun x => []) (ZZ := fun x => [row x 3 (Rp.int .i64) x3]) F W X7 Aa Aa (fun hL => Hx _ _ w (v3) x2 _ h4 hL) fun x a w F W => ?_
 obtain ⟨v4, rfl⟩ : ∃ y, y = x := ⟨x, rfl⟩
 have W : Stw ⟨Y, [], w0⟩ [(b1, [.int .i64 p0.un.1, .int .i64 p0.un.2.1, .int .i64 p0.un.2.2.1, v1])] [row v4 3 (Rp.int .i64) x3] w := W
 refine ls F W Aa (Ae F Aa).q fun a w F W => ?_
 refine Ad (Ac (Av ?_))
 have H := AP H
 subst H
 refine AJ (.inl Aa) F W Aa (AB F Aa) ?_
 have W := W.sub (M' := []) (Z' := [row v4 3 (Rp.int .i64) x3]) (List.nil_sublist _) (List.Sublist.refl _)
 exact ⟨(v4), Aa, W⟩
theorem X4 : Has Tryz.prog 28 := ⟨fun args w => Aj Tryz.func28 rfl (by decide) args w⟩
theorem XX : Has Tryz.prog 66 := ⟨fun args w => Aj Tryz.func66 rfl (by decide) args w⟩
def DS (fRec : Tr39 → Int → Option (List Int)) (p0 : Tr39) (p1 : Int) : (List Int × Int) → Option ((List Int × Int) ⊕ (List Int))
  | (x5, x6) => (if x6 < (p0.un.2.2.2.2.length : Int) then (ix p0.un.2.2.2.2 x6).bind fun x7 => (fRec (Tr39.of (x7.un.1, Tr36.of (x7.un.2.1.un.1, x7.un.2.1.un.2.1, x7.un.2.1.un.2.2.1, x7.un.2.1.un.2.2.2), x7.un.2.2.1, x7.un.2.2.2.1, x7.un.2.2.2.2)) p1).bind fun x8 => (Ig x5 x8).bind fun x9 => some (.inl (x9, AG (x6 + 1))) else some (.inr x5))
def EB (fRec : Tr39 → Int → Option (List Int)) (p0 : Tr39) (p1 : Int) : Option (List Int) := (FZ (Tr36.of (p0.un.2.1.un.1, p0.un.2.1.un.2.1, p0.un.2.1.un.2.2.1, p0.un.2.1.un.2.2.2)) p1).bind fun x1 => (if (decide (p0.un.1 = 2) && decide (p0.un.2.2.1 = p1)) = true then (Ig x1 ([p0.un.2.2.2.1] : List Int)).bind fun x3 => some x3 else some x1).bind fun x2 => (A6 (DS fRec p0 p1) (x2, 0)).bind fun x4 => some x4
def EV : Nat → Tr39 → Int → Option (List Int)
  | 0 => fun _ _ => none
  | n + 1 => EB (EV n)
def LY (p0 : Tr39) (p1 : Int) : Option (List Int) := Jl fun n => EV n p0 p1
theorem O1 (fRec : Tr39 → Int → Option (List Int)) (ih : ∀ (Y : Nat → Prop) (w0 : World) (v1 : Value) (v2 : Value) (p0 : Tr39) (p1 : Int) (r : List Int) (H : fRec p0 p1 = some r) (h_v1 : Sl w0 (NX []) BF v1 p0.un.2.1.un.2.2.2) (h_v2 : Sl w0 (NX []) Gy v2 p0.un.2.2.2.2), Calls Tryz.prog 66 #[.agg #[.int .i64 p0.un.1, .int .i64 p0.un.2.1.un.1, .int .i64 p0.un.2.1.un.2.1, .int .i64 p0.un.2.1.un.2.2.1, v1, .int .i64 p0.un.2.2.1, .int .i64 p0.un.2.2.2.1, v2], .int .i64 p1] w0 fun e w' => ∃ x : Value, e = .returned (x) ∧ Stw ⟨Y, [], w0⟩ [] [row (x) 3 (Rp.int .i64) r] w') (Y : Nat → Prop) (w0 : World) (v1 : Value) (v2 : Value) (p0 : Tr39) (p1 : Int) (r : List Int) (H : EB fRec p0 p1 = some r) (h_v1 : Sl w0 (NX []) BF v1 p0.un.2.1.un.2.2.2) (h_v2 : Sl w0 (NX []) Gy v2 p0.un.2.2.2.2) :
    Calls Tryz.prog 66 #[.agg #[.int .i64 p0.un.1, .int .i64 p0.un.2.1.un.1, .int .i64 p0.un.2.1.un.2.1, .int .i64 p0.un.2.1.un.2.2.1, v1, .int .i64 p0.un.2.2.1, .int .i64 p0.un.2.2.2.1, v2], .int .i64 p1] w0 fun e w' => ∃ x : Value, e = .returned (x) ∧ Stw ⟨Y, [], w0⟩ [] [row (x) 3 (Rp.int .i64) r] w' := by
 refine enter Tryz.func66 Aa Tryz.ntmps66 Aa fun a F => ?_
 have W := Stw.start Y w0
 obtain ⟨v3, h1, h_v1⟩ := h_v1.ex BV
 obtain ⟨v4, h2, h_v2⟩ := h_v2.ex FD
 unfold EB at H
 refine Ah (Ab ?_)
 refine CS (cs := [.int .i64 p0.un.1, .int .i64 p0.un.2.1.un.1, .int .i64 p0.un.2.1.un.2.1, .int .i64 p0.un.2.1.un.2.2.1, v1, .int .i64 p0.un.2.2.1, .int .i64 p0.un.2.2.2.1, v2]) F W Aa Aa Aa fun b1 a w F W => ?_
 refine ls F W Aa (Ae F Aa).q fun a w F W => ?_
 refine Ad (Ac (Ah (Ab ?_)))
 refine ls F W Aa (Ai Ed Aa Aa Aa ER F Aa 1 Aa).q fun a w F W => ?_
 refine ls F W Aa (Ao (v := Value.agg #[.int .i64 p0.un.2.1.un.1, .int .i64 p0.un.2.1.un.2.1, .int .i64 p0.un.2.1.un.2.2.1, v1]) 0 F Aa Aa ER Aa).q fun a w F W => ?_
 refine ls F W Aa (Ag F Aa).q fun a w F W => ?_
 obtain ⟨x1, h3, H⟩ := Am H
 refine Bj (Ml := []) (Zl := []) (M := [(b1, [.int .i64 p0.un.1, .int .i64 p0.un.2.1.un.1, .int .i64 p0.un.2.1.un.2.1, .int .i64 p0.un.2.1.un.2.2.1, v1, .int .i64 p0.un.2.2.1, .int .i64 p0.un.2.2.2.1, v2])]) (Z := []) (β := Value) (rv := fun x => x) (MM := fun x => []) (ZZ := fun x => [row x 3 (Rp.int .i64) x1]) F W X4 Aa Aa (fun hL => MJ _ w (v1) (Tr36.of (p0.un.2.1.un.1, p0.un.2.1.un.2.1, p0.un.2.1.un.2.2.1, p0.un.2.1.un.2.2.2)) p1 _ h3 ((AH BV h1 (Aq h_v1)) w W).nx) fun x a w F W => ?_
 obtain ⟨v5, rfl⟩ : ∃ y, y = x := ⟨x, rfl⟩
 have W : Stw ⟨Y, [], w0⟩ [(b1, [.int .i64 p0.un.1, .int .i64 p0.un.2.1.un.1, .int .i64 p0.un.2.1.un.2.1, .int .i64 p0.un.2.1.un.2.2.1, v1, .int .i64 p0.un.2.2.1, .int .i64 p0.un.2.2.2.1, v2])] [row v5 3 (Rp.int .i64) x1] w := W
 refine ls F W Aa (Ae F Aa).q fun a w F W => ?_
 refine Ad (Ac ?_)
 obtain ⟨o1, G1, K1⟩ := Am H
 refine AO (fun a w => ∃ x2 : List Int, ∃ v6 : Value, some (x2) = some o1 ∧ Fr 40 [] [(1, .int .i64 p1), (2, .pointer (some ⟨b1, 0, none⟩)), (4, .slice none 0 0), (5, v6)] a ∧ Stw ⟨Y, [], w0⟩ [(b1, [.int .i64 p0.un.1, .int .i64 p0.un.2.1.un.1, .int .i64 p0.un.2.1.un.2.1, .int .i64 p0.un.2.1.un.2.2.1, v1, .int .i64 p0.un.2.2.1, .int .i64 p0.un.2.2.2.1, v2])] [row v6 3 (Rp.int .i64) x2] w) ?_ ?_
 ·
  have H := G1
  refine AO (fun a w => Fr 40 [] [(1, .int .i64 p1), (2, .pointer (some ⟨b1, 0, none⟩)), (4, .slice none 0 0), (5, v5), (20, .bool (decide (p0.un.1 = 2) && decide (p0.un.2.2.1 = p1)))] a ∧ Stw ⟨Y, [], w0⟩ [(b1, [.int .i64 p0.un.1, .int .i64 p0.un.2.1.un.1, .int .i64 p0.un.2.1.un.2.1, .int .i64 p0.un.2.1.un.2.2.1, v1, .int .i64 p0.un.2.2.1, .int .i64 p0.un.2.2.2.1, v2])] [row v5 3 (Rp.int .i64) x1] w) ?_ ?_
  ·
   refine Ab ?_
   refine ls F W Aa (Ai Ed Aa Aa Aa T3 F Aa 0 Aa).q fun a w F W => ?_
   refine ls F W Aa (Ao (v := Value.int .i64 p0.un.1) 0 F Aa Aa T3 Aa).q fun a w F W => ?_
   refine ls F W Aa (A7 F Aa Aa).q fun a w F W => ?_
   refine ls F W Aa (Ag F Aa).q fun a w F W => ?_
   rcases bxq (decide (p0.un.1 = 2)) with hb0 | hb0
   ·
    rw [hb0] at F
    refine AK F W (Af F Aa Aa Aa Aa) Aa (Ak Aa) (Ai Ed Aa Aa Aa T3 F Aa 5 Aa).q fun a w F W => ?_
    refine AK F W (Af F Aa Aa Aa Aa) Aa (Ak Aa) (Ao (v := Value.int .i64 p0.un.2.2.1) 0 F Aa Aa T3 Aa).q fun a w F W => ?_
    refine AK F W (Af F Aa Aa Aa Aa) Aa (Ak Aa) (Ag F Aa).q fun a w F W => ?_
    refine AK F W (Af F Aa Aa Aa Aa) Aa (Ak Aa) (A7 F Aa Aa).q fun a w F W => ?_
    refine ls F W Aa (Ax F Aa Aa Aa).q fun a w F W => ?_
    refine Ad (Ac ?_)
    exact ⟨F.re ⟨rfl, Aa, Aa, Aa, (by show some (Value.bool (decide (p0.un.2.2.1 = p1))) = some (Value.bool (decide (p0.un.1 = 2) && decide (p0.un.2.2.1 = p1))); try rw [hb0]; all_goals simp only [Bool.not_true, Bool.not_false, Bool.true_and, Bool.false_and, Bool.true_or, Bool.false_or, Bool.and_true, Bool.or_false, cond_true, cond_false]), trivial⟩, W⟩
   rw [hb0] at F
   iterate 4 refine Dz F Aa Aa Aa Aa Aa Aa Aa fun a F => ?_
   refine ls F W Aa (As F Aa Aa Aa).q fun a w F W => ?_
   refine Ad (Ac ?_)
   exact ⟨F.re ⟨rfl, Aa, Aa, Aa, (by show some (Value.bool false) = some (Value.bool (decide (p0.un.1 = 2) && decide (p0.un.2.2.1 = p1))); try rw [hb0]; all_goals simp only [Bool.not_true, Bool.not_false, Bool.true_and, Bool.false_and, Bool.true_or, Bool.false_or, Bool.and_true, Bool.or_false, cond_true, cond_false]), trivial⟩, W⟩
  rintro a w ⟨F, W⟩
  refine Aw F Aa (fun hb => ?_) fun hb => ?_
  ·
   have H := AV hb H
   rw [hb] at F
   refine Ab ?_
   refine ls F W Aa (Ag F Aa).q fun a w F W => ?_
   refine ls F W Aa (Ai Ed Aa Aa Aa T3 F Aa 6 Aa).q fun a w F W => ?_
   refine ls F W Aa (Ao (v := Value.int .i64 p0.un.2.2.2.1) 0 F Aa Aa T3 Aa).q fun a w F W => ?_
   refine Ke (z := Value.int .i64 0) (cs := [.int .i64 p0.un.2.2.2.1]) (Rp.int .i64) ([p0.un.2.2.2.1] : List Int) F W Aa EF Z3 Aa Aa Aa Aa Aa Aa (Fl.int.repL _ _ ([p0.un.2.2.2.1] : List Int)) fun v7 a w F W => ?_
   obtain ⟨x3, h4, H⟩ := Am H
   refine Fm (r := (Rp.int .i64)) (i := 1) F W Aa EF Aa Aa Aa Aa (GC W 0 Aa) h4 Aa fun v8 a w F W => ?_
   have W : Stw ⟨Y, [], w0⟩ [(b1, [.int .i64 p0.un.1, .int .i64 p0.un.2.1.un.1, .int .i64 p0.un.2.1.un.2.1, .int .i64 p0.un.2.1.un.2.2.1, v1, .int .i64 p0.un.2.2.1, .int .i64 p0.un.2.2.2.1, v2])] [row v8 3 (Rp.int .i64) x3, row v7 3 (Rp.int .i64) ([p0.un.2.2.2.1] : List Int)] w := W
   refine ls F W Aa (Ae F Aa).q fun a w F W => ?_
   refine Ad (Ac ?_)
   have W := W.sub (M' := [(b1, [.int .i64 p0.un.1, .int .i64 p0.un.2.1.un.1, .int .i64 p0.un.2.1.un.2.1, .int .i64 p0.un.2.1.un.2.2.1, v1, .int .i64 p0.un.2.2.1, .int .i64 p0.un.2.2.2.1, v2])]) (Z' := [row v8 3 (Rp.int .i64) x3]) (List.Sublist.refl _) (List.Sublist.cons_cons _ (List.nil_sublist _))
   exact ⟨_, (v8), H, F.re ⟨rfl, Aa, Aa, Aa, trivial⟩, W⟩
  have H := AR (by rw [hb]; decide) H
  rw [hb] at F
  refine Ay (Ac ?_)
  exact ⟨_, (v5), H, F.re ⟨rfl, Aa, Aa, Aa, trivial⟩, W⟩
 rintro a w ⟨x2, v6, hj, F, W⟩
 have hj := AP hj
 subst hj
 have H := K1
 obtain ⟨o2, G2, K2⟩ := Am H
 refine AO (fun a w => ∃ x4 : List Int, ∃ v9 : Value, some (x4) = some o2 ∧ Fr 40 [] [(4, .slice none 0 0), (5, v9)] a ∧ Stw ⟨Y, [], w0⟩ [(b1, [.int .i64 p0.un.1, .int .i64 p0.un.2.1.un.1, .int .i64 p0.un.2.1.un.2.1, .int .i64 p0.un.2.1.un.2.2.1, v1, .int .i64 p0.un.2.2.1, .int .i64 p0.un.2.2.2.1, v2])] [row v9 3 (Rp.int .i64) x4] w) ?_ ?_
 ·
  have H := G2
  refine Ah (Ab ?_)
  refine ls F W Aa (Ai Ed Aa Aa Aa Lx F Aa 7 Aa).q fun a w F W => ?_
  refine ls F W Aa (Ao (v := v2) 0 F Aa Aa Lx Aa).q fun a w F W => ?_
  refine ls F W Aa (CA (r := Gy) (l := p0.un.2.2.2.2) Ng Aa F Aa (AH FD h2 (Aq h_v2))).q fun a w F W => ?_
  refine ls F W Aa (Ag F Aa).q fun a w F W => ?_
  refine Ad (Ac (Az ?_))
  refine BG H (fun s a w => ∃ v10 : Value, Fr 40 [] [(1, .int .i64 p1), (4, .slice none 0 0), (5, v10), (27, v2), (28, .int .i64 (p0.un.2.2.2.2.length : Int)), (29, .int .i64 s.2)] a ∧ Stw ⟨Y, [], w0⟩ [(b1, [.int .i64 p0.un.1, .int .i64 p0.un.2.1.un.1, .int .i64 p0.un.2.1.un.2.1, .int .i64 p0.un.2.1.un.2.2.1, v1, .int .i64 p0.un.2.2.1, .int .i64 p0.un.2.2.2.1, v2])] [row v10 3 (Rp.int .i64) s.1] w) ⟨(v6), F.re ⟨rfl, Aa, Aa, Aa, Aa, Aa, trivial⟩, W⟩ fun s o a w H L3 hR => ?_
  obtain ⟨x5, x6⟩ := s
  obtain ⟨v10, F, W⟩ := hR
  have F : Fr 40 [] [(1, .int .i64 p1), (4, .slice none 0 0), (5, v10), (27, v2), (28, .int .i64 (p0.un.2.2.2.2.length : Int)), (29, .int .i64 x6)] a := F
  have W : Stw ⟨Y, [], w0⟩ [(b1, [.int .i64 p0.un.1, .int .i64 p0.un.2.1.un.1, .int .i64 p0.un.2.1.un.2.1, .int .i64 p0.un.2.1.un.2.2.1, v1, .int .i64 p0.un.2.2.1, .int .i64 p0.un.2.2.2.1, v2])] [row v10 3 (Rp.int .i64) x5] w := W
  rw [DS] at H
  refine Ah (Ab ?_)
  refine ls F W Aa (Cu F Aa Aa).q fun a w F W => ?_
  refine Ad (Ac (Ah ?_))
  refine Aw F Aa (fun hb => ?_) fun hb => ?_
  ·
   have H := AV (Bg hb) H
   rw [hb] at F
   refine Ay (Ac (Ah (Az (Ah (Ab ?_)))))
   obtain ⟨x7, h5, H⟩ := Am H
   obtain ⟨v11, h6, h7⟩ := Ez h2 h5
   have h8 : Ls v11 = [.int .i64 x7.un.1, .int .i64 x7.un.2.1.un.1, .int .i64 x7.un.2.1.un.2.1, .int .i64 x7.un.2.1.un.2.2.1, (v11.2.1.2.2.2.1), .int .i64 x7.un.2.2.1, .int .i64 x7.un.2.2.2.1, (v11.2.2.2.2.1)] := congrArg (fun q : Tr39 => ([.int .i64 q.un.1, .int .i64 q.un.2.1.un.1, .int .i64 q.un.2.1.un.2.1, .int .i64 q.un.2.1.un.2.2.1, (v11.2.1.2.2.2.1), .int .i64 q.un.2.2.1, .int .i64 q.un.2.2.2.1, (v11.2.2.2.2.1)] : List Value)) h7
   refine ls F W Aa (AM (r := Of) Uj F Aa Aa (Aq h_v2) h6).q fun a w F W => ?_
   refine ls F W Aa (AA (y := Value.agg #[.int .i64 x7.un.1, .int .i64 x7.un.2.1.un.1, .int .i64 x7.un.2.1.un.2.1, .int .i64 x7.un.2.1.un.2.2.1, (v11.2.1.2.2.2.1), .int .i64 x7.un.2.2.1, .int .i64 x7.un.2.2.2.1, (v11.2.2.2.2.1)]) (j := 0) (i := x6) (enc := Ls) F Aa Aa (Aq h_v2) h6 Rb Ka (by rw [h8]; rfl)).q fun a w F W => ?_
   refine Co (cs := [.int .i64 0, .int .i64 0, .int .i64 0, .int .i64 0, .slice none 0 0, .int .i64 0, .int .i64 0, .slice none 0 0]) F W Aa UK Aa fun b2 a w F W => ?_
   refine Be (vs := [.int .i64 x7.un.1, .int .i64 x7.un.2.1.un.1, .int .i64 x7.un.2.1.un.2.1, .int .i64 x7.un.2.1.un.2.2.1, (v11.2.1.2.2.2.1), .int .i64 x7.un.2.2.1, .int .i64 x7.un.2.2.2.1, (v11.2.2.2.2.1)]) (M' := [(b2, [.int .i64 x7.un.1, .int .i64 x7.un.2.1.un.1, .int .i64 x7.un.2.1.un.2.1, .int .i64 x7.un.2.1.un.2.2.1, (v11.2.1.2.2.2.1), .int .i64 x7.un.2.2.1, .int .i64 x7.un.2.2.2.1, (v11.2.2.2.2.1)]), (b1, [.int .i64 p0.un.1, .int .i64 p0.un.2.1.un.1, .int .i64 p0.un.2.1.un.2.1, .int .i64 p0.un.2.1.un.2.2.1, v1, .int .i64 p0.un.2.2.1, .int .i64 p0.un.2.2.2.1, v2])]) 0 F W Aa Aa Aa Ka Aa Aa Aa (An Aa (An Aa (An Aa (An Aa (An ((Cn (Aq h_v2) h6 (AC.snd (AC.fst (AC.snd (AC.snd (AC.snd AC.here))))) (congrArg (fun q : Tr39 => q.un.2.1.un.2.2.2) h7)) _ W).one (An Aa (An Aa (An ((Cn (Aq h_v2) h6 (AC.snd (AC.snd (AC.snd (AC.snd AC.here)))) (congrArg (fun q : Tr39 => q.un.2.2.2.2) h7)) _ W).one Cq)))))))) Aa fun w W => ?_
   refine Ad (Ac (Ab ?_))
   refine ls F W Aa (Ag F Aa).q fun a w F W => ?_
   refine ls F W Aa (Ao (v := Value.agg #[.int .i64 x7.un.1, .int .i64 x7.un.2.1.un.1, .int .i64 x7.un.2.1.un.2.1, .int .i64 x7.un.2.1.un.2.2.1, (v11.2.1.2.2.2.1), .int .i64 x7.un.2.2.1, .int .i64 x7.un.2.2.2.1, (v11.2.2.2.2.1)]) 0 F Aa Aa Ka Aa).q fun a w F W => ?_
   refine ls F W Aa (Ag F Aa).q fun a w F W => ?_
   obtain ⟨x8, h9, H⟩ := Am H
   refine Bj (Ml := []) (Zl := []) (M := [(b2, [.int .i64 x7.un.1, .int .i64 x7.un.2.1.un.1, .int .i64 x7.un.2.1.un.2.1, .int .i64 x7.un.2.1.un.2.2.1, (v11.2.1.2.2.2.1), .int .i64 x7.un.2.2.1, .int .i64 x7.un.2.2.2.1, (v11.2.2.2.2.1)]), (b1, [.int .i64 p0.un.1, .int .i64 p0.un.2.1.un.1, .int .i64 p0.un.2.1.un.2.1, .int .i64 p0.un.2.1.un.2.2.1, v1, .int .i64 p0.un.2.2.1, .int .i64 p0.un.2.2.2.1, v2])]) (Z := [row v10 3 (Rp.int .i64) x5]) (β := Value) (rv := fun x => x) (MM := fun x => []) (ZZ := fun x => [row x 3 (Rp.int .i64) x8]) F W XX Aa Aa (fun hL => ih _ w ((v11.2.1.2.2.2.1)) ((v11.2.2.2.2.1)) (Tr39.of (x7.un.1, Tr36.of (x7.un.2.1.un.1, x7.un.2.1.un.2.1, x7.un.2.1.un.2.2.1, x7.un.2.1.un.2.2.2), x7.un.2.2.1, x7.un.2.2.2.1, x7.un.2.2.2.2)) p1 _ h9 ((Cn (Aq h_v2) h6 (AC.snd (AC.fst (AC.snd (AC.snd (AC.snd AC.here))))) (congrArg (fun q : Tr39 => q.un.2.1.un.2.2.2) h7)) w W).nx ((Cn (Aq h_v2) h6 (AC.snd (AC.snd (AC.snd (AC.snd AC.here)))) (congrArg (fun q : Tr39 => q.un.2.2.2.2) h7)) w W).nx) fun x a w F W => ?_
   obtain ⟨v12, rfl⟩ : ∃ y, y = x := ⟨x, rfl⟩
   have W : Stw ⟨Y, [], w0⟩ [(b2, [.int .i64 x7.un.1, .int .i64 x7.un.2.1.un.1, .int .i64 x7.un.2.1.un.2.1, .int .i64 x7.un.2.1.un.2.2.1, (v11.2.1.2.2.2.1), .int .i64 x7.un.2.2.1, .int .i64 x7.un.2.2.2.1, (v11.2.2.2.2.1)]), (b1, [.int .i64 p0.un.1, .int .i64 p0.un.2.1.un.1, .int .i64 p0.un.2.1.un.2.1, .int .i64 p0.un.2.1.un.2.2.1, v1, .int .i64 p0.un.2.2.1, .int .i64 p0.un.2.2.2.1, v2])] [row v12 3 (Rp.int .i64) x8, row v10 3 (Rp.int .i64) x5] w := W
   obtain ⟨x9, h10, H⟩ := Am H
   refine Fm (r := (Rp.int .i64)) (i := 1) F W Aa EF Aa Aa Aa Aa (GC W 0 Aa) h10 Aa fun v13 a w F W => ?_
   have W : Stw ⟨Y, [], w0⟩ [(b2, [.int .i64 x7.un.1, .int .i64 x7.un.2.1.un.1, .int .i64 x7.un.2.1.un.2.1, .int .i64 x7.un.2.1.un.2.2.1, (v11.2.1.2.2.2.1), .int .i64 x7.un.2.2.1, .int .i64 x7.un.2.2.2.1, (v11.2.2.2.2.1)]), (b1, [.int .i64 p0.un.1, .int .i64 p0.un.2.1.un.1, .int .i64 p0.un.2.1.un.2.1, .int .i64 p0.un.2.1.un.2.2.1, v1, .int .i64 p0.un.2.2.1, .int .i64 p0.un.2.2.2.1, v2])] [row v13 3 (Rp.int .i64) x9, row v12 3 (Rp.int .i64) x8] w := W
   refine ls F W Aa (Ae F Aa).q fun a w F W => ?_
   refine Ad (AU (Ac (Ab ?_)))
   refine ls F W Aa (BL F Aa Aa Aa).q fun a w F W => ?_
   refine ls F W Aa (Ag F Aa).q fun a w F W => ?_
   refine Ad (Ac ?_)
   have W := W.frontM (i := 1) Aa Aa
   have W := W.sub (M' := [(b1, [.int .i64 p0.un.1, .int .i64 p0.un.2.1.un.1, .int .i64 p0.un.2.1.un.2.1, .int .i64 p0.un.2.1.un.2.2.1, v1, .int .i64 p0.un.2.2.1, .int .i64 p0.un.2.2.2.1, v2])]) (Z' := [row v13 3 (Rp.int .i64) x9]) (List.Sublist.cons_cons _ (List.nil_sublist _)) (List.Sublist.cons_cons _ (List.nil_sublist _))
   exact ⟨_, H, (v13), F.re ⟨rfl, Aa, Aa, Aa, Aa, Aa, trivial⟩, W⟩
  have H := AR (Bf hb) H
  rw [hb] at F
  refine Bz ?_
  iterate 2 refine BS ?_
  refine Bx (Ac ?_)
  have H := L3 _ H
  exact ⟨_, (v10), H, F.re ⟨rfl, Aa, trivial⟩, W⟩
 rintro a w ⟨x4, v9, hj, F, W⟩
 have hj := AP hj
 subst hj
 have H := K2
 refine Ah (Ab ?_)
 refine ls F W Aa (Ag F Aa).q fun a w F W => ?_
 refine ls F W Aa (Ae F Aa).q fun a w F W => ?_
 refine Ad (Ac (Av ?_))
 have H := AP H
 subst H
 refine AJ (.inl Aa) F W Aa (AB F Aa) ?_
 have W := W.sub (M' := []) (Z' := [row v9 3 (Rp.int .i64) x4]) (List.nil_sublist _) (List.Sublist.refl _)
 exact ⟨(v9), Aa, W⟩
theorem Pw : ∀ (n : Nat) (Y : Nat → Prop) (w0 : World) (v1 : Value) (v2 : Value) (p0 : Tr39) (p1 : Int) (r : List Int) (H : EV n p0 p1 = some r) (h_v1 : Sl w0 (NX []) BF v1 p0.un.2.1.un.2.2.2) (h_v2 : Sl w0 (NX []) Gy v2 p0.un.2.2.2.2), Calls Tryz.prog 66 #[.agg #[.int .i64 p0.un.1, .int .i64 p0.un.2.1.un.1, .int .i64 p0.un.2.1.un.2.1, .int .i64 p0.un.2.1.un.2.2.1, v1, .int .i64 p0.un.2.2.1, .int .i64 p0.un.2.2.2.1, v2], .int .i64 p1] w0 fun e w' => ∃ x : Value, e = .returned (x) ∧ Stw ⟨Y, [], w0⟩ [] [row (x) 3 (Rp.int .i64) r] w' := by
  intro n
  induction n with
  | zero => intro Y w0 v1 v2 p0 p1 r H; exact nomatch H
  | succ n ih => intro Y w0 v1 v2 p0 p1 r H h_v1 h_v2; exact O1 (EV n) ih Y w0 v1 v2 p0 p1 r H h_v1 h_v2
theorem QS (Y : Nat → Prop) (w0 : World) (v1 : Value) (v2 : Value) (p0 : Tr39) (p1 : Int) (r : List Int) (H : LY p0 p1 = some r) (h_v1 : Sl w0 (NX []) BF v1 p0.un.2.1.un.2.2.2) (h_v2 : Sl w0 (NX []) Gy v2 p0.un.2.2.2.2) :
    Calls Tryz.prog 66 #[.agg #[.int .i64 p0.un.1, .int .i64 p0.un.2.1.un.1, .int .i64 p0.un.2.1.un.2.1, .int .i64 p0.un.2.1.un.2.2.1, v1, .int .i64 p0.un.2.2.1, .int .i64 p0.un.2.2.2.1, v2], .int .i64 p1] w0 fun e w' => ∃ x : Value, e = .returned (x) ∧ Stw ⟨Y, [], w0⟩ [] [row (x) 3 (Rp.int .i64) r] w' := by
  obtain ⟨n, H⟩ := Dd H
  exact Pw n Y w0 v1 v2 p0 p1 r H h_v1 h_v2
def Fw (p0 : Tr39) (p1 : Int) : Option (List Int) := (LY (Tr39.of (p0.un.1, Tr36.of (p0.un.2.1.un.1, p0.un.2.1.un.2.1, p0.un.2.1.un.2.2.1, p0.un.2.1.un.2.2.2), p0.un.2.2.1, p0.un.2.2.2.1, p0.un.2.2.2.2)) p1).bind fun x1 => (C6 x1).bind fun x2 => (CH x2).bind fun x3 => some x3
theorem JD (Y : Nat → Prop) (w0 : World) (v1 : Value) (v2 : Value) (p0 : Tr39) (p1 : Int) (r : List Int) (H : Fw p0 p1 = some r) (h_v1 : Sl w0 (NX []) BF v1 p0.un.2.1.un.2.2.2) (h_v2 : Sl w0 (NX []) Gy v2 p0.un.2.2.2.2) :
    Calls Tryz.prog 32 #[.agg #[.int .i64 p0.un.1, .int .i64 p0.un.2.1.un.1, .int .i64 p0.un.2.1.un.2.1, .int .i64 p0.un.2.1.un.2.2.1, v1, .int .i64 p0.un.2.2.1, .int .i64 p0.un.2.2.2.1, v2], .int .i64 p1] w0 fun e w' => ∃ x : Value, e = .returned (x) ∧ Stw ⟨Y, [], w0⟩ [] [row (x) 3 (Rp.int .i64) r] w' := by
 refine enter Tryz.func32 Aa Tryz.ntmps32 Aa fun a F => ?_
 have W := Stw.start Y w0
 obtain ⟨v3, h1, h_v1⟩ := h_v1.ex BV
 obtain ⟨v4, h2, h_v2⟩ := h_v2.ex FD
 unfold Fw at H
 refine Ah (Ab ?_)
 refine CS (cs := [.int .i64 p0.un.1, .int .i64 p0.un.2.1.un.1, .int .i64 p0.un.2.1.un.2.1, .int .i64 p0.un.2.1.un.2.2.1, v1, .int .i64 p0.un.2.2.1, .int .i64 p0.un.2.2.2.1, v2]) F W Aa Aa Aa fun b1 a w F W => ?_
 refine ls F W Aa (Ae F Aa).q fun a w F W => ?_
 refine Ad (Ac (Ah (Ab ?_)))
 refine ls F W Aa (Ao (v := Value.agg #[.int .i64 p0.un.1, .int .i64 p0.un.2.1.un.1, .int .i64 p0.un.2.1.un.2.1, .int .i64 p0.un.2.1.un.2.2.1, v1, .int .i64 p0.un.2.2.1, .int .i64 p0.un.2.2.2.1, v2]) 0 F Aa Aa Ka Aa).q fun a w F W => ?_
 refine ls F W Aa (Ag F Aa).q fun a w F W => ?_
 obtain ⟨x1, h3, H⟩ := Am H
 refine Bj (Ml := []) (Zl := []) (M := [(b1, [.int .i64 p0.un.1, .int .i64 p0.un.2.1.un.1, .int .i64 p0.un.2.1.un.2.1, .int .i64 p0.un.2.1.un.2.2.1, v1, .int .i64 p0.un.2.2.1, .int .i64 p0.un.2.2.2.1, v2])]) (Z := []) (β := Value) (rv := fun x => x) (MM := fun x => []) (ZZ := fun x => [row x 3 (Rp.int .i64) x1]) F W XX Aa Aa (fun hL => QS _ w (v1) (v2) (Tr39.of (p0.un.1, Tr36.of (p0.un.2.1.un.1, p0.un.2.1.un.2.1, p0.un.2.1.un.2.2.1, p0.un.2.1.un.2.2.2), p0.un.2.2.1, p0.un.2.2.2.1, p0.un.2.2.2.2)) p1 _ h3 ((AH BV h1 (Aq h_v1)) w W).nx ((AH FD h2 (Aq h_v2)) w W).nx) fun x a w F W => ?_
 obtain ⟨v5, rfl⟩ : ∃ y, y = x := ⟨x, rfl⟩
 have W : Stw ⟨Y, [], w0⟩ [(b1, [.int .i64 p0.un.1, .int .i64 p0.un.2.1.un.1, .int .i64 p0.un.2.1.un.2.1, .int .i64 p0.un.2.1.un.2.2.1, v1, .int .i64 p0.un.2.2.1, .int .i64 p0.un.2.2.2.1, v2])] [row v5 3 (Rp.int .i64) x1] w := W
 refine ls F W Aa (Ae F Aa).q fun a w F W => ?_
 refine Ad (Ac (Ah (Ab ?_)))
 refine ls F W Aa (Ag F Aa).q fun a w F W => ?_
 obtain ⟨x2, h4, H⟩ := Am H
 refine Bj (Ml := []) (Zl := [row v5 3 (Rp.int .i64) x1]) (M := [(b1, [.int .i64 p0.un.1, .int .i64 p0.un.2.1.un.1, .int .i64 p0.un.2.1.un.2.1, .int .i64 p0.un.2.1.un.2.2.1, v1, .int .i64 p0.un.2.2.1, .int .i64 p0.un.2.2.2.1, v2])]) (Z := []) (β := Unit) (rv := fun x => .tuple #[]) (MM := fun x => []) (ZZ := fun x => [row v5 3 (Rp.int .i64) x2]) F W XI Aa Aa (fun hL => Iz _ _ w (v5) x1 _ h4 hL) fun x a w F W => ?_
 have W : Stw ⟨Y, [], w0⟩ [(b1, [.int .i64 p0.un.1, .int .i64 p0.un.2.1.un.1, .int .i64 p0.un.2.1.un.2.1, .int .i64 p0.un.2.1.un.2.2.1, v1, .int .i64 p0.un.2.2.1, .int .i64 p0.un.2.2.2.1, v2])] [row v5 3 (Rp.int .i64) x2] w := W
 refine Ad (Ac (Ah (Ab ?_)))
 refine ls F W Aa (Ag F Aa).q fun a w F W => ?_
 obtain ⟨x3, h5, H⟩ := Am H
 refine Bj (Ml := []) (Zl := [row v5 3 (Rp.int .i64) x2]) (M := [(b1, [.int .i64 p0.un.1, .int .i64 p0.un.2.1.un.1, .int .i64 p0.un.2.1.un.2.1, .int .i64 p0.un.2.1.un.2.2.1, v1, .int .i64 p0.un.2.2.1, .int .i64 p0.un.2.2.2.1, v2])]) (Z := []) (β := Value) (rv := fun x => x) (MM := fun x => []) (ZZ := fun x => [row x 3 (Rp.int .i64) x3]) F W X7 Aa Aa (fun hL => Hx _ _ w (v5) x2 _ h5 hL) fun x a w F W => ?_
 obtain ⟨v6, rfl⟩ : ∃ y, y = x := ⟨x, rfl⟩
 have W : Stw ⟨Y, [], w0⟩ [(b1, [.int .i64 p0.un.1, .int .i64 p0.un.2.1.un.1, .int .i64 p0.un.2.1.un.2.1, .int .i64 p0.un.2.1.un.2.2.1, v1, .int .i64 p0.un.2.2.1, .int .i64 p0.un.2.2.2.1, v2])] [row v6 3 (Rp.int .i64) x3] w := W
 refine ls F W Aa (Ae F Aa).q fun a w F W => ?_
 refine Ad (Ac (Av ?_))
 have H := AP H
 subst H
 refine AJ (.inl Aa) F W Aa (AB F Aa) ?_
 have W := W.sub (M' := []) (Z' := [row v6 3 (Rp.int .i64) x3]) (List.nil_sublist _) (List.Sublist.refl _)
 exact ⟨(v6), Aa, W⟩
theorem XF : Has Tryz.prog 32 := ⟨fun args w => Aj Tryz.func32 rfl (by decide) args w⟩
def H5 (p0 : Tr39) : (Int × Int) → Option ((Int × Int) ⊕ Int)
  | (x2, x3) => (if x3 ≤ 4 then (Fw (Tr39.of (p0.un.1, Tr36.of (p0.un.2.1.un.1, p0.un.2.1.un.2.1, p0.un.2.1.un.2.2.1, p0.un.2.1.un.2.2.2), p0.un.2.2.1, p0.un.2.2.2.1, p0.un.2.2.2.2)) x3).bind fun x4 => some (.inl (min (AG (x2 * (AG ((x4.length : Int) + 1)))) 100000, AG (x3 + 1))) else some (.inr x2))
def HO (p0 : Tr39) : Option Int := (A6 (H5 p0) (1, 0)).bind fun x1 => some x1
theorem MX (Y : Nat → Prop) (w0 : World) (v1 : Value) (v2 : Value) (p0 : Tr39) (r : Int) (H : HO p0 = some r) (h_v1 : Sl w0 (NX []) BF v1 p0.un.2.1.un.2.2.2) (h_v2 : Sl w0 (NX []) Gy v2 p0.un.2.2.2.2) :
    Calls Tryz.prog 14 #[.agg #[.int .i64 p0.un.1, .int .i64 p0.un.2.1.un.1, .int .i64 p0.un.2.1.un.2.1, .int .i64 p0.un.2.1.un.2.2.1, v1, .int .i64 p0.un.2.2.1, .int .i64 p0.un.2.2.2.1, v2]] w0 fun e w' => e = .returned (.int .i64 r) ∧ Below w0.heap.size w0 w' := by
 refine enter Tryz.func14 Aa Tryz.ntmps14 Aa fun a F => ?_
 have W := Stw.start Y w0
 obtain ⟨v3, h1, h_v1⟩ := h_v1.ex BV
 obtain ⟨v4, h2, h_v2⟩ := h_v2.ex FD
 unfold HO at H
 refine Ah (Ab ?_)
 refine CS (cs := [.int .i64 p0.un.1, .int .i64 p0.un.2.1.un.1, .int .i64 p0.un.2.1.un.2.1, .int .i64 p0.un.2.1.un.2.2.1, v1, .int .i64 p0.un.2.2.1, .int .i64 p0.un.2.2.2.1, v2]) F W Aa Aa Aa fun b1 a w F W => ?_
 refine ls F W Aa (Ae F Aa).q fun a w F W => ?_
 refine Ad (Ac (Ah (Ab ?_)))
 refine ls F W Aa (Ae F Aa).q fun a w F W => ?_
 refine Ad (Ac ?_)
 obtain ⟨o1, G1, K1⟩ := Am H
 refine AO (fun a w => ∃ x1 : Int, some (x1) = some o1 ∧ Fr 18 [] [(2, .int .i64 0), (3, .int .i64 x1)] a ∧ Stw ⟨Y, [], w0⟩ [(b1, [.int .i64 p0.un.1, .int .i64 p0.un.2.1.un.1, .int .i64 p0.un.2.1.un.2.1, .int .i64 p0.un.2.1.un.2.2.1, v1, .int .i64 p0.un.2.2.1, .int .i64 p0.un.2.2.2.1, v2])] [] w) ?_ ?_
 ·
  have H := G1
  refine Ah (Ab ?_)
  refine ls F W Aa (Ae F Aa).q fun a w F W => ?_
  refine Ad (Ac (Az ?_))
  refine BG H (fun s a w => Fr 18 [] [(1, .pointer (some ⟨b1, 0, none⟩)), (2, .int .i64 0), (3, .int .i64 s.1), (4, .int .i64 s.2)] a ∧ Stw ⟨Y, [], w0⟩ [(b1, [.int .i64 p0.un.1, .int .i64 p0.un.2.1.un.1, .int .i64 p0.un.2.1.un.2.1, .int .i64 p0.un.2.1.un.2.2.1, v1, .int .i64 p0.un.2.2.1, .int .i64 p0.un.2.2.2.1, v2])] [] w) ⟨F.re ⟨rfl, Aa, Aa, Aa, trivial⟩, W⟩ fun s o a w H L2 hR => ?_
  obtain ⟨x2, x3⟩ := s
  obtain ⟨F, W⟩ := hR
  have F : Fr 18 [] [(1, .pointer (some ⟨b1, 0, none⟩)), (2, .int .i64 0), (3, .int .i64 x2), (4, .int .i64 x3)] a := F
  have W : Stw ⟨Y, [], w0⟩ [(b1, [.int .i64 p0.un.1, .int .i64 p0.un.2.1.un.1, .int .i64 p0.un.2.1.un.2.1, .int .i64 p0.un.2.1.un.2.2.1, v1, .int .i64 p0.un.2.2.1, .int .i64 p0.un.2.2.2.1, v2])] [] w := W
  rw [H5] at H
  refine Ah (Ah (Ab ?_))
  refine ls F W Aa (Ag F Aa).q fun a w F W => ?_
  refine ls F W Aa (H4 F Aa Aa).q fun a w F W => ?_
  refine Ad (Ac ?_)
  refine Aw F Aa (fun hb => ?_) fun hb => ?_
  ·
   have H := AV (Bg hb) H
   rw [hb] at F
   refine Ay (Ac (Ah (Az (Ab ?_))))
   refine ls F W Aa (Ag F Aa).q fun a w F W => ?_
   refine ls F W Aa (Ao (v := Value.agg #[.int .i64 p0.un.1, .int .i64 p0.un.2.1.un.1, .int .i64 p0.un.2.1.un.2.1, .int .i64 p0.un.2.1.un.2.2.1, v1, .int .i64 p0.un.2.2.1, .int .i64 p0.un.2.2.2.1, v2]) 0 F Aa Aa Ka Aa).q fun a w F W => ?_
   refine ls F W Aa (Ag F Aa).q fun a w F W => ?_
   obtain ⟨x4, h3, H⟩ := Am H
   refine Bj (Ml := []) (Zl := []) (M := [(b1, [.int .i64 p0.un.1, .int .i64 p0.un.2.1.un.1, .int .i64 p0.un.2.1.un.2.1, .int .i64 p0.un.2.1.un.2.2.1, v1, .int .i64 p0.un.2.2.1, .int .i64 p0.un.2.2.2.1, v2])]) (Z := []) (β := Value) (rv := fun x => x) (MM := fun x => []) (ZZ := fun x => [row x 3 (Rp.int .i64) x4]) F W XF Aa Aa (fun hL => JD _ w (v1) (v2) (Tr39.of (p0.un.1, Tr36.of (p0.un.2.1.un.1, p0.un.2.1.un.2.1, p0.un.2.1.un.2.2.1, p0.un.2.1.un.2.2.2), p0.un.2.2.1, p0.un.2.2.2.1, p0.un.2.2.2.2)) x3 _ h3 ((AH BV h1 (Aq h_v1)) w W).nx ((AH FD h2 (Aq h_v2)) w W).nx) fun x a w F W => ?_
   obtain ⟨v5, rfl⟩ : ∃ y, y = x := ⟨x, rfl⟩
   have W : Stw ⟨Y, [], w0⟩ [(b1, [.int .i64 p0.un.1, .int .i64 p0.un.2.1.un.1, .int .i64 p0.un.2.1.un.2.1, .int .i64 p0.un.2.1.un.2.2.1, v1, .int .i64 p0.un.2.2.1, .int .i64 p0.un.2.2.2.1, v2])] [row v5 3 (Rp.int .i64) x4] w := W
   refine ls F W Aa (CA (r := (Rp.int .i64)) (l := x4) RS Aa F Aa (Au 0 Aa)).q fun a w F W => ?_
   refine ls F W Aa (BL F Aa Aa Aa).q fun a w F W => ?_
   refine ls F W Aa (OG F Aa Aa Aa).q fun a w F W => ?_
   refine ls F W Aa (Ua F Aa Aa).q fun a w F W => ?_
   refine ls F W Aa (Ae F Aa).q fun a w F W => ?_
   refine Ad (AU (Ac (Ab ?_)))
   refine ls F W Aa (Ag F Aa).q fun a w F W => ?_
   refine ls F W Aa (BL F Aa Aa Aa).q fun a w F W => ?_
   refine ls F W Aa (Ae F Aa).q fun a w F W => ?_
   refine Ad (Ac ?_)
   have W := W.sub (M' := [(b1, [.int .i64 p0.un.1, .int .i64 p0.un.2.1.un.1, .int .i64 p0.un.2.1.un.2.1, .int .i64 p0.un.2.1.un.2.2.1, v1, .int .i64 p0.un.2.2.1, .int .i64 p0.un.2.2.2.1, v2])]) (Z' := []) (List.Sublist.refl _) (List.nil_sublist _)
   exact ⟨_, H, F.re ⟨rfl, Aa, Aa, Aa, trivial⟩, W⟩
  have H := AR (Bf hb) H
  rw [hb] at F
  refine Bz ?_
  iterate 2 refine BS ?_
  refine Bx (Ac ?_)
  have H := L2 _ H
  exact ⟨_, H, F.re ⟨rfl, Aa, trivial⟩, W⟩
 rintro a w ⟨x1, hj, F, W⟩
 have hj := AP hj
 subst hj
 have H := K1
 refine Ah (Ab ?_)
 refine ls F W Aa (Ag F Aa).q fun a w F W => ?_
 refine ls F W Aa (Ae F Aa).q fun a w F W => ?_
 refine Ad (Ac (Av ?_))
 have H := AP H
 subst H
 refine AJ (.inl Aa) F W Aa (AB F Aa) ?_
 exact ⟨rfl, W.done⟩
theorem TO : type_of% Tryz.underlying22 := Tryz.underlying22
theorem US : type_of% Tryz.underlying23 := Tryz.underlying23
theorem Pc : type_of% Tryz.underlying25 := Tryz.underlying25
theorem O2 : type_of% Tryz.underlying78 := Tryz.underlying78
theorem VE : type_of% Tryz.underlying82 := Tryz.underlying82
theorem Vc : type_of% Tryz.underlying115 := Tryz.underlying115
theorem Oq : type_of% Tryz.underlying118 := Tryz.underlying118
theorem XT : Has Tryz.prog 14 := ⟨fun args w => Aj Tryz.func14 rfl (by decide) args w⟩
theorem X0 : Bt Tryz.prog 25 [.int .i64 0, .slice none 0 0, .slice none 0 0] [(0, 1), (1, 1), (2, 1)] := ⟨⟨.agg #[.int .i64 0, .slice none 0 0, .slice none 0 0], by kernel_rfl, rfl⟩, ⟨_, Pc, fun w => by kernel_rfl⟩⟩
abbrev Qb : Rp (Int × Int × Int × Int × Int × Int) := (Rp.pair (Rp.int .i64) (Rp.pair (Rp.int .i64) (Rp.pair (Rp.int .i64) (Rp.pair (Rp.int .i64) (Rp.pair (Rp.int .i64) (Rp.int .i64))))))
abbrev Rl : Rp (Int × Int) := (Rp.pair (Rp.int .i64) (Rp.int .i64))
theorem WK : Ty Tryz.prog 25 true 3 := ⟨by kernel_rfl, by kernel_rfl⟩
theorem Vg : Ty Tryz.prog 22 false 1 := ⟨by kernel_rfl, by kernel_rfl⟩
theorem V2 : Ty Tryz.prog 23 false 1 := ⟨by kernel_rfl, by kernel_rfl⟩
abbrev Kf (x : Int × Int) : Value := .agg #[.int .i64 x.1, .int .i64 x.2]
abbrev KU (x : Unit) : Value := .agg #[]
theorem WZ : Et Tryz.prog 22 78 6 48 := Et.of TO (by kernel_rfl) (by kernel_rfl) (by kernel_rfl) (by decide)
def YQ (a : Int × Int × Int × Int × Int × Int) : List Value := [.int .i64 a.1, .int .i64 a.2.1, .int .i64 a.2.2.1, .int .i64 a.2.2.2.1, .int .i64 a.2.2.2.2.1, .int .i64 a.2.2.2.2.2]
theorem XA : Fl Qb YQ := (Fl.pair Fl.int (Fl.pair Fl.int (Fl.pair Fl.int (Fl.pair Fl.int (Fl.pair Fl.int Fl.int)))))
theorem WL : Ty Tryz.prog 78 true 6 := ⟨by kernel_rfl, by kernel_rfl⟩
theorem YH : (Tryz.prog.info? 78).bind (·.zero) = some (.agg #[.int .i64 0, .int .i64 0, .int .i64 0, .int .i64 0, .int .i64 0, .int .i64 0]) := by kernel_rfl
theorem VY : Bt Tryz.prog 118 [.int .i64 0, .int .i64 0] [(0, 1), (1, 1)] := ⟨⟨.agg #[.int .i64 0, .int .i64 0], by kernel_rfl, rfl⟩, ⟨_, Oq, fun w => by kernel_rfl⟩⟩
theorem VT : (Tryz.prog.info? 118).bind (·.zero) = some (.agg #[.int .i64 0, .int .i64 0]) := by kernel_rfl
abbrev HZ : Rp (Int × Int) := (Rp.pair (Rp.int .i64) (Rp.int .i64))
def Xt (a : Int × Int) : List Value := [.int .i64 a.1, .int .i64 a.2]
theorem VJ : Fl HZ Xt := (Fl.pair Fl.int Fl.int)
theorem Uu : Et Tryz.prog 115 118 2 16 := Et.of Vc (by kernel_rfl) (by kernel_rfl) (by kernel_rfl) (by decide)
theorem XR : Et Tryz.prog 23 82 2 16 := Et.of US (by kernel_rfl) (by kernel_rfl) (by kernel_rfl) (by decide)
def Yy (a : Int × Int) : List Value := [.int .i64 a.1, .int .i64 a.2]
theorem XQ : Fl Rl Yy := (Fl.pair Fl.int Fl.int)
theorem WM : Ty Tryz.prog 82 true 2 := ⟨by kernel_rfl, by kernel_rfl⟩
theorem Yn : (Tryz.prog.info? 82).bind (·.zero) = some (.agg #[.int .i64 0, .int .i64 0]) := by kernel_rfl
def Ij (p0 : Int × (List (Int × Int × Int × Int × Int × Int)) × (List (Int × Int))) : ((List (Int × Int)) × Int) → Option (((List (Int × Int)) × Int) ⊕ (List (Int × Int)))
  | (x2, x3) => (if x3 < (p0.2.1.length : Int) then (ix p0.2.1 x3).bind fun x4 => (Ig x2 ([(x4.1, x4.2.1), (x4.2.2.1, x4.2.2.2.1)] : List (Int × Int))).bind fun x5 => some (.inl (x5, AG (x3 + 1))) else some (.inr x2))
def Iq (p0 : Int × (List (Int × Int × Int × Int × Int × Int)) × (List (Int × Int))) : ((List (Int × Int)) × Int) → Option (((List (Int × Int)) × Int) ⊕ (List (Int × Int)))
  | (x7, x8) => (if x8 < (p0.2.2.length : Int) then (ix p0.2.2 x8).bind fun x9 => (Ig x7 ([x9] : List (Int × Int))).bind fun x10 => some (.inl (x10, AG (x8 + 1))) else some (.inr x7))
def Jp (p0 : Int × (List (Int × Int × Int × Int × Int × Int)) × (List (Int × Int))) : Option (List (Int × Int)) := (A6 (Ij p0) ([], 0)).bind fun x1 => (A6 (Iq p0) (x1, 0)).bind fun x6 => some x6
theorem QO (Y : Nat → Prop) (w0 : World) (v1 : Value) (v2 : Value) (p0 : Int × (List (Int × Int × Int × Int × Int × Int)) × (List (Int × Int))) (r : (List (Int × Int))) (H : Jp p0 = some r) (h_v1 : Sl w0 (NX []) Qb v1 p0.2.1) (h_v2 : Sl w0 (NX []) Rl v2 p0.2.2) :
    Calls Tryz.prog 73 #[.agg #[.int .i64 p0.1, v1, v2]] w0 fun e w' => ∃ x : Value, e = .returned (x) ∧ Stw ⟨Y, [], w0⟩ [] [row (x) 118 HZ r] w' := by
 refine enter Tryz.func73 Aa Tryz.ntmps73 Aa fun a F => ?_
 have W := Stw.start Y w0
 unfold Jp at H
 refine Ah (Ab ?_)
 refine CS (cs := [.int .i64 p0.1, v1, v2]) F W Aa Aa Aa fun b1 a w F W => ?_
 refine ls F W Aa (Ae F Aa).q fun a w F W => ?_
 refine Ad (Ac (Ah (Ab ?_)))
 refine ls F W Aa (Ae F Aa).q fun a w F W => ?_
 refine Ad (Ac ?_)
 obtain ⟨o1, G1, K1⟩ := Am H
 refine AO (fun a w => ∃ x1 : List (Int × Int), ∃ v3 : Value, some (x1) = some o1 ∧ Fr 46 [] [(1, .pointer (some ⟨b1, 0, none⟩)), (2, .slice none 0 0), (3, v3)] a ∧ Stw ⟨Y, [], w0⟩ [(b1, [.int .i64 p0.1, v1, v2])] [row v3 118 HZ x1] w) ?_ ?_
 ·
  have H := G1
  refine Ah (Ab ?_)
  refine ls F W Aa (Ai Pc Aa Aa Aa Vg F Aa 1 Aa).q fun a w F W => ?_
  refine ls F W Aa (Ao (v := v1) 0 F Aa Aa Vg Aa).q fun a w F W => ?_
  refine ls F W Aa (CA (r := Qb) (l := p0.2.1) TO Aa F Aa (Aq h_v1)).q fun a w F W => ?_
  refine ls F W Aa (Ag F Aa).q fun a w F W => ?_
  refine Ad (Ac (Az ?_))
  have W := W.nilRow 118 HZ
  refine BG H (fun s a w => ∃ v4 : Value, Fr 46 [] [(1, .pointer (some ⟨b1, 0, none⟩)), (2, .slice none 0 0), (3, v4), (9, v1), (10, .int .i64 (p0.2.1.length : Int)), (11, .int .i64 s.2)] a ∧ Stw ⟨Y, [], w0⟩ [(b1, [.int .i64 p0.1, v1, v2])] [row v4 118 HZ s.1] w) ⟨(Value.slice none 0 0), F.re ⟨rfl, Aa, Aa, Aa, Aa, Aa, trivial⟩, W⟩ fun s o a w H L2 hR => ?_
  obtain ⟨x2, x3⟩ := s
  obtain ⟨v4, F, W⟩ := hR
  have F : Fr 46 [] [(1, .pointer (some ⟨b1, 0, none⟩)), (2, .slice none 0 0), (3, v4), (9, v1), (10, .int .i64 (p0.2.1.length : Int)), (11, .int .i64 x3)] a := F
  have W : Stw ⟨Y, [], w0⟩ [(b1, [.int .i64 p0.1, v1, v2])] [row v4 118 HZ x2] w := W
  rw [Ij] at H
  refine Ah (Ab ?_)
  refine ls F W Aa (Cu F Aa Aa).q fun a w F W => ?_
  refine Ad (Ac (Ah ?_))
  refine Aw F Aa (fun hb => ?_) fun hb => ?_
  ·
   have H := AV (Bg hb) H
   rw [hb] at F
   refine Ay (Ac (Ah (Az (Ah (Ab ?_)))))
   obtain ⟨x4, h1, H⟩ := Am H
   refine ls F W Aa (AM (r := Qb) WZ F Aa Aa (Aq h_v1) h1).q fun a w F W => ?_
   refine ls F W Aa (AA (y := Value.agg #[.int .i64 x4.1, .int .i64 x4.2.1, .int .i64 x4.2.2.1, .int .i64 x4.2.2.2.1, .int .i64 x4.2.2.2.2.1, .int .i64 x4.2.2.2.2.2]) (j := 0) (i := x3) F Aa Aa (Aq h_v1) h1 XA.to WL Aa).q fun a w F W => ?_
   refine Co (cs := [.int .i64 0, .int .i64 0, .int .i64 0, .int .i64 0, .int .i64 0, .int .i64 0]) F W Aa YH Aa fun b2 a w F W => ?_
   refine Be (vs := [.int .i64 x4.1, .int .i64 x4.2.1, .int .i64 x4.2.2.1, .int .i64 x4.2.2.2.1, .int .i64 x4.2.2.2.2.1, .int .i64 x4.2.2.2.2.2]) (M' := [(b2, [.int .i64 x4.1, .int .i64 x4.2.1, .int .i64 x4.2.2.1, .int .i64 x4.2.2.2.1, .int .i64 x4.2.2.2.2.1, .int .i64 x4.2.2.2.2.2]), (b1, [.int .i64 p0.1, v1, v2])]) 0 F W Aa Aa Aa WL Aa Aa Aa Aa Aa fun w W => ?_
   refine Ad (Ac (Ab ?_))
   refine ls F W Aa (Ag F Aa).q fun a w F W => ?_
   refine ls F W Aa (Ai O2 Aa Aa Aa T3 F Aa 0 Aa).q fun a w F W => ?_
   refine ls F W Aa (Ao (v := Value.int .i64 x4.1) 0 F Aa Aa T3 Aa).q fun a w F W => ?_
   refine ls F W Aa (Ai O2 Aa Aa Aa T3 F Aa 1 Aa).q fun a w F W => ?_
   refine ls F W Aa (Ao (v := Value.int .i64 x4.2.1) 0 F Aa Aa T3 Aa).q fun a w F W => ?_
   refine ls F W Aa (De (v := Value.agg #[.int .i64 x4.1, .int .i64 x4.2.1]) VY F Aa Aa Aa).q fun a w F W => ?_
   refine ls F W Aa (Ai O2 Aa Aa Aa T3 F Aa 2 Aa).q fun a w F W => ?_
   refine ls F W Aa (Ao (v := Value.int .i64 x4.2.2.1) 0 F Aa Aa T3 Aa).q fun a w F W => ?_
   refine ls F W Aa (Ai O2 Aa Aa Aa T3 F Aa 3 Aa).q fun a w F W => ?_
   refine ls F W Aa (Ao (v := Value.int .i64 x4.2.2.2.1) 0 F Aa Aa T3 Aa).q fun a w F W => ?_
   refine ls F W Aa (De (v := Value.agg #[.int .i64 x4.2.2.1, .int .i64 x4.2.2.2.1]) VY F Aa Aa Aa).q fun a w F W => ?_
   refine Ke (z := Value.agg #[.int .i64 0, .int .i64 0]) (cs := [.int .i64 x4.1, .int .i64 x4.2.1, .int .i64 x4.2.2.1, .int .i64 x4.2.2.2.1]) HZ ([(x4.1, x4.2.1), (x4.2.2.1, x4.2.2.2.1)] : List (Int × Int)) F W Aa Uu VT Aa Aa Aa Aa Aa Aa (VJ.repL _ _ ([(x4.1, x4.2.1), (x4.2.2.1, x4.2.2.2.1)] : List (Int × Int))) fun v5 a w F W => ?_
   obtain ⟨x5, h2, H⟩ := Am H
   refine Fm (r := HZ) (i := 1) F W Aa Uu Aa Aa Aa Aa (GC W 0 Aa) h2 Aa fun v6 a w F W => ?_
   have W : Stw ⟨Y, [], w0⟩ [(b2, [.int .i64 x4.1, .int .i64 x4.2.1, .int .i64 x4.2.2.1, .int .i64 x4.2.2.2.1, .int .i64 x4.2.2.2.2.1, .int .i64 x4.2.2.2.2.2]), (b1, [.int .i64 p0.1, v1, v2])] [row v6 118 HZ x5, row v5 118 HZ ([(x4.1, x4.2.1), (x4.2.2.1, x4.2.2.2.1)] : List (Int × Int))] w := W
   refine ls F W Aa (Ae F Aa).q fun a w F W => ?_
   refine Ad (AU (Ac (Ab ?_)))
   refine ls F W Aa (BL F Aa Aa Aa).q fun a w F W => ?_
   refine ls F W Aa (Ag F Aa).q fun a w F W => ?_
   refine Ad (Ac ?_)
   have W := W.frontM (i := 1) Aa Aa
   have W := W.sub (M' := [(b1, [.int .i64 p0.1, v1, v2])]) (Z' := [row v6 118 HZ x5]) (List.Sublist.cons_cons _ (List.nil_sublist _)) (List.Sublist.cons_cons _ (List.nil_sublist _))
   exact ⟨_, H, (v6), F.re ⟨rfl, Aa, Aa, Aa, Aa, Aa, trivial⟩, W⟩
  have H := AR (Bf hb) H
  rw [hb] at F
  refine Bz ?_
  iterate 2 refine BS ?_
  refine Bx (Ac ?_)
  have H := L2 _ H
  exact ⟨_, (v4), H, F.re ⟨rfl, Aa, Aa, trivial⟩, W⟩
 rintro a w ⟨x1, v3, hj, F, W⟩
 have hj := AP hj
 subst hj
 have H := K1
 obtain ⟨o3, G3, K3⟩ := Am H
 refine AO (fun a w => ∃ x6 : List (Int × Int), ∃ v7 : Value, some (x6) = some o3 ∧ Fr 46 [] [(2, .slice none 0 0), (3, v7)] a ∧ Stw ⟨Y, [], w0⟩ [(b1, [.int .i64 p0.1, v1, v2])] [row v7 118 HZ x6] w) ?_ ?_
 ·
  have H := G3
  refine Ah (Ab ?_)
  refine ls F W Aa (Ai Pc Aa Aa Aa V2 F Aa 2 Aa).q fun a w F W => ?_
  refine ls F W Aa (Ao (v := v2) 0 F Aa Aa V2 Aa).q fun a w F W => ?_
  refine ls F W Aa (CA (r := Rl) (l := p0.2.2) US Aa F Aa (Aq h_v2)).q fun a w F W => ?_
  refine ls F W Aa (Ag F Aa).q fun a w F W => ?_
  refine Ad (Ac (Az ?_))
  refine BG H (fun s a w => ∃ v8 : Value, Fr 46 [] [(2, .slice none 0 0), (3, v8), (30, v2), (31, .int .i64 (p0.2.2.length : Int)), (32, .int .i64 s.2)] a ∧ Stw ⟨Y, [], w0⟩ [(b1, [.int .i64 p0.1, v1, v2])] [row v8 118 HZ s.1] w) ⟨(v3), F.re ⟨rfl, Aa, Aa, Aa, Aa, trivial⟩, W⟩ fun s o a w H L4 hR => ?_
  obtain ⟨x7, x8⟩ := s
  obtain ⟨v8, F, W⟩ := hR
  have F : Fr 46 [] [(2, .slice none 0 0), (3, v8), (30, v2), (31, .int .i64 (p0.2.2.length : Int)), (32, .int .i64 x8)] a := F
  have W : Stw ⟨Y, [], w0⟩ [(b1, [.int .i64 p0.1, v1, v2])] [row v8 118 HZ x7] w := W
  rw [Iq] at H
  refine Ah (Ab ?_)
  refine ls F W Aa (Cu F Aa Aa).q fun a w F W => ?_
  refine Ad (Ac (Ah ?_))
  refine Aw F Aa (fun hb => ?_) fun hb => ?_
  ·
   have H := AV (Bg hb) H
   rw [hb] at F
   refine Ay (Ac (Ah (Az (Ah (Ab ?_)))))
   obtain ⟨x9, h3, H⟩ := Am H
   refine ls F W Aa (AM (r := Rl) XR F Aa Aa (Aq h_v2) h3).q fun a w F W => ?_
   refine ls F W Aa (AA (y := Value.agg #[.int .i64 x9.1, .int .i64 x9.2]) (j := 0) (i := x8) F Aa Aa (Aq h_v2) h3 XQ.to WM Aa).q fun a w F W => ?_
   refine Co (cs := [.int .i64 0, .int .i64 0]) F W Aa Yn Aa fun b3 a w F W => ?_
   refine Be (vs := [.int .i64 x9.1, .int .i64 x9.2]) (M' := [(b3, [.int .i64 x9.1, .int .i64 x9.2]), (b1, [.int .i64 p0.1, v1, v2])]) 0 F W Aa Aa Aa WM Aa Aa Aa Aa Aa fun w W => ?_
   refine Ad (Ac (Ab ?_))
   refine ls F W Aa (Ag F Aa).q fun a w F W => ?_
   refine ls F W Aa (Ai VE Aa Aa Aa T3 F Aa 0 Aa).q fun a w F W => ?_
   refine ls F W Aa (Ao (v := Value.int .i64 x9.1) 0 F Aa Aa T3 Aa).q fun a w F W => ?_
   refine ls F W Aa (Ai VE Aa Aa Aa T3 F Aa 1 Aa).q fun a w F W => ?_
   refine ls F W Aa (Ao (v := Value.int .i64 x9.2) 0 F Aa Aa T3 Aa).q fun a w F W => ?_
   refine ls F W Aa (De (v := Value.agg #[.int .i64 x9.1, .int .i64 x9.2]) VY F Aa Aa Aa).q fun a w F W => ?_
   refine Ke (z := Value.agg #[.int .i64 0, .int .i64 0]) (cs := [.int .i64 x9.1, .int .i64 x9.2]) HZ ([x9] : List (Int × Int)) F W Aa Uu VT Aa Aa Aa Aa Aa Aa (VJ.repL _ _ ([x9] : List (Int × Int))) fun v9 a w F W => ?_
   obtain ⟨x10, h4, H⟩ := Am H
   refine Fm (r := HZ) (i := 1) F W Aa Uu Aa Aa Aa Aa (GC W 0 Aa) h4 Aa fun v10 a w F W => ?_
   have W : Stw ⟨Y, [], w0⟩ [(b3, [.int .i64 x9.1, .int .i64 x9.2]), (b1, [.int .i64 p0.1, v1, v2])] [row v10 118 HZ x10, row v9 118 HZ ([x9] : List (Int × Int))] w := W
   refine ls F W Aa (Ae F Aa).q fun a w F W => ?_
   refine Ad (AU (Ac (Ab ?_)))
   refine ls F W Aa (BL F Aa Aa Aa).q fun a w F W => ?_
   refine ls F W Aa (Ag F Aa).q fun a w F W => ?_
   refine Ad (Ac ?_)
   have W := W.frontM (i := 1) Aa Aa
   have W := W.sub (M' := [(b1, [.int .i64 p0.1, v1, v2])]) (Z' := [row v10 118 HZ x10]) (List.Sublist.cons_cons _ (List.nil_sublist _)) (List.Sublist.cons_cons _ (List.nil_sublist _))
   exact ⟨_, H, (v10), F.re ⟨rfl, Aa, Aa, Aa, Aa, trivial⟩, W⟩
  have H := AR (Bf hb) H
  rw [hb] at F
  refine Bz ?_
  iterate 2 refine BS ?_
  refine Bx (Ac ?_)
  have H := L4 _ H
  exact ⟨_, (v8), H, F.re ⟨rfl, Aa, trivial⟩, W⟩
 rintro a w ⟨x6, v7, hj, F, W⟩
 have hj := AP hj
 subst hj
 have H := K3
 refine Ah (Ab ?_)
 refine ls F W Aa (Ag F Aa).q fun a w F W => ?_
 refine ls F W Aa (Ae F Aa).q fun a w F W => ?_
 refine Ad (Ac (Av ?_))
 have H := AP H
 subst H
 refine AJ (.inl Aa) F W Aa (AB F Aa) ?_
 have W := W.sub (M' := []) (Z' := [row v7 118 HZ x6]) (List.nil_sublist _) (List.Sublist.refl _)
 exact ⟨(v7), Aa, W⟩
end
end Go.Proofs.YtgoifghhcekahaaGreatDoor
