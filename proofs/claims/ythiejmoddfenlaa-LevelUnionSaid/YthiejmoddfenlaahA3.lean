/- The functions of layer 23, HZ. Conditions: none. -/
import Derived.Test.YthiejmoddfenlaahA2
namespace Go.Proofs.Ythiejmoddfenlaa
open Go Go.RowKit
set_option linter.unusedVariables false
set_option linter.unusedSimpArgs false
set_option maxRecDepth 20000
theorem Sb : type_of% Try.underlying128 := Try.underlying128
theorem Tl : Has Try.prog 80 := ⟨fun args w => Al Try.func80 rfl (by decide) args w⟩
noncomputable def A5 (p1 : Int) (p2 : Int) (x1 : Int) : ((List (Int × Int × Int × Int)) × Int × Int) → Option (((List (Int × Int × Int × Int)) × Int × Int) ⊕ (List (Int × Int × Int × Int)))
  | (x2, x3, x4) => (if x3 ≤ (AB ((AB (p1 + (AB ((AB (Int.tdiv (AB (p2 - p1)) 4)) * 2)))) + 1)) then (if (AB (p2 - p1)) ≤ (AB (KX .u64 ((Bm x4).1) (IntKind.u64.wrap (x1 - 1)))) then some (AB ((AB (KX .u64 ((Bm x4).1) (IntKind.u64.wrap (x1 - 1)))) - (AB (p2 - p1)))) else some (AB (KX .u64 ((Bm x4).1) (IntKind.u64.wrap (x1 - 1))))).bind fun x5 => (ix x2 (AB (p1 + x5))).bind fun x6 => (ix x2 x3).bind fun x7 => (ix x2 x3).bind fun x8 => (ix (Ap x2 x3 x6) (AB (p1 + x5))).bind fun x9 => some (.inl ((Ap (Ap x2 x3 x6) (AB (p1 + x5)) x7), AB (x3 + 1), (Bm x4).2)) else some (.inr x2))
noncomputable def Be (p0 : List (Int × Int × Int × Int)) (p1 : Int) (p2 : Int) : Option (List (Int × Int × Int × Int)) := (if 8 ≤ (AB (p2 - p1)) then (Cs (AB (p2 - p1))).bind fun x1 => AG (A5 p1 p2 x1) (p0, AB ((AB (p1 + (AB ((AB (Int.tdiv (AB (p2 - p1)) 4)) * 2)))) - 1), IntKind.u64.wrap (AB (p2 - p1))) else some p0)
theorem Fn (Y : Nat → Prop) (X : List Nat) (w0 : World) (v1 : Value) (p0 : List (Int × Int × Int × Int)) (p1 : Int) (p2 : Int) (r : (List (Int × Int × Int × Int))) (H : Be p0 p1 p2 = some r) (hL : Stw ⟨Y, X, w0⟩ [] [row v1 62 Bj p0] w0) :
    Calls Try.prog 61 #[v1, .int .i64 p1, .int .i64 p2, .func (.func 26) #[] #[]] w0 fun e w' => ∃ x : Unit, e = .returned (.tuple #[]) ∧ Stw ⟨Y, X, w0⟩ [] [row v1 62 Bj r] w' := by
 refine enter Try.func61 Aa Try.ntmps61 Aa fun a F => ?_
 have W := hL
 unfold Be at H
 refine Ah (Ac ?_)
 iterate 2 refine ls F W Aa (Ad F Aa).q fun a w F W => ?_
 refine ls F W Aa (Cx F Aa Aa Aa).q fun a w F W => ?_
 refine ls F W Aa (Ag F Aa).q fun a w F W => ?_
 refine Ae (Ab (Ah (Ac ?_)))
 refine ls F W Aa (Ad F Aa).q fun a w F W => ?_
 refine ls F W Aa (DH F Aa Aa).q fun a w F W => ?_
 refine Ae (Ab ?_)
 refine AA F Aa (fun hb => ?_) fun hb => ?_
 ·
  have H := AS (BD hb) H
  rw [hb] at F
  clear hb
  refine Ah (Ac ?_)
  refine ls F W Aa (Ad F Aa).q fun a w F W => ?_
  refine ls F W Aa (IU NV Sb F Aa).q fun a w F W => ?_
  refine DX (cs := [.int .u64 0]) F W Aa SQ Aa fun b1 a w F W => ?_
  refine DC (vs := [.int .u64 (IntKind.u64.wrap (AB (p2 - p1)))]) (M' := [(b1, [.int .u64 (IntKind.u64.wrap (AB (p2 - p1)))])]) 0 F W Aa Aa Aa LX Aa Aa Aa Aa Aa fun w W => ?_
  refine Ae (Ab (Ah (Ac ?_)))
  refine ls F W Aa (Ad F Aa).q fun a w F W => ?_
  obtain ⟨x1, h1, H⟩ := Ak H
  refine ls F W Aa (BX (v := Value.int .u64 x1) F Tu Aa (fun w W => IK any w (AB (p2 - p1)) _ h1)) fun a w F W => ?_
  refine ls F W Aa (Ag F Aa).q fun a w F W => ?_
  refine Ae (Ab (Ah (Ac ?_)))
  iterate 2 refine ls F W Aa (Ad F Aa).q fun a w F W => ?_
  refine ls F W Aa (Ls F Aa Aa (by decide) Aa).q fun a w F W => ?_
  refine ls F W Aa (MF F Aa Aa Aa).q fun a w F W => ?_
  refine ls F W Aa (BC F Aa Aa Aa).q fun a w F W => ?_
  refine ls F W Aa (Cx F Aa Aa Aa).q fun a w F W => ?_
  refine ls F W Aa (Ag F Aa).q fun a w F W => ?_
  refine Ae (Ab (As ?_))
  refine Bb H (fun s a w => Fr 67 [] [(0, v1), (1, .int .i64 p1), (8, .int .i64 (AB (p2 - p1))), (9, .pointer (some ⟨b1, 0, none⟩)), (10, .int .u64 x1), (11, .int .i64 s.2.1)] a ∧ Stw ⟨Y, X, w0⟩ [(b1, [.int .u64 s.2.2])] [row v1 62 Bj s.1] w) ⟨F.re ⟨rfl, Aa, Aa, Aa, Aa, Aa, trivial⟩, W⟩ fun s o a w H L1 hR => ?_
  obtain ⟨x2, x3, x4⟩ := s
  obtain ⟨F, W⟩ := hR
  have F : Fr 67 [] [(0, v1), (1, .int .i64 p1), (8, .int .i64 (AB (p2 - p1))), (9, .pointer (some ⟨b1, 0, none⟩)), (10, .int .u64 x1), (11, .int .i64 x3)] a := F
  have W : Stw ⟨Y, X, w0⟩ [(b1, [.int .u64 x4])] [row v1 62 Bj x2] w := W
  rw [A5] at H
  refine Ah (Ah (Ac ?_))
  iterate 3 refine ls F W Aa (Ad F Aa).q fun a w F W => ?_
  refine ls F W Aa (Ls F Aa Aa (by decide) Aa).q fun a w F W => ?_
  refine ls F W Aa (MF F Aa Aa Aa).q fun a w F W => ?_
  iterate 2 refine ls F W Aa (BC F Aa Aa Aa).q fun a w F W => ?_
  refine ls F W Aa (Ie F Aa Aa).q fun a w F W => ?_
  refine Ae (Ab ?_)
  refine AA F Aa (fun hb => ?_) fun hb => ?_
  ·
   have H := AS (BD hb) H
   rw [hb] at F
   clear hb
   refine Av (Ab (Ah (As (Ah (Ac ?_)))))
   refine B7 (Ml := [(b1, [.int .u64 x4])]) (Zl := []) (M := []) (Z := [row v1 62 Bj x2]) (β := Unit) (rv := fun x => .int .u64 ((Bm x4).1)) (MM := fun x => [(b1, [.int .u64 ((Bm x4).2)])]) (ZZ := fun x => []) F W Tl Aa Aa (fun hL => I5 _ _ w b1 x4 _ Aa hL) fun x a w F W => ?_
   have W : Stw ⟨Y, X, w0⟩ [(b1, [.int .u64 ((Bm x4).2)])] [row v1 62 Bj x2] w := W
   refine ls F W Aa (Ad F Aa).q fun a w F W => ?_
   refine ls F W Aa (Cx F Aa Aa Aa).q fun a w F W => ?_
   refine ls F W Aa (Rj F Aa Aa).q fun a w F W => ?_
   refine ls F W Aa (IU Q6 NV F Aa).q fun a w F W => ?_
   refine ls F W Aa (Ag F Aa).q fun a w F W => ?_
   refine Ae (Ab ?_)
   obtain ⟨o2, G2, K2⟩ := Ak H
   refine AM (fun a w => ∃ x5 : Int, some (x5) = some o2 ∧ Fr 67 [] [(0, v1), (1, .int .i64 p1), (8, .int .i64 (AB (p2 - p1))), (9, .pointer (some ⟨b1, 0, none⟩)), (10, .int .u64 x1), (11, .int .i64 x3), (12, .int .i64 x5)] a ∧ Stw ⟨Y, X, w0⟩ [(b1, [.int .u64 ((Bm x4).2)])] [row v1 62 Bj x2] w) ?_ ?_
   ·
    have H := G2
    clear G2 K2
    refine Ah (Ac ?_)
    iterate 2 refine ls F W Aa (Ad F Aa).q fun a w F W => ?_
    refine ls F W Aa (DH F Aa Aa).q fun a w F W => ?_
    refine Ae (Ab ?_)
    refine AA F Aa (fun hb => ?_) fun hb => ?_
    ·
     have H := AS (BD hb) H
     rw [hb] at F
     clear hb
     refine Ac ?_
     iterate 2 refine ls F W Aa (Ad F Aa).q fun a w F W => ?_
     refine ls F W Aa (Cx F Aa Aa Aa).q fun a w F W => ?_
     refine ls F W Aa (Ag F Aa).q fun a w F W => ?_
     refine Ae (Ab ?_)
     exact ⟨_, H, F.re ⟨rfl, Aa, Aa, Aa, Aa, Aa, Aa, trivial⟩, W⟩
    have H := AR (BB hb) H
    rw [hb] at F
    clear hb
    refine Av (Ab ?_)
    exact ⟨_, H, F.re ⟨rfl, Aa, Aa, Aa, Aa, Aa, Aa, trivial⟩, W⟩
   rintro a w ⟨x5, hj, F, W⟩
   have hj := AV hj
   subst hj
   have H := K2
   clear G2 K2
   refine Gg [(true, 0), (true, 1), (true, 2), (true, 3), (true, 4), (true, 5), (true, 6), (true, 7), (true, 8), (true, 9), (true, 10), (true, 11), (true, 12), (true, 13), (true, 14), (true, 15), (true, 16), (false, 17), (true, 18), (false, 19)] (CN ⟨Y, X, w0⟩ [] [(some 17, row v1 62 Bj x2)]) (fun ch a d v w h => by cases d <;> exact h) MO (by kernel_rfl) W (fun w W => ⟨_, _, W, Bd, (all_cons (fun _ => (.head _)) Bd)⟩) fun w W => ?_
   iterate 5 refine B6 (R := []) F Aa Aa (yC fun M Z hN hZ => Ad F Aa) Aa Aa fun a F => ?_
   refine B6 (R := []) F Aa Aa (yC fun M Z hN hZ => BC F Aa Aa Aa) Aa Aa fun a F => ?_
   iterate 3 refine B6 (R := []) F Aa Aa (yC fun M Z hN hZ => Ad F Aa) Aa Aa fun a F => ?_
   refine B6 (R := []) F Aa Aa (yC fun M Z hN hZ => BC F Aa Aa Aa) Aa Aa fun a F => ?_
   obtain ⟨x6, h2, H⟩ := Ak H
   refine B6 (R := []) F Aa Aa (yC fun M Z hN hZ => B1 (r := Bj) Ew F Aa Aa (DK W (An 0 Aa)) h2) Aa Aa fun a F => ?_
   refine B6 (R := [17]) F Aa Aa (yC fun M Z hN hZ => Ao (y := Value.agg #[.int .i64 x6.1, .int .i64 x6.2.1, .int .i64 x6.2.2.1, .int .i64 x6.2.2.2]) (j := 0) (i := AB (p1 + x5)) F Aa Aa (D3 (hZ ((some 17), row v1 62 Bj x2) (.head _) Aa)) h2 Ez.to Eh Aa) (by kernel_rfl) Aa fun a F => ?_
   iterate 2 refine B6 (R := []) F Aa Aa (yC fun M Z hN hZ => Ad F Aa) Aa Aa fun a F => ?_
   obtain ⟨x7, h3, H⟩ := Ak H
   refine B6 (R := []) F Aa Aa (yC fun M Z hN hZ => B1 (r := Bj) Ew F Aa Aa (DK W (An 0 Aa)) h3) Aa Aa fun a F => ?_
   refine B6 (R := [17]) F Aa Aa (yC fun M Z hN hZ => Ao (y := Value.agg #[.int .i64 x7.1, .int .i64 x7.2.1, .int .i64 x7.2.2.1, .int .i64 x7.2.2.2]) (j := 0) (i := x3) F Aa Aa (D3 (hZ ((some 17), row v1 62 Bj x2) (.head _) Aa)) h3 Ez.to Eh Aa) (by kernel_rfl) Aa fun a F => ?_
   obtain ⟨x8, h4, H⟩ := Ak H
   refine B6 (R := []) F Aa Aa (yC fun M Z hN hZ => B1 (r := Bj) Ew F Aa Aa (DK W (An 0 Aa)) h4) Aa Aa fun a F => ?_
   refine Ia Aa ?_
   refine Bz (i := x3) (j := 0) (vs := [.int .i64 x6.1, .int .i64 x6.2.1, .int .i64 x6.2.2.1, .int .i64 x6.2.2.2]) (x' := x6) F W Aa Aa Aa (k := 0) Aa Aa h4 Eh Aa Aa Aa Aa (fun A cs _ => Ez.sto (by rfl) _ _ _) fun w W => ?_
   refine DF (N2 := []) (NZ2 := []) (N3 := []) (NZ3 := [(some 17, row v1 62 Bj x2)]) W Aa Aa Bd (all_cons (fun h => Cq (by kernel_rfl) h) Bd) ?_
   obtain ⟨x9, h5, H⟩ := Ak H
   refine B6 (R := []) F Aa Aa (yC fun M Z hN hZ => B1 (r := Bj) Ew F Aa Aa (DK W (An 0 Aa)) h5) Aa Aa fun a F => ?_
   refine Ia Aa ?_
   refine Bz (i := AB (p1 + x5)) (j := 0) (vs := [.int .i64 x7.1, .int .i64 x7.2.1, .int .i64 x7.2.2.1, .int .i64 x7.2.2.2]) (x' := x7) F W Aa Aa Aa (k := 0) Aa Aa h5 Eh Aa Aa Aa Aa (fun A cs _ => Ez.sto (by rfl) _ _ _) fun w W => ?_
   refine DF (N2 := []) (NZ2 := []) (N3 := []) (NZ3 := [(some 17, row v1 62 Bj x2)]) W Aa Aa Bd (all_cons (fun h => Cq (by kernel_rfl) h) Bd) ?_
   refine Is (AP (Ab (Ac ?_)))
   refine ls F W Aa (Ad F Aa).q fun a w F W => ?_
   refine ls F W Aa (BC F Aa Aa Aa).q fun a w F W => ?_
   refine ls F W Aa (Ag F Aa).q fun a w F W => ?_
   refine Ae (Ab ?_)
   exact ⟨_, H, F.re ⟨rfl, Aa, Aa, Aa, Aa, Aa, trivial⟩, W⟩
  have H := AR (BB hb) H
  rw [hb] at F
  clear hb
  refine A8 ?_
  iterate 2 refine Bq ?_
  refine A9 ?_
  have H := L1 _ H
  have H := AV H
  subst H
  refine HI (.inr Aa) F Aa ?_
  have W := W.sub (M' := []) (Z' := [row v1 62 Bj x2]) (List.nil_sublist _) (List.Sublist.refl _)
  exact ⟨(), Aa, W⟩
 have H := AR (BB hb) H
 rw [hb] at F
 clear hb
 refine Av ?_
 have H := AV H
 subst H
 refine HI (.inr Aa) F Aa ?_
 exact ⟨(), Aa, W⟩
theorem TD : Has Try.prog 61 := ⟨fun args w => Al Try.func61 rfl (by decide) args w⟩
noncomputable def Au (fRec : (List (Int × Int × Int × Int)) → Int → Int → Int → Option (List (Int × Int × Int × Int))) : ((List (Int × Int × Int × Int)) × Int × Int × Int × Bool × Bool) → Option (((List (Int × Int × Int × Int)) × Int × Int × Int × Bool × Bool) ⊕ (List (Int × Int × Int × Int)))
  | (x1, x2, x3, x4, x5, x6) => (if (AB (x3 - x2)) ≤ 12 then (Bx x1 x2 x3).bind fun x7 => some (.inr x7) else (if x4 = 0 then (BS x1 x2 x3).bind fun x8 => some (.inr x8) else (if (!x5) = true then (Be x1 x2 x3).bind fun x11 => some (x11, AB (x4 - 1)) else some (x1, x4)).bind fun (x9, x10) => (BN x9 x2 x3).bind fun x12 => (if x12.2 = 2 then (Bl x9 x2 x3).bind fun x16 => some (x16, AB ((AB (x3 - 1)) - (AB (x12.1 - x2))), 1) else some (x9, x12.1, x12.2)).bind fun (x13, x14, x15) => FB (if (x5 && (x6 && decide (x15 = 1))) = true then (A0 x13 x2 x3).bind fun x18 => (if x18.1 = true then some (.inr (.inr x18.2)) else some (.inl x18.2)) else some (.inl x13)) fun x17 => (if 0 < x2 then (ix x17 (AB (x2 - 1))).bind fun x20 => (ix x17 x14).bind fun x21 => (BU x20 x21).bind fun x22 => some (!(decide (x22 < 0))) else some false).bind fun x19 => (if x19 = true then (Br x17 x2 x3 x14).bind fun x23 => some (.inl (x23.2, x23.1, x3, x10, (x5 && (x6 || true)), (bif x5 then x6 else x6))) else (BP x17 x2 x3 x14).bind fun x24 => (if (AB (x24.1 - x2)) < (AB (x3 - x24.1)) then (fRec x24.2.2 x2 x24.1 x10).bind fun x25 => some (.inl (x25, AB (x24.1 + 1), x3, x10, decide ((AB (Int.tdiv (AB (x3 - x2)) 8)) ≤ (AB (x24.1 - x2))), x24.2.1)) else (fRec x24.2.2 (AB (x24.1 + 1)) x3 x10).bind fun x26 => some (.inl (x26, x2, x24.1, x10, decide ((AB (Int.tdiv (AB (x3 - x2)) 8)) ≤ (AB (x3 - x24.1))), x24.2.1))))))
noncomputable def Bp (fRec : (List (Int × Int × Int × Int)) → Int → Int → Int → Option (List (Int × Int × Int × Int))) (p0 : List (Int × Int × Int × Int)) (p1 : Int) (p2 : Int) (p3 : Int) : Option (List (Int × Int × Int × Int)) := AG (Au fRec) (p0, p1, p2, p3, true, true)
noncomputable def AD : Nat → (List (Int × Int × Int × Int)) → Int → Int → Int → Option (List (Int × Int × Int × Int))
  | 0 => fun _ _ _ _ => none
  | n + 1 => Bp (AD n)
noncomputable def Cp (p0 : List (Int × Int × Int × Int)) (p1 : Int) (p2 : Int) (p3 : Int) : Option (List (Int × Int × Int × Int)) := N1 fun n => AD n p0 p1 p2 p3
theorem F5 (fRec : (List (Int × Int × Int × Int)) → Int → Int → Int → Option (List (Int × Int × Int × Int))) (ih : ∀ (Y : Nat → Prop) (X : List Nat) (w0 : World) (v1 : Value) (p0 : List (Int × Int × Int × Int)) (p1 : Int) (p2 : Int) (p3 : Int) (r : (List (Int × Int × Int × Int))) (H : fRec p0 p1 p2 p3 = some r) (hL : Stw ⟨Y, X, w0⟩ [] [row v1 62 Bj p0] w0), Calls Try.prog 42 #[v1, .int .i64 p1, .int .i64 p2, .int .i64 p3, .func (.func 26) #[] #[]] w0 fun e w' => ∃ x : Unit, e = .returned (.tuple #[]) ∧ Stw ⟨Y, X, w0⟩ [] [row v1 62 Bj r] w') (Y : Nat → Prop) (X : List Nat) (w0 : World) (v1 : Value) (p0 : List (Int × Int × Int × Int)) (p1 : Int) (p2 : Int) (p3 : Int) (r : (List (Int × Int × Int × Int))) (H : Bp fRec p0 p1 p2 p3 = some r) (hL : Stw ⟨Y, X, w0⟩ [] [row v1 62 Bj p0] w0) :
    Calls Try.prog 42 #[v1, .int .i64 p1, .int .i64 p2, .int .i64 p3, .func (.func 26) #[] #[]] w0 fun e w' => ∃ x : Unit, e = .returned (.tuple #[]) ∧ Stw ⟨Y, X, w0⟩ [] [row v1 62 Bj r] w' := by
 refine enter Try.func42 Aa Try.ntmps42 Aa fun a F => ?_
 have W := hL
 unfold Bp at H
 refine Ah (Ac ?_)
 refine ls F W Aa (Ag F Aa).q fun a w F W => ?_
 refine Ae (Ab (Ah (Ac ?_)))
 refine ls F W Aa (Ag F Aa).q fun a w F W => ?_
 refine Ae (Ab (As ?_))
 refine Bb H (fun s a w => Fr 148 [] [(0, v1), (1, .int .i64 s.2.1), (2, .int .i64 s.2.2.1), (3, .int .i64 s.2.2.2.1), (4, .func (.func 26) #[] #[]), (10, .bool s.2.2.2.2.1), (11, .bool s.2.2.2.2.2)] a ∧ Stw ⟨Y, X, w0⟩ [] [row v1 62 Bj s.1] w) ⟨F.re ⟨rfl, Aa, Aa, Aa, Aa, Aa, Aa, trivial⟩, W⟩ fun s o a w H L1 hR => ?_
 obtain ⟨x1, x2, x3, x4, x5, x6⟩ := s
 obtain ⟨F, W⟩ := hR
 have F : Fr 148 [] [(0, v1), (1, .int .i64 x2), (2, .int .i64 x3), (3, .int .i64 x4), (4, .func (.func 26) #[] #[]), (10, .bool x5), (11, .bool x6)] a := F
 have W : Stw ⟨Y, X, w0⟩ [] [row v1 62 Bj x1] w := W
 rw [Au] at H
 refine As (Ah (Ac ?_))
 iterate 2 refine ls F W Aa (Ad F Aa).q fun a w F W => ?_
 refine ls F W Aa (Cx F Aa Aa Aa).q fun a w F W => ?_
 refine ls F W Aa (Ag F Aa).q fun a w F W => ?_
 refine Ae (Ab (Ah (Ah (Ac ?_))))
 refine ls F W Aa (Ad F Aa).q fun a w F W => ?_
 refine ls F W Aa (Ie F Aa Aa).q fun a w F W => ?_
 refine Ae (Ab ?_)
 refine AA F Aa (fun hb => ?_) fun hb => ?_
 ·
  have H := AS (BD hb) H
  rw [hb] at F
  clear hb
  refine Ah (Ac ?_)
  iterate 4 refine ls F W Aa (Ad F Aa).q fun a w F W => ?_
  obtain ⟨x7, h1, H⟩ := Ak H
  refine B7 (Ml := []) (Zl := [row v1 62 Bj x1]) (M := []) (Z := []) (β := Unit) (rv := fun x => .tuple #[]) (MM := fun x => []) (ZZ := fun x => [row v1 62 Bj x7]) F W TG Aa Aa (fun hL => Fw _ _ w (v1) x1 x2 x3 _ h1 hL) fun x a w F W => ?_
  have W : Stw ⟨Y, X, w0⟩ [] [row v1 62 Bj x7] w := W
  refine Ae (Ab (AF (AH (AQ (AH (AQ ?_))))))
  have H := L1 _ H
  have H := AV H
  subst H
  refine HI (.inl Aa) F Aa ?_
  exact ⟨(), Aa, W⟩
 have H := AR (BB hb) H
 rw [hb] at F
 clear hb
 refine Av (Ab (Ah (Ah (Ac ?_))))
 refine ls F W Aa (Ad F Aa).q fun a w F W => ?_
 refine ls F W Aa (DP F Aa Aa).q fun a w F W => ?_
 refine Ae (Ab ?_)
 refine AA F Aa (fun hb => ?_) fun hb => ?_
 ·
  have H := AS (BD hb) H
  rw [hb] at F
  clear hb
  refine Ah (Ac ?_)
  iterate 4 refine ls F W Aa (Ad F Aa).q fun a w F W => ?_
  obtain ⟨x8, h2, H⟩ := Ak H
  refine B7 (Ml := []) (Zl := [row v1 62 Bj x1]) (M := []) (Z := []) (β := Unit) (rv := fun x => .tuple #[]) (MM := fun x => []) (ZZ := fun x => [row v1 62 Bj x8]) F W Uo Aa Aa (fun hL => Gd _ _ w (v1) x1 x2 x3 _ h2 hL) fun x a w F W => ?_
  have W : Stw ⟨Y, X, w0⟩ [] [row v1 62 Bj x8] w := W
  refine Ae (Ab (AF (AH (AQ (AH (AQ ?_))))))
  have H := L1 _ H
  have H := AV H
  subst H
  refine HI (.inl Aa) F Aa ?_
  exact ⟨(), Aa, W⟩
 have H := AR (BB hb) H
 rw [hb] at F
 clear hb
 refine Av (Ab ?_)
 obtain ⟨o2, G2, K2⟩ := Ak H
 refine AM (fun a w => ∃ x9 : List (Int × Int × Int × Int), ∃ x10 : Int, some ((x9, x10)) = some o2 ∧ Fr 148 [] [(0, v1), (1, .int .i64 x2), (2, .int .i64 x3), (3, .int .i64 x10), (4, .func (.func 26) #[] #[]), (10, .bool x5), (11, .bool x6), (12, .int .i64 (AB (x3 - x2)))] a ∧ Stw ⟨Y, X, w0⟩ [] [row v1 62 Bj x9] w) ?_ ?_
 ·
  have H := G2
  clear G2 K2
  refine Ah (Ac ?_)
  refine ls F W Aa (Ad F Aa).q fun a w F W => ?_
  refine ls F W Aa (Eb F Aa).q fun a w F W => ?_
  refine Ae (Ab ?_)
  refine AA F Aa (fun hb => ?_) fun hb => ?_
  ·
   have H := AS hb H
   rw [hb] at F
   clear hb
   refine Ah (Ac ?_)
   iterate 4 refine ls F W Aa (Ad F Aa).q fun a w F W => ?_
   obtain ⟨x11, h3, H⟩ := Ak H
   refine B7 (Ml := []) (Zl := [row v1 62 Bj x1]) (M := []) (Z := []) (β := Unit) (rv := fun x => .tuple #[]) (MM := fun x => []) (ZZ := fun x => [row v1 62 Bj x11]) F W TD Aa Aa (fun hL => Fn _ _ w (v1) x1 x2 x3 _ h3 hL) fun x a w F W => ?_
   have W : Stw ⟨Y, X, w0⟩ [] [row v1 62 Bj x11] w := W
   refine Ae (Ab (Ac ?_))
   refine ls F W Aa (Ad F Aa).q fun a w F W => ?_
   refine ls F W Aa (Cx F Aa Aa Aa).q fun a w F W => ?_
   refine ls F W Aa (Ag F Aa).q fun a w F W => ?_
   refine Ae (Ab ?_)
   exact ⟨_, _, H, F.re ⟨rfl, Aa, Aa, Aa, Aa, Aa, Aa, Aa, trivial⟩, W⟩
  have H := AR (by rw [hb]; decide) H
  rw [hb] at F
  clear hb
  refine Av (Ab ?_)
  exact ⟨_, _, H, F.re ⟨rfl, Aa, Aa, Aa, Aa, Aa, Aa, Aa, trivial⟩, W⟩
 rintro a w ⟨x9, x10, hj, F, W⟩
 have hj := AV hj
 subst hj
 have H := K2
 clear G2 K2
 refine Ah (Ac ?_)
 iterate 4 refine ls F W Aa (Ad F Aa).q fun a w F W => ?_
 obtain ⟨x12, h4, H⟩ := Ak H
 refine ls F W Aa (BX (v := Value.tuple #[.int .i64 x12.1, .int .i64 x12.2]) F T5 Aa (fun w W => FQ any w (v1) x9 x2 x3 _ h4 (((An 0 Aa) : D4 _ _ _ _ _ _) w W).nx)) fun a w F W => ?_
 refine ls F W Aa (Ad F Aa).q fun a w F W => ?_
 refine ls F W Aa (Bi (v := Value.int .i64 x12.1) F Aa Aa).q fun a w F W => ?_
 refine ls F W Aa (Bi (v := Value.int .i64 x12.2) F Aa Aa).q fun a w F W => ?_
 iterate 2 refine ls F W Aa (Ag F Aa).q fun a w F W => ?_
 refine Ae (Ab ?_)
 obtain ⟨o3, G3, K3⟩ := Ak H
 refine AM (fun a w => ∃ x13 : List (Int × Int × Int × Int), ∃ x14 : Int, ∃ x15 : Int, some ((x13, x14, x15)) = some o3 ∧ Fr 148 [] [(0, v1), (1, .int .i64 x2), (2, .int .i64 x3), (3, .int .i64 x10), (4, .func (.func 26) #[] #[]), (10, .bool x5), (11, .bool x6), (12, .int .i64 (AB (x3 - x2))), (13, .int .i64 x14), (14, .int .i64 x15)] a ∧ Stw ⟨Y, X, w0⟩ [] [row v1 62 Bj x13] w) ?_ ?_
 ·
  have H := G3
  clear G3 K3
  refine Ah (Ac ?_)
  refine ls F W Aa (Ad F Aa).q fun a w F W => ?_
  refine ls F W Aa (DP F Aa Aa).q fun a w F W => ?_
  refine Ae (Ab ?_)
  refine AA F Aa (fun hb => ?_) fun hb => ?_
  ·
   have H := AS (BD hb) H
   rw [hb] at F
   clear hb
   refine Ah (Ac ?_)
   iterate 4 refine ls F W Aa (Ad F Aa).q fun a w F W => ?_
   obtain ⟨x16, h5, H⟩ := Ak H
   refine B7 (Ml := []) (Zl := [row v1 62 Bj x9]) (M := []) (Z := []) (β := Unit) (rv := fun x => .tuple #[]) (MM := fun x => []) (ZZ := fun x => [row v1 62 Bj x16]) F W TX Aa Aa (fun hL => FC _ _ w (v1) x9 x2 x3 _ h5 hL) fun x a w F W => ?_
   have W : Stw ⟨Y, X, w0⟩ [] [row v1 62 Bj x16] w := W
   refine Ae (Ab (Ah (Ac ?_)))
   refine ls F W Aa (Ad F Aa).q fun a w F W => ?_
   refine ls F W Aa (Cx F Aa Aa Aa).q fun a w F W => ?_
   iterate 2 refine ls F W Aa (Ad F Aa).q fun a w F W => ?_
   iterate 2 refine ls F W Aa (Cx F Aa Aa Aa).q fun a w F W => ?_
   refine ls F W Aa (Ag F Aa).q fun a w F W => ?_
   refine Ae (Ab (Ac ?_))
   refine ls F W Aa (Ag F Aa).q fun a w F W => ?_
   refine Ae (Ab ?_)
   exact ⟨_, _, _, H, F.re ⟨rfl, Aa, Aa, Aa, Aa, Aa, Aa, Aa, Aa, Aa, trivial⟩, W⟩
  have H := AR (BB hb) H
  rw [hb] at F
  clear hb
  refine Av (Ab ?_)
  exact ⟨_, _, _, H, F.re ⟨rfl, Aa, Aa, Aa, Aa, Aa, Aa, Aa, Aa, Aa, trivial⟩, W⟩
 rintro a w ⟨x13, x14, x15, hj, F, W⟩
 have hj := AV hj
 subst hj
 have H := K3
 clear G3 K3
 obtain ⟨o4, G4, K4, L4⟩ := Jx H
 refine AM (fun a w => ∃ x17 : List (Int × Int × Int × Int), some (Sum.inl x17) = some o4 ∧ Fr 148 [] [(0, v1), (1, .int .i64 x2), (2, .int .i64 x3), (3, .int .i64 x10), (4, .func (.func 26) #[] #[]), (10, .bool (x5 && (x6 || true))), (11, .bool (bif x5 then x6 else x6)), (12, .int .i64 (AB (x3 - x2))), (13, .int .i64 x14)] a ∧ Stw ⟨Y, X, w0⟩ [] [row v1 62 Bj x17] w) ?_ ?_
 ·
  have H := G4
  clear G4 K4
  refine AM (fun a w => Fr 148 [] [(0, v1), (1, .int .i64 x2), (2, .int .i64 x3), (3, .int .i64 x10), (4, .func (.func 26) #[] #[]), (10, .bool (x5 && (x6 || true))), (11, .bool (bif x5 then x6 else x6)), (12, .int .i64 (AB (x3 - x2))), (13, .int .i64 x14), (75, .bool (x5 && (x6 && decide (x15 = 1))))] a ∧ Stw ⟨Y, X, w0⟩ [] [row v1 62 Bj x13] w) ?_ ?_
  ·
   refine Ac ?_
   iterate 2 refine ls F W Aa (Ad F Aa).q fun a w F W => ?_
   rcases Bool.eq_false_or_eq_true x5 with hb0 | hb0
   ·
    rw [hb0] at F
    refine AJ F W (Af F Aa Aa Aa Aa) Aa (Ai Aa) (Ad F Aa).q fun a w F W => ?_
    refine ls F W Aa (Aq F Aa Aa Aa).q fun a w F W => ?_
    refine ls F W Aa (Ad F Aa).q fun a w F W => ?_
    rcases Bool.eq_false_or_eq_true x6 with hb1 | hb1
    ·
     rw [hb1] at F
     refine AJ F W (Af F Aa Aa Aa Aa) Aa (Ai Aa) (Ad F Aa).q fun a w F W => ?_
     refine AJ F W (Af F Aa Aa Aa Aa) Aa (Ai Aa) (DP F Aa Aa).q fun a w F W => ?_
     refine ls F W Aa (Aq F Aa Aa Aa).q fun a w F W => ?_
     refine Ae (Ab ?_)
     exact ⟨F.re ⟨rfl, Aa, Aa, Aa, Aa, (by show some (Value.bool true) = some (Value.bool (x5 && (x6 || true))); try rw [hb0]; try rw [hb1]; all_goals simp only [Bool.not_true, Bool.not_false, Bool.true_and, Bool.false_and, Bool.true_or, Bool.false_or, Bool.and_true, Bool.or_false, cond_true, cond_false]), (by show some (Value.bool true) = some (Value.bool (bif x5 then x6 else x6)); try rw [hb0]; try rw [hb1]; all_goals simp only [Bool.not_true, Bool.not_false, Bool.true_and, Bool.false_and, Bool.true_or, Bool.false_or, Bool.and_true, Bool.or_false, cond_true, cond_false]), Aa, Aa, (by show some (Value.bool (decide (x15 = 1))) = some (Value.bool (x5 && (x6 && decide (x15 = 1)))); try rw [hb0]; try rw [hb1]; all_goals simp only [Bool.not_true, Bool.not_false, Bool.true_and, Bool.false_and, Bool.true_or, Bool.false_or, Bool.and_true, Bool.or_false, cond_true, cond_false]), trivial⟩, W⟩
    rw [hb1] at F
    iterate 2 refine Dd F Aa Aa Aa Aa Aa Aa Aa fun a F => ?_
    refine ls F W Aa (Az F Aa Aa Aa).q fun a w F W => ?_
    refine Ae (Ab ?_)
    exact ⟨F.re ⟨rfl, Aa, Aa, Aa, Aa, (by show some (Value.bool true) = some (Value.bool (x5 && (x6 || true))); try rw [hb0]; try rw [hb1]; all_goals simp only [Bool.not_true, Bool.not_false, Bool.true_and, Bool.false_and, Bool.true_or, Bool.false_or, Bool.and_true, Bool.or_false, cond_true, cond_false]), (by show some (Value.bool false) = some (Value.bool (bif x5 then x6 else x6)); try rw [hb0]; try rw [hb1]; all_goals simp only [Bool.not_true, Bool.not_false, Bool.true_and, Bool.false_and, Bool.true_or, Bool.false_or, Bool.and_true, Bool.or_false, cond_true, cond_false]), Aa, Aa, (by show some (Value.bool false) = some (Value.bool (x5 && (x6 && decide (x15 = 1)))); try rw [hb0]; try rw [hb1]; all_goals simp only [Bool.not_true, Bool.not_false, Bool.true_and, Bool.false_and, Bool.true_or, Bool.false_or, Bool.and_true, Bool.or_false, cond_true, cond_false]), trivial⟩, W⟩
   rw [hb0] at F
   refine Dd F Aa Aa Aa Aa Aa Aa Aa fun a F => ?_
   refine ls F W Aa (Az F Aa Aa Aa).q fun a w F W => ?_
   refine ls F W Aa (Ad F Aa).q fun a w F W => ?_
   iterate 2 refine Dd F Aa Aa Aa Aa Aa Aa Aa fun a F => ?_
   refine ls F W Aa (Az F Aa Aa Aa).q fun a w F W => ?_
   refine Ae (Ab ?_)
   exact ⟨F.re ⟨rfl, Aa, Aa, Aa, Aa, (by show some (Value.bool false) = some (Value.bool (x5 && (x6 || true))); try rw [hb0]; all_goals simp only [Bool.not_true, Bool.not_false, Bool.true_and, Bool.false_and, Bool.true_or, Bool.false_or, Bool.and_true, Bool.or_false, cond_true, cond_false]), (by show some (Value.bool x6) = some (Value.bool (bif x5 then x6 else x6)); try rw [hb0]; all_goals simp only [Bool.not_true, Bool.not_false, Bool.true_and, Bool.false_and, Bool.true_or, Bool.false_or, Bool.and_true, Bool.or_false, cond_true, cond_false]), Aa, Aa, (by show some (Value.bool false) = some (Value.bool (x5 && (x6 && decide (x15 = 1)))); try rw [hb0]; all_goals simp only [Bool.not_true, Bool.not_false, Bool.true_and, Bool.false_and, Bool.true_or, Bool.false_or, Bool.and_true, Bool.or_false, cond_true, cond_false]), trivial⟩, W⟩
  rintro a w ⟨F, W⟩
  refine AA F Aa (fun hb => ?_) fun hb => ?_
  ·
   have H := AS hb H
   rw [hb] at F
   clear hb
   refine Ah (Ac ?_)
   iterate 4 refine ls F W Aa (Ad F Aa).q fun a w F W => ?_
   obtain ⟨x18, h6, H⟩ := Ak H
   refine B7 (Ml := []) (Zl := [row v1 62 Bj x13]) (M := []) (Z := []) (β := Unit) (rv := fun x => .bool x18.1) (MM := fun x => []) (ZZ := fun x => [row v1 62 Bj x18.2]) F W TT Aa Aa (fun hL => EE _ _ w (v1) x13 x2 x3 _ h6 hL) fun x a w F W => ?_
   have W : Stw ⟨Y, X, w0⟩ [] [row v1 62 Bj x18.2] w := W
   refine Ae (Ab ?_)
   refine AA F Aa (fun hb => ?_) fun hb => ?_
   ·
    have H := AS hb H
    rw [hb] at F
    clear hb
    refine AF (AH (AQ (AH (AQ ?_))))
    have H := L4 _ H
    have H := L1 _ H
    have H := AV H
    subst H
    refine HI (.inl Aa) F Aa ?_
    exact ⟨(), Aa, W⟩
   have H := AR (by rw [hb]; decide) H
   rw [hb] at F
   clear hb
   refine Av (Ab ?_)
   exact ⟨_, H, F.re ⟨rfl, Aa, Aa, Aa, Aa, Aa, Aa, Aa, Aa, trivial⟩, W⟩
  have H := AR (by rw [hb]; decide) H
  rw [hb] at F
  clear hb
  refine Av (Ab ?_)
  exact ⟨_, H, F.re ⟨rfl, Aa, Aa, Aa, Aa, Aa, Aa, Aa, Aa, trivial⟩, W⟩
 rintro a w ⟨x17, hj, F, W⟩
 have H := K4 _ hj
 clear hj G4 K4 L4
 refine Ah ?_
 obtain ⟨o5, G5, K5⟩ := Ak H
 refine AM (fun a w => ∃ x19 : Bool, some (x19) = some o5 ∧ Fr 148 [] [(0, v1), (1, .int .i64 x2), (2, .int .i64 x3), (3, .int .i64 x10), (4, .func (.func 26) #[] #[]), (10, .bool (x5 && (x6 || true))), (11, .bool (bif x5 then x6 else x6)), (12, .int .i64 (AB (x3 - x2))), (13, .int .i64 x14), (97, .bool x19)] a ∧ Stw ⟨Y, X, w0⟩ [] [row v1 62 Bj x17] w) ?_ ?_
 ·
  have H := G5
  clear G5 K5
  refine BV W MO (by kernel_rfl) ?_
  refine qs F Aa (Ad F Aa).q fun a F => ?_
  refine qs F Aa (Ga F Aa Aa).q fun a F => ?_
  refine qs F Aa (Ad F Aa).q fun a F => ?_
  rcases Bool.eq_false_or_eq_true (decide (0 < x2)) with hb | hb
  ·
   have H := AS (BD hb) H
   rw [hb] at F
   clear hb
   iterate 3 refine Bc F (Af F Aa Aa Aa Aa) Aa (Ai Aa) (Ad F Aa).q fun a F => ?_
   refine Bc F (Af F Aa Aa Aa Aa) Aa (Ai Aa) (Cx F Aa Aa Aa).q fun a F => ?_
   obtain ⟨x20, h7, H⟩ := Ak H
   refine Bc F (Af F Aa Aa Aa Aa) Aa (Ai Aa) (Ax (r := Bj) Ew F Aa Aa (An 0 Aa) h7).q fun a F => ?_
   refine Bc F (Af F Aa Aa Aa Aa) Aa (Ai Aa) (Ao (y := Value.agg #[.int .i64 x20.1, .int .i64 x20.2.1, .int .i64 x20.2.2.1, .int .i64 x20.2.2.2]) (j := 0) (i := AB (x2 - 1)) F Aa Aa (An 0 Aa) h7 Ez.to Eh Aa).q fun a F => ?_
   iterate 2 refine Bc F (Af F Aa Aa Aa Aa) Aa (Ai Aa) (Ad F Aa).q fun a F => ?_
   obtain ⟨x21, h8, H⟩ := Ak H
   refine Bc F (Af F Aa Aa Aa Aa) Aa (Ai Aa) (Ax (r := Bj) Ew F Aa Aa (An 0 Aa) h8).q fun a F => ?_
   refine Bc F (Af F Aa Aa Aa Aa) Aa (Ai Aa) (Ao (y := Value.agg #[.int .i64 x21.1, .int .i64 x21.2.1, .int .i64 x21.2.2.1, .int .i64 x21.2.2.2]) (j := 0) (i := x14) F Aa Aa (An 0 Aa) h8 Ez.to Eh Aa).q fun a F => ?_
   obtain ⟨x22, h9, H⟩ := Ak H
   refine Bc F (Af F Aa Aa Aa Aa) Aa (Ai Aa) (EU (ws := [.agg #[.int .i64 x20.1, .int .i64 x20.2.1, .int .i64 x20.2.2.1, .int .i64 x20.2.2.2], .agg #[.int .i64 x21.1, .int .i64 x21.2.1, .int .i64 x21.2.2.1, .int .i64 x21.2.2.2]]) (v := Value.int .i64 x22) F OC Aa (fun w W => Cg any w x20 x21 _ h9)) fun a F => ?_
   refine Bc F (Af F Aa Aa Aa Aa) Aa (Ai Aa) (Bu F Aa Aa).q fun a F => ?_
   refine Bc F (Af F Aa Aa Aa Aa) Aa (Ai Aa) (Eb F Aa).q fun a F => ?_
   refine qs F Aa (Aq F Aa Aa Aa).q fun a F => ?_
   refine AY fun w W => ?_
   refine Ab ?_
   exact ⟨_, H, F.re ⟨rfl, Aa, Aa, Aa, Aa, Aa, Aa, Aa, Aa, Aa, trivial⟩, W⟩
  have H := AR (BB hb) H
  rw [hb] at F
  clear hb
  iterate 13 refine Ds F (CM F Aa Aa Aa Aa Aa) Aa Aa fun a F => ?_
  refine qs F Aa (Az F Aa Aa Aa).q fun a F => ?_
  refine AY fun w W => ?_
  refine Ab ?_
  exact ⟨_, H, F.re ⟨rfl, Aa, Aa, Aa, Aa, Aa, Aa, Aa, Aa, Aa, trivial⟩, W⟩
 rintro a w ⟨x19, hj, F, W⟩
 have hj := AV hj
 subst hj
 have H := K5
 clear G5 K5
 refine AA F Aa (fun hb => ?_) fun hb => ?_
 ·
  have H := AS hb H
  rw [hb] at F
  clear hb
  refine Ah (Ac ?_)
  iterate 5 refine ls F W Aa (Ad F Aa).q fun a w F W => ?_
  obtain ⟨x23, h10, H⟩ := Ak H
  refine B7 (Ml := []) (Zl := [row v1 62 Bj x17]) (M := []) (Z := []) (β := Unit) (rv := fun x => .int .i64 x23.1) (MM := fun x => []) (ZZ := fun x => [row v1 62 Bj x23.2]) F W Uk Aa Aa (fun hL => Fk _ _ w (v1) x17 x2 x3 x14 _ h10 hL) fun x a w F W => ?_
  have W : Stw ⟨Y, X, w0⟩ [] [row v1 62 Bj x23.2] w := W
  refine ls F W Aa (Ag F Aa).q fun a w F W => ?_
  refine Ae (Ab (Ah (Ac ?_)))
  refine ls F W Aa (Ad F Aa).q fun a w F W => ?_
  refine ls F W Aa (Ag F Aa).q fun a w F W => ?_
  refine Ae (Ab (A8 (Bq (A9 (Ab ?_)))))
  exact ⟨_, H, F.re ⟨rfl, Aa, Aa, Aa, Aa, Aa, Aa, trivial⟩, W⟩
 have H := AR (by rw [hb]; decide) H
 rw [hb] at F
 clear hb
 refine Av (Ab (Ah (Ac ?_)))
 iterate 5 refine ls F W Aa (Ad F Aa).q fun a w F W => ?_
 obtain ⟨x24, h11, H⟩ := Ak H
 refine B7 (Ml := []) (Zl := [row v1 62 Bj x17]) (M := []) (Z := []) (β := Unit) (rv := fun x => .tuple #[.int .i64 x24.1, .bool x24.2.1]) (MM := fun x => []) (ZZ := fun x => [row v1 62 Bj x24.2.2]) F W Ur Aa Aa (fun hL => F7 _ _ w (v1) x17 x2 x3 x14 _ h11 hL) fun x a w F W => ?_
 have W : Stw ⟨Y, X, w0⟩ [] [row v1 62 Bj x24.2.2] w := W
 refine ls F W Aa (Ad F Aa).q fun a w F W => ?_
 refine ls F W Aa (Bi (v := Value.int .i64 x24.1) F Aa Aa).q fun a w F W => ?_
 refine ls F W Aa (Bi (v := Value.bool x24.2.1) F Aa Aa).q fun a w F W => ?_
 iterate 2 refine ls F W Aa (Ag F Aa).q fun a w F W => ?_
 refine Ae (Ab (Ah (Ac ?_)))
 refine ls F W Aa (Ad F Aa).q fun a w F W => ?_
 refine ls F W Aa (Ag F Aa).q fun a w F W => ?_
 refine Ae (Ab (Ah (Ac ?_)))
 iterate 2 refine ls F W Aa (Ad F Aa).q fun a w F W => ?_
 refine ls F W Aa (Cx F Aa Aa Aa).q fun a w F W => ?_
 iterate 2 refine ls F W Aa (Ad F Aa).q fun a w F W => ?_
 refine ls F W Aa (Cx F Aa Aa Aa).q fun a w F W => ?_
 iterate 2 refine ls F W Aa (Ag F Aa).q fun a w F W => ?_
 refine Ae (Ab (Ah (Ac ?_)))
 refine ls F W Aa (Ad F Aa).q fun a w F W => ?_
 refine ls F W Aa (Ls F Aa Aa (by decide) Aa).q fun a w F W => ?_
 refine ls F W Aa (Ag F Aa).q fun a w F W => ?_
 refine Ae (Ab (Ah (Ac ?_)))
 iterate 2 refine ls F W Aa (Ad F Aa).q fun a w F W => ?_
 refine ls F W Aa (Bu F Aa Aa).q fun a w F W => ?_
 refine Ae (Ab ?_)
 refine AA F Aa (fun hb => ?_) fun hb => ?_
 ·
  have H := AS (BD hb) H
  rw [hb] at F
  clear hb
  refine Ah (Ac ?_)
  iterate 2 refine ls F W Aa (Ad F Aa).q fun a w F W => ?_
  refine ls F W Aa (DH F Aa Aa).q fun a w F W => ?_
  refine ls F W Aa (Ag F Aa).q fun a w F W => ?_
  refine Ae (Ab (Ah (Ac ?_)))
  iterate 5 refine ls F W Aa (Ad F Aa).q fun a w F W => ?_
  obtain ⟨x25, h12, H⟩ := Ak H
  refine B7 (Ml := []) (Zl := [row v1 62 Bj x24.2.2]) (M := []) (Z := []) (β := Unit) (rv := fun x => .tuple #[]) (MM := fun x => []) (ZZ := fun x => [row v1 62 Bj x25]) F W SN Aa Aa (fun hL => ih _ _ w (v1) x24.2.2 x2 x24.1 x10 _ h12 hL) fun x a w F W => ?_
  have W : Stw ⟨Y, X, w0⟩ [] [row v1 62 Bj x25] w := W
  refine Ae (Ab (Ac ?_))
  refine ls F W Aa (Ad F Aa).q fun a w F W => ?_
  refine ls F W Aa (BC F Aa Aa Aa).q fun a w F W => ?_
  refine ls F W Aa (Ag F Aa).q fun a w F W => ?_
  refine Ae (AP (Ab ?_))
  exact ⟨_, H, F.re ⟨rfl, Aa, Aa, Aa, Aa, Aa, Aa, trivial⟩, W⟩
 have H := AR (BB hb) H
 rw [hb] at F
 clear hb
 refine Ah (Ac ?_)
 iterate 2 refine ls F W Aa (Ad F Aa).q fun a w F W => ?_
 refine ls F W Aa (DH F Aa Aa).q fun a w F W => ?_
 refine ls F W Aa (Ag F Aa).q fun a w F W => ?_
 refine Ae (Ab (Ah (Ac ?_)))
 iterate 2 refine ls F W Aa (Ad F Aa).q fun a w F W => ?_
 refine ls F W Aa (BC F Aa Aa Aa).q fun a w F W => ?_
 iterate 3 refine ls F W Aa (Ad F Aa).q fun a w F W => ?_
 obtain ⟨x26, h13, H⟩ := Ak H
 refine B7 (Ml := []) (Zl := [row v1 62 Bj x24.2.2]) (M := []) (Z := []) (β := Unit) (rv := fun x => .tuple #[]) (MM := fun x => []) (ZZ := fun x => [row v1 62 Bj x26]) F W SN Aa Aa (fun hL => ih _ _ w (v1) x24.2.2 (AB (x24.1 + 1)) x3 x10 _ h13 hL) fun x a w F W => ?_
 have W : Stw ⟨Y, X, w0⟩ [] [row v1 62 Bj x26] w := W
 refine Ae (Ab (Ac ?_))
 refine ls F W Aa (Ad F Aa).q fun a w F W => ?_
 refine ls F W Aa (Ag F Aa).q fun a w F W => ?_
 refine Ae (AP (Ab ?_))
 exact ⟨_, H, F.re ⟨rfl, Aa, Aa, Aa, Aa, Aa, Aa, trivial⟩, W⟩
theorem Gb : ∀ (n : Nat) (Y : Nat → Prop) (X : List Nat) (w0 : World) (v1 : Value) (p0 : List (Int × Int × Int × Int)) (p1 : Int) (p2 : Int) (p3 : Int) (r : (List (Int × Int × Int × Int))) (H : AD n p0 p1 p2 p3 = some r) (hL : Stw ⟨Y, X, w0⟩ [] [row v1 62 Bj p0] w0), Calls Try.prog 42 #[v1, .int .i64 p1, .int .i64 p2, .int .i64 p3, .func (.func 26) #[] #[]] w0 fun e w' => ∃ x : Unit, e = .returned (.tuple #[]) ∧ Stw ⟨Y, X, w0⟩ [] [row v1 62 Bj r] w' := by
  intro n
  induction n with
  | zero => intro Y X w0 v1 p0 p1 p2 p3 r H; exact nomatch H
  | succ n ih => intro Y X w0 v1 p0 p1 p2 p3 r H hL; exact F5 (AD n) ih Y X w0 v1 p0 p1 p2 p3 r H hL
theorem Gn (Y : Nat → Prop) (X : List Nat) (w0 : World) (v1 : Value) (p0 : List (Int × Int × Int × Int)) (p1 : Int) (p2 : Int) (p3 : Int) (r : (List (Int × Int × Int × Int))) (H : Cp p0 p1 p2 p3 = some r) (hL : Stw ⟨Y, X, w0⟩ [] [row v1 62 Bj p0] w0) :
    Calls Try.prog 42 #[v1, .int .i64 p1, .int .i64 p2, .int .i64 p3, .func (.func 26) #[] #[]] w0 fun e w' => ∃ x : Unit, e = .returned (.tuple #[]) ∧ Stw ⟨Y, X, w0⟩ [] [row v1 62 Bj r] w' := by
  obtain ⟨n, H⟩ := OZ H
  exact Gb n Y X w0 v1 p0 p1 p2 p3 r H hL
noncomputable def BE (p0 : List (Int × Int × Int × Int)) : Option (List (Int × Int × Int × Int)) := (Dx (IntKind.u64.wrap (p0.length : Int))).bind fun x1 => (Cp p0 0 (p0.length : Int) x1).bind fun x2 => some x2
theorem FF (Y : Nat → Prop) (X : List Nat) (w0 : World) (v1 : Value) (p0 : List (Int × Int × Int × Int)) (r : (List (Int × Int × Int × Int))) (H : BE p0 = some r) (hL : Stw ⟨Y, X, w0⟩ [] [row v1 62 Bj p0] w0) :
    Calls Try.prog 25 #[v1, .func (.func 26) #[] #[]] w0 fun e w' => ∃ x : Unit, e = .returned (.tuple #[]) ∧ Stw ⟨Y, X, w0⟩ [] [row v1 62 Bj r] w' := by
 refine enter Try.func25 Aa Try.ntmps25 Aa fun a F => ?_
 have W := hL
 unfold BE at H
 refine Ah (Ac ?_)
 refine ls F W Aa (Ad F Aa).q fun a w F W => ?_
 refine ls F W Aa (B0 (r := Bj) (l := p0) Pa Aa F Aa (An 0 Aa)).q fun a w F W => ?_
 refine ls F W Aa (Ag F Aa).q fun a w F W => ?_
 refine Ae (Ab (Ac ?_))
 iterate 3 refine ls F W Aa (Ad F Aa).q fun a w F W => ?_
 refine ls F W Aa (IU NV Q6 F Aa).q fun a w F W => ?_
 obtain ⟨x1, h1, H⟩ := Ak H
 refine ls F W Aa (BX (v := Value.int .i64 x1) F SZ Aa (fun w W => HH any w (IntKind.u64.wrap (p0.length : Int)) _ h1)) fun a w F W => ?_
 refine ls F W Aa (Ad F Aa).q fun a w F W => ?_
 obtain ⟨x2, h2, H⟩ := Ak H
 refine B7 (Ml := []) (Zl := [row v1 62 Bj p0]) (M := []) (Z := []) (β := Unit) (rv := fun x => .tuple #[]) (MM := fun x => []) (ZZ := fun x => [row v1 62 Bj x2]) F W SN Aa Aa (fun hL => Gn _ _ w (v1) p0 0 (p0.length : Int) x1 _ h2 hL) fun x a w F W => ?_
 have W : Stw ⟨Y, X, w0⟩ [] [row v1 62 Bj x2] w := W
 refine Ae ?_
 have H := AV H
 subst H
 refine HI (.inr Aa) F Aa ?_
 exact ⟨(), Aa, W⟩
theorem TU : Has Try.prog 25 := ⟨fun args w => Al Try.func25 rfl (by decide) args w⟩
noncomputable def C4 (p1 : List (List Int)) (p2 : List (List Int)) (x6 : Int) (x8 : List Int) : ((List (Int × Int × Int × Int)) × Int) → Option (((List (Int × Int × Int × Int)) × Int) ⊕ (List (Int × Int × Int × Int)))
  | (x9, x10) => (if x10 < (x8.length : Int) then ((ix x8 x10).bind fun x12 => (ix p2 x10).bind fun x13 => (ix x13 x6).bind fun x14 => (ix p1 x10).bind fun x15 => (ix x15 x6).bind fun x16 => (if x14 ≠ x16 then (Ld x9 ([(x10, x6, x14, x12)] : List (Int × Int × Int × Int))).bind fun x17 => some x17 else some x9)).bind fun x11 => some (.inl (x11, AB (x10 + 1))) else some (.inr x9))
noncomputable def DA (p0 : Int × (List (Int × Int × Int × Int × Int × Int)) × (List (Int × Int))) (p1 : List (List Int)) (p2 : List (List Int)) : ((List (Int × Int × Int × Int)) × Int) → Option (((List (Int × Int × Int × Int)) × Int) ⊕ (List (Int × Int × Int × Int)))
  | (x5, x6) => (if x6 < (p0.2.2.length : Int) then ((GW p0 p2 x6).bind fun x8 => AG (C4 p1 p2 x6 x8) (x5, 0)).bind fun x7 => some (.inl (x7, AB (x6 + 1))) else some (.inr x5))
noncomputable def E8 (p0 : Int × (List (Int × Int × Int × Int × Int × Int)) × (List (Int × Int))) (p1 : List (List Int)) (p2 : List (List Int)) : Option ((List (Int × Int × Int × Int)) × Int) := ((FJ p0 p1).bind fun x2 => (if (!x2) = true then some true else (FJ p0 p2).bind fun x3 => some (!x3))).bind fun x1 => (if x1 = true then some (([] : List (Int × Int × Int × Int)), 2) else (AG (DA p0 p1 p2) ([], 0)).bind fun x4 => (BE x4).bind fun x18 => some (x18, 0))
theorem JI (Y : Nat → Prop) (w0 : World) (v1 : Value) (v2 : Value) (v3 : Value) (v4 : Value) (p0 : Int × (List (Int × Int × Int × Int × Int × Int)) × (List (Int × Int))) (p1 : List (List Int)) (p2 : List (List Int)) (r : (List (Int × Int × Int × Int)) × Int) (H : E8 p0 p1 p2 = some r) (h_v1 : Sl w0 (NX []) Hu v1 p0.2.1) (h_v2 : Sl w0 (NX []) Gz v2 p0.2.2) (h_v3 : Sl w0 (NX []) (Rp.slice (Rp.int .i64)) v3 p1) (h_v4 : Sl w0 (NX []) (Rp.slice (Rp.int .i64)) v4 p2) :
    Calls Try.prog 10 #[.agg #[.int .i64 p0.1, v1, v2], v3, v4] w0 fun e w' => ∃ x : Value, e = .returned (.tuple #[x, .int .i64 r.2]) ∧ Stw ⟨Y, [], w0⟩ [] [row (x) 62 Bj r.1] w' := by
 refine enter Try.func10 Aa Try.ntmps10 Aa fun a F => ?_
 have W := Stw.start Y w0
 obtain ⟨v5, h1, h_v3⟩ := h_v3.ex Do
 obtain ⟨v6, h2, h_v4⟩ := h_v4.ex Do
 unfold E8 at H
 refine Ah (Ac ?_)
 refine E5 (cs := [.int .i64 p0.1, v1, v2]) F W Aa Aa Aa fun b1 a w F W => ?_
 iterate 2 refine ls F W Aa (Ag F Aa).q fun a w F W => ?_
 refine Ae (Ab (Ah ?_))
 obtain ⟨o1, G1, K1⟩ := Ak H
 refine AM (fun a w => ∃ x1 : Bool, some (x1) = some o1 ∧ Fr 68 [] [(1, v3), (2, v4), (3, .pointer (some ⟨b1, 0, none⟩)), (6, .slice none 0 0), (7, .int .i64 0), (22, .bool x1)] a ∧ Stw ⟨Y, [], w0⟩ [(b1, [.int .i64 p0.1, v1, v2])] [] w) ?_ ?_
 ·
  have H := G1
  clear G1 K1
  refine Ac ?_
  refine ls F W Aa (Aw (v := Value.agg #[.int .i64 p0.1, v1, v2]) 0 F Aa Aa JE Aa).q fun a w F W => ?_
  refine ls F W Aa (Ad F Aa).q fun a w F W => ?_
  obtain ⟨x2, h3, H⟩ := Ak H
  refine ls F W Aa (BX (v := Value.bool x2) F S7 Aa (fun w W => Ke any w (v1) (v2) (v3) p0 p1 _ h3 (((Am h_v1) : D4 _ _ _ _ _ _) w W).nx (((Am h_v2) : D4 _ _ _ _ _ _) w W).nx (((B8 Do h1 (Am h_v3)) : D4 _ _ _ _ _ _) w W).nx)) fun a w F W => ?_
  refine ls F W Aa (Eb F Aa).q fun a w F W => ?_
  refine ls F W Aa (Ad F Aa).q fun a w F W => ?_
  rcases Bool.eq_false_or_eq_true (!x2) with hb | hb
  ·
   have H := AS hb H
   rw [hb] at F
   clear hb
   iterate 4 refine Dd F Aa Aa Aa Aa Aa Aa Aa fun a F => ?_
   refine ls F W Aa (Aq F Aa Aa Aa).q fun a w F W => ?_
   refine Ae (Ab ?_)
   exact ⟨_, H, F.re ⟨rfl, Aa, Aa, Aa, Aa, Aa, trivial⟩, W⟩
  have H := AR (by rw [hb]; decide) H
  rw [hb] at F
  clear hb
  refine AJ F W (Af F Aa Aa Aa Aa) Aa (Ai Aa) (Aw (v := Value.agg #[.int .i64 p0.1, v1, v2]) 0 F Aa Aa JE Aa).q fun a w F W => ?_
  refine AJ F W (Af F Aa Aa Aa Aa) Aa (Ai Aa) (Ad F Aa).q fun a w F W => ?_
  refine Kr (Af F Aa Aa Aa Aa) ?_
  obtain ⟨x3, h4, H⟩ := Ak H
  refine ls F W Aa (BX (v := Value.bool x3) F S7 Aa (fun w W => Ke any w (v1) (v2) (v4) p0 p2 _ h4 (((Am h_v1) : D4 _ _ _ _ _ _) w W).nx (((Am h_v2) : D4 _ _ _ _ _ _) w W).nx (((B8 Do h2 (Am h_v4)) : D4 _ _ _ _ _ _) w W).nx)) fun a w F W => ?_
  refine AJ F W (Af F Aa Aa Aa Aa) Aa (Ai Aa) (Eb F Aa).q fun a w F W => ?_
  refine ls F W Aa (Az F Aa Aa Aa).q fun a w F W => ?_
  refine Ae (Ab ?_)
  exact ⟨_, H, F.re ⟨rfl, Aa, Aa, Aa, Aa, Aa, trivial⟩, W⟩
 rintro a w ⟨x1, hj, F, W⟩
 have hj := AV hj
 subst hj
 have H := K1
 clear G1 K1
 refine AA F Aa (fun hb => ?_) fun hb => ?_
 ·
  have H := AS hb H
  rw [hb] at F
  clear hb
  refine Ah (Ac ?_)
  iterate 2 refine ls F W Aa (Ag F Aa).q fun a w F W => ?_
  refine Ae (Ab (AF (AH ?_)))
  have H := AV H
  subst H
  refine EO (.inl Aa) F W Aa (Ay F Aa) (Ay F Aa) ?_
  have W := W.nilRow 62 Bj
  have W := W.sub (M' := []) (Z' := [row (Value.slice none 0 0) 62 Bj ([])]) (List.nil_sublist _) (List.Sublist.refl _)
  exact ⟨(Value.slice none 0 0), Aa, W⟩
 have H := AR (by rw [hb]; decide) H
 rw [hb] at F
 clear hb
 refine Av (Ab (Ah (Ac ?_)))
 refine ls F W Aa (Ag F Aa).q fun a w F W => ?_
 refine Ae (Ab ?_)
 obtain ⟨o2, G2, K2⟩ := Ak H
 refine AM (fun a w => ∃ x4 : List (Int × Int × Int × Int), ∃ v7 : Value, some (x4) = some o2 ∧ Fr 68 [] [(6, .slice none 0 0), (7, .int .i64 0), (8, v7)] a ∧ Stw ⟨Y, [], w0⟩ [(b1, [.int .i64 p0.1, v1, v2])] [row v7 62 Bj x4] w) ?_ ?_
 ·
  have H := G2
  clear G2 K2
  refine Ah (Ac ?_)
  refine ls F W Aa (Aj D1 Aa Aa Aa H4 F Aa 2 Aa).q fun a w F W => ?_
  refine ls F W Aa (Aw (v := v2) 0 F Aa Aa H4 Aa).q fun a w F W => ?_
  refine ls F W Aa (B0 (r := Gz) (l := p0.2.2) JG Aa F Aa (Am h_v2)).q fun a w F W => ?_
  refine ls F W Aa (Ad F Aa).q fun a w F W => ?_
  refine Ae (Ab (As ?_))
  have W := W.nilRow 62 Bj
  refine Bb H (fun s a w => ∃ v8 : Value, Fr 68 [] [(1, v3), (2, v4), (3, .pointer (some ⟨b1, 0, none⟩)), (6, .slice none 0 0), (7, .int .i64 0), (8, v8), (25, .int .i64 (p0.2.2.length : Int)), (26, .int .i64 s.2)] a ∧ Stw ⟨Y, [], w0⟩ [(b1, [.int .i64 p0.1, v1, v2])] [row v8 62 Bj s.1] w) ⟨(Value.slice none 0 0), F.re ⟨rfl, Aa, Aa, Aa, Aa, Aa, Aa, Aa, trivial⟩, W⟩ fun s o a w H L3 hR => ?_
  obtain ⟨x5, x6⟩ := s
  obtain ⟨v8, F, W⟩ := hR
  have F : Fr 68 [] [(1, v3), (2, v4), (3, .pointer (some ⟨b1, 0, none⟩)), (6, .slice none 0 0), (7, .int .i64 0), (8, v8), (25, .int .i64 (p0.2.2.length : Int)), (26, .int .i64 x6)] a := F
  have W : Stw ⟨Y, [], w0⟩ [(b1, [.int .i64 p0.1, v1, v2])] [row v8 62 Bj x5] w := W
  rw [DA] at H
  refine Ah (Ac ?_)
  refine ls F W Aa (Bu F Aa Aa).q fun a w F W => ?_
  refine Ae (Ab (Ah ?_))
  refine AA F Aa (fun hb => ?_) fun hb => ?_
  ·
   have H := AS (BD hb) H
   rw [hb] at F
   clear hb
   refine Av (Ab ?_)
   obtain ⟨o4, G4, K4⟩ := Ak H
   refine AM (fun a w => ∃ x7 : List (Int × Int × Int × Int), ∃ v9 : Value, some (x7) = some o4 ∧ Fr 68 [] [(1, v3), (2, v4), (3, .pointer (some ⟨b1, 0, none⟩)), (6, .slice none 0 0), (7, .int .i64 0), (8, v9), (25, .int .i64 (p0.2.2.length : Int)), (26, .int .i64 x6)] a ∧ Stw ⟨Y, [], w0⟩ [(b1, [.int .i64 p0.1, v1, v2])] [row v9 62 Bj x7] w) ?_ ?_
   ·
    have H := G4
    clear G4 K4
    refine As (Ah (Ac ?_))
    refine ls F W Aa (Ad F Aa).q fun a w F W => ?_
    refine ls F W Aa (Ag F Aa).q fun a w F W => ?_
    refine Ae (Ab (Ah (Ac ?_)))
    refine ls F W Aa (Aw (v := Value.agg #[.int .i64 p0.1, v1, v2]) 0 F Aa Aa JE Aa).q fun a w F W => ?_
    iterate 2 refine ls F W Aa (Ad F Aa).q fun a w F W => ?_
    obtain ⟨x8, h5, H⟩ := Ak H
    refine B7 (Ml := []) (Zl := []) (M := [(b1, [.int .i64 p0.1, v1, v2])]) (Z := [row v8 62 Bj x5]) (β := Value) (rv := fun x => x) (MM := fun x => []) (ZZ := fun x => [row x 3 (Rp.int .i64) x8]) F W TK Aa Aa (fun hL => Nv _ w (v1) (v2) (v4) p0 p2 x6 _ h5 ((Am h_v1) w W).nx ((Am h_v2) w W).nx ((B8 Do h2 (Am h_v4)) w W).nx) fun x a w F W => ?_
    obtain ⟨v10, rfl⟩ : ∃ y, y = x := ⟨x, rfl⟩
    have W : Stw ⟨Y, [], w0⟩ [(b1, [.int .i64 p0.1, v1, v2])] [row v10 3 (Rp.int .i64) x8, row v8 62 Bj x5] w := W
    refine ls F W Aa (B0 (r := (Rp.int .i64)) (l := x8) Hr Aa F Aa (An 0 Aa)).q fun a w F W => ?_
    refine ls F W Aa (Ad F Aa).q fun a w F W => ?_
    refine Ae (Ab (As ?_))
    have W := W.frontZ (i := 1) Aa Aa
    refine Bb H (fun s a w => ∃ v11 : Value, Fr 68 [] [(1, v3), (2, v4), (3, .pointer (some ⟨b1, 0, none⟩)), (6, .slice none 0 0), (7, .int .i64 0), (8, v11), (9, .int .i64 x6), (25, .int .i64 (p0.2.2.length : Int)), (26, .int .i64 x6), (32, v10), (33, .int .i64 (x8.length : Int)), (34, .int .i64 s.2)] a ∧ Stw ⟨Y, [], w0⟩ [(b1, [.int .i64 p0.1, v1, v2])] [row v11 62 Bj s.1, row v10 3 (Rp.int .i64) x8] w) ⟨(v8), F.re ⟨rfl, Aa, Aa, Aa, Aa, Aa, Aa, Aa, Aa, Aa, Aa, Aa, trivial⟩, W⟩ fun s o a w H L5 hR => ?_
    obtain ⟨x9, x10⟩ := s
    obtain ⟨v11, F, W⟩ := hR
    have F : Fr 68 [] [(1, v3), (2, v4), (3, .pointer (some ⟨b1, 0, none⟩)), (6, .slice none 0 0), (7, .int .i64 0), (8, v11), (9, .int .i64 x6), (25, .int .i64 (p0.2.2.length : Int)), (26, .int .i64 x6), (32, v10), (33, .int .i64 (x8.length : Int)), (34, .int .i64 x10)] a := F
    have W : Stw ⟨Y, [], w0⟩ [(b1, [.int .i64 p0.1, v1, v2])] [row v11 62 Bj x9, row v10 3 (Rp.int .i64) x8] w := W
    rw [C4] at H
    refine Ah (Ac ?_)
    refine ls F W Aa (Bu F Aa Aa).q fun a w F W => ?_
    refine Ae (Ab (Ah ?_))
    refine AA F Aa (fun hb => ?_) fun hb => ?_
    ·
     have H := AS (BD hb) H
     rw [hb] at F
     clear hb
     refine Av (Ab ?_)
     obtain ⟨o6, G6, K6⟩ := Ak H
     refine AM (fun a w => ∃ x11 : List (Int × Int × Int × Int), ∃ v12 : Value, some (x11) = some o6 ∧ Fr 68 [] [(1, v3), (2, v4), (3, .pointer (some ⟨b1, 0, none⟩)), (6, .slice none 0 0), (7, .int .i64 0), (8, v12), (9, .int .i64 x6), (25, .int .i64 (p0.2.2.length : Int)), (26, .int .i64 x6), (32, v10), (33, .int .i64 (x8.length : Int)), (34, .int .i64 x10)] a ∧ Stw ⟨Y, [], w0⟩ [(b1, [.int .i64 p0.1, v1, v2])] [row v12 62 Bj x11, row v10 3 (Rp.int .i64) x8] w) ?_ ?_
     ·
      have H := G6
      clear G6 K6
      refine As (Ah (Ac ?_))
      refine ls F W Aa (Ad F Aa).q fun a w F W => ?_
      obtain ⟨x12, h6, H⟩ := Ak H
      refine ls F W Aa (Ax (r := (Rp.int .i64)) GD F Aa Aa (An 1 Aa) h6).q fun a w F W => ?_
      refine ls F W Aa (Ao (y := Value.int .i64 x12) (j := 0) (i := x10) F Aa Aa (An 1 Aa) h6 Fl.int.to T3 Aa).q fun a w F W => ?_
      iterate 2 refine ls F W Aa (Ag F Aa).q fun a w F W => ?_
      refine Ae (Ab (Ah (Ac ?_)))
      iterate 2 refine ls F W Aa (Ad F Aa).q fun a w F W => ?_
      obtain ⟨x13, h7, H⟩ := Ak H
      obtain ⟨v13, h8, h9⟩ := DQ h2 h7
      have h10 : EN v13 = [(v13.1)] := congrArg (fun q : List Int => ([(v13.1)] : List Value)) h9
      refine ls F W Aa (Ax (r := (Rp.vsl (Rp.int .i64))) Lm F Aa Aa (Am h_v4) h8).q fun a w F W => ?_
      refine ls F W Aa (Ao (y := (v13.1)) (j := 0) (i := x10) (enc := EN) F Aa Aa (Am h_v4) h8 Im JO (by rw [h10]; rfl)).q fun a w F W => ?_
      refine ls F W Aa (Ad F Aa).q fun a w F W => ?_
      obtain ⟨x14, h11, H⟩ := Ak H
      refine ls F W Aa (Ax (r := (Rp.int .i64)) GD F Aa Aa (Du (Am h_v4) h8 EK.here (congrArg (fun q : List Int => q) h9)) h11).q fun a w F W => ?_
      refine ls F W Aa (Ao (y := Value.int .i64 x14) (j := 0) (i := x6) F Aa Aa (Du (Am h_v4) h8 EK.here (congrArg (fun q : List Int => q) h9)) h11 Fl.int.to T3 Aa).q fun a w F W => ?_
      refine ls F W Aa (Ag F Aa).q fun a w F W => ?_
      refine Ae (Ab (Ah (Ac ?_)))
      iterate 3 refine ls F W Aa (Ad F Aa).q fun a w F W => ?_
      obtain ⟨x15, h12, H⟩ := Ak H
      obtain ⟨v14, h13, h14⟩ := DQ h1 h12
      have h15 : EN v14 = [(v14.1)] := congrArg (fun q : List Int => ([(v14.1)] : List Value)) h14
      refine ls F W Aa (Ax (r := (Rp.vsl (Rp.int .i64))) Lm F Aa Aa (Am h_v3) h13).q fun a w F W => ?_
      refine ls F W Aa (Ao (y := (v14.1)) (j := 0) (i := x10) (enc := EN) F Aa Aa (Am h_v3) h13 Im JO (by rw [h15]; rfl)).q fun a w F W => ?_
      refine ls F W Aa (Ad F Aa).q fun a w F W => ?_
      obtain ⟨x16, h16, H⟩ := Ak H
      refine ls F W Aa (Ax (r := (Rp.int .i64)) GD F Aa Aa (Du (Am h_v3) h13 EK.here (congrArg (fun q : List Int => q) h14)) h16).q fun a w F W => ?_
      refine ls F W Aa (Ao (y := Value.int .i64 x16) (j := 0) (i := x6) F Aa Aa (Du (Am h_v3) h13 EK.here (congrArg (fun q : List Int => q) h14)) h16 Fl.int.to T3 Aa).q fun a w F W => ?_
      refine ls F W Aa (HL F Aa Aa).q fun a w F W => ?_
      refine Ae (Ab ?_)
      refine AA F Aa (fun hb => ?_) fun hb => ?_
      ·
       have H := AS (BD hb) H
       rw [hb] at F
       clear hb
       refine Ac ?_
       iterate 5 refine ls F W Aa (Ad F Aa).q fun a w F W => ?_
       refine ls F W Aa (ET (v := Value.agg #[.int .i64 x10, .int .i64 x6, .int .i64 x14, .int .i64 x12]) S8 F Aa Aa Aa).q fun a w F W => ?_
       refine Fm (z := Value.agg #[.int .i64 0, .int .i64 0, .int .i64 0, .int .i64 0]) (cs := [.int .i64 x10, .int .i64 x6, .int .i64 x14, .int .i64 x12]) Bj ([(x10, x6, x14, x12)] : List (Int × Int × Int × Int)) F W Aa Ew Sv Aa Aa Aa Aa Aa Aa (Ez.repL _ _ ([(x10, x6, x14, x12)] : List (Int × Int × Int × Int))) fun v15 a w F W => ?_
       obtain ⟨x17, h17, H⟩ := Ak H
       refine Fj (r := Bj) (i := 1) F W Aa Ew Aa Aa Aa Aa (GP W 0 Aa) h17 Aa fun v16 a w F W => ?_
       have W : Stw ⟨Y, [], w0⟩ [(b1, [.int .i64 p0.1, v1, v2])] [row v16 62 Bj x17, row v15 62 Bj ([(x10, x6, x14, x12)] : List (Int × Int × Int × Int)), row v10 3 (Rp.int .i64) x8] w := W
       refine ls F W Aa (Ag F Aa).q fun a w F W => ?_
       refine Ae (AP (Ab ?_))
       have W := W.frontZ (i := 2) Aa Aa
       have W := W.frontZ (i := 1) Aa Aa
       have W := W.sub (M' := [(b1, [.int .i64 p0.1, v1, v2])]) (Z' := [row v16 62 Bj x17, row v10 3 (Rp.int .i64) x8]) (List.Sublist.refl _) (List.Sublist.cons_cons _ (List.Sublist.cons_cons _ (List.nil_sublist _)))
       exact ⟨_, (v16), H, F.re ⟨rfl, Aa, Aa, Aa, Aa, Aa, Aa, Aa, Aa, Aa, Aa, Aa, trivial⟩, W⟩
      have H := AR (BB hb) H
      rw [hb] at F
      clear hb
      refine Av (AP (Ab ?_))
      have W := W.frontZ (i := 1) Aa Aa
      have W := W.frontZ (i := 1) Aa Aa
      exact ⟨_, (v11), H, F.re ⟨rfl, Aa, Aa, Aa, Aa, Aa, Aa, Aa, Aa, Aa, Aa, Aa, trivial⟩, W⟩
     rintro a w ⟨x11, v12, hj, F, W⟩
     have hj := AV hj
     subst hj
     have H := K6
     clear G6 K6
     refine Ac ?_
     refine ls F W Aa (BC F Aa Aa Aa).q fun a w F W => ?_
     refine ls F W Aa (Ad F Aa).q fun a w F W => ?_
     refine Ae (Ab ?_)
     have W := W.frontZ (i := 1) Aa Aa
     have W := W.frontZ (i := 1) Aa Aa
     exact ⟨_, H, (v12), F.re ⟨rfl, Aa, Aa, Aa, Aa, Aa, Aa, Aa, Aa, Aa, Aa, Aa, trivial⟩, W⟩
    have H := AR (BB hb) H
    rw [hb] at F
    clear hb
    refine A8 ?_
    iterate 2 refine Bq ?_
    refine A9 (AP (Ab ?_))
    have W := W.sub (M' := [(b1, [.int .i64 p0.1, v1, v2])]) (Z' := [row v11 62 Bj x9]) (List.Sublist.refl _) (List.Sublist.cons_cons _ (List.nil_sublist _))
    have H := L5 _ H
    exact ⟨_, (v11), H, F.re ⟨rfl, Aa, Aa, Aa, Aa, Aa, Aa, Aa, trivial⟩, W⟩
   rintro a w ⟨x7, v9, hj, F, W⟩
   have hj := AV hj
   subst hj
   have H := K4
   clear G4 K4
   refine Ac ?_
   refine ls F W Aa (BC F Aa Aa Aa).q fun a w F W => ?_
   refine ls F W Aa (Ad F Aa).q fun a w F W => ?_
   refine Ae (Ab ?_)
   exact ⟨_, H, (v9), F.re ⟨rfl, Aa, Aa, Aa, Aa, Aa, Aa, Aa, trivial⟩, W⟩
  have H := AR (BB hb) H
  rw [hb] at F
  clear hb
  refine A8 ?_
  iterate 2 refine Bq ?_
  refine A9 (Ab ?_)
  have H := L3 _ H
  exact ⟨_, (v8), H, F.re ⟨rfl, Aa, Aa, trivial⟩, W⟩
 rintro a w ⟨x4, v7, hj, F, W⟩
 have hj := AV hj
 subst hj
 have H := K2
 clear G2 K2
 refine Ah (Ac ?_)
 refine ls F W Aa (Ad F Aa).q fun a w F W => ?_
 obtain ⟨x18, h18, H⟩ := Ak H
 refine B7 (Ml := []) (Zl := [row v7 62 Bj x4]) (M := [(b1, [.int .i64 p0.1, v1, v2])]) (Z := []) (β := Unit) (rv := fun x => .tuple #[]) (MM := fun x => []) (ZZ := fun x => [row v7 62 Bj x18]) F W TU Aa Aa (fun hL => FF _ _ w (v7) x4 _ h18 hL) fun x a w F W => ?_
 have W : Stw ⟨Y, [], w0⟩ [(b1, [.int .i64 p0.1, v1, v2])] [row v7 62 Bj x18] w := W
 refine Ae (Ab (Ah (Ac ?_)))
 refine ls F W Aa (Ad F Aa).q fun a w F W => ?_
 iterate 2 refine ls F W Aa (Ag F Aa).q fun a w F W => ?_
 refine Ae (Ab (AF ?_))
 have H := AV H
 subst H
 refine EO (.inl Aa) F W Aa (Ay F Aa) (Ay F Aa) ?_
 have W := W.sub (M' := []) (Z' := [row v7 62 Bj x18]) (List.nil_sublist _) (List.Sublist.refl _)
 exact ⟨(v7), Aa, W⟩
def Fe (p0 : Int) (p1 : Int) : Bool := (bif (BO p0) then (!(BO p1) || decide (p0 < p1)) else decide (p0 < p1))
theorem Lt (Y : Nat → Prop) (w0 : World)  (p0 : Int) (p1 : Int) (r : Bool) (H : Fe p0 p1 = r)  :
    Calls Try.prog 90 #[.int .i64 p0, .int .i64 p1] w0 fun e w' => e = .returned (.bool r) ∧ Below w0.heap.size w0 w' := by
 refine enter Try.func90 Aa Try.ntmps90 Aa fun a F => ?_
 have W := Stw.start Y w0
 unfold Fe at H
 refine Ah (Ac ?_)
 refine ls F W Aa (Ag F Aa).q fun a w F W => ?_
 refine Ae (Ab ?_)
 refine AM (fun a w => Fr 17 [] [(4, .bool (bif (BO p0) then (!(BO p1) || decide (p0 < p1)) else decide (p0 < p1)))] a ∧ Stw ⟨Y, [], w0⟩ [] [] w) ?_ ?_
 ·
  refine Ac ?_
  refine ls F W Aa (Ad F Aa).q fun a w F W => ?_
  refine ls F W Aa (BX (v := Value.bool (BO p0)) F Sw Aa (fun w W => Gj any w p0 _ Aa)) fun a w F W => ?_
  refine ls F W Aa (Ad F Aa).q fun a w F W => ?_
  rcases Bool.eq_false_or_eq_true (BO p0) with hb0 | hb0
  ·
   rw [hb0] at F
   refine AJ F W (Af F Aa Aa Aa Aa) Aa (Ai Aa) (Ad F Aa).q fun a w F W => ?_
   refine Kr (Af F Aa Aa Aa Aa) ?_
   refine ls F W Aa (BX (v := Value.bool (BO p1)) F Sw Aa (fun w W => Gj any w p1 _ Aa)) fun a w F W => ?_
   refine AJ F W (Af F Aa Aa Aa Aa) Aa (Ai Aa) (Eb F Aa).q fun a w F W => ?_
   refine ls F W Aa (Aq F Aa Aa Aa).q fun a w F W => ?_
   refine ls F W Aa (Ad F Aa).q fun a w F W => ?_
   rcases Bool.eq_false_or_eq_true (!(BO p1)) with hb1 | hb1
   ·
    rw [hb1] at F
    iterate 3 refine Dd F Aa Aa Aa Aa Aa Aa Aa fun a F => ?_
    refine ls F W Aa (Aq F Aa Aa Aa).q fun a w F W => ?_
    refine ls F W Aa (Ag F Aa).q fun a w F W => ?_
    refine Ae (Ab ?_)
    exact ⟨F.re ⟨(by show some (Value.bool true) = some (Value.bool (bif (BO p0) then (!(BO p1) || decide (p0 < p1)) else decide (p0 < p1))); try rw [hb1]; try rw [hb0]; all_goals simp only [Bool.not_true, Bool.not_false, Bool.true_and, Bool.false_and, Bool.true_or, Bool.false_or, Bool.and_true, Bool.or_false, cond_true, cond_false]), trivial⟩, W⟩
   rw [hb1] at F
   iterate 2 refine AJ F W (Af F Aa Aa Aa Aa) Aa (Ai Aa) (Ad F Aa).q fun a w F W => ?_
   refine AJ F W (Af F Aa Aa Aa Aa) Aa (Ai Aa) (Bu F Aa Aa).q fun a w F W => ?_
   refine ls F W Aa (Az F Aa Aa Aa).q fun a w F W => ?_
   refine ls F W Aa (Ag F Aa).q fun a w F W => ?_
   refine Ae (Ab ?_)
   exact ⟨F.re ⟨(by show some (Value.bool (decide (p0 < p1))) = some (Value.bool (bif (BO p0) then (!(BO p1) || decide (p0 < p1)) else decide (p0 < p1))); try rw [hb1]; try rw [hb0]; all_goals simp only [Bool.not_true, Bool.not_false, Bool.true_and, Bool.false_and, Bool.true_or, Bool.false_or, Bool.and_true, Bool.or_false, cond_true, cond_false]), trivial⟩, W⟩
  rw [hb0] at F
  iterate 3 refine Dd F Aa Aa Aa Aa Aa Aa Aa fun a F => ?_
  refine ls F W Aa (Az F Aa Aa Aa).q fun a w F W => ?_
  refine ls F W Aa (Ad F Aa).q fun a w F W => ?_
  iterate 2 refine AJ F W (Af F Aa Aa Aa Aa) Aa (Ai Aa) (Ad F Aa).q fun a w F W => ?_
  refine AJ F W (Af F Aa Aa Aa Aa) Aa (Ai Aa) (Bu F Aa Aa).q fun a w F W => ?_
  refine ls F W Aa (Az F Aa Aa Aa).q fun a w F W => ?_
  refine ls F W Aa (Ag F Aa).q fun a w F W => ?_
  refine Ae (Ab ?_)
  exact ⟨F.re ⟨(by show some (Value.bool (decide (p0 < p1))) = some (Value.bool (bif (BO p0) then (!(BO p1) || decide (p0 < p1)) else decide (p0 < p1))); try rw [hb0]; all_goals simp only [Bool.not_true, Bool.not_false, Bool.true_and, Bool.false_and, Bool.true_or, Bool.false_or, Bool.and_true, Bool.or_false, cond_true, cond_false]), trivial⟩, W⟩
 rintro a w ⟨F, W⟩
 refine AF ?_
 subst H
 refine BK (.inl Aa) F W Aa (Ay F Aa) ?_
 exact ⟨rfl, W.done⟩
theorem Tw : Has Try.prog 90 := ⟨fun args w => Al Try.func90 rfl (by decide) args w⟩
noncomputable def BQ (p1 : Int) : (List Int × Int) → Option ((List Int × Int) ⊕ (List Int))
  | (x4, x5) => (if p1 < x5 then (ix x4 x5).bind fun x7 => (ix x4 (AB (x5 - 1))).bind fun x8 => some (Fe x7 x8) else some false).bind fun x6 => (if x6 = true then (ix x4 (AB (x5 - 1))).bind fun x9 => (ix x4 x5).bind fun x10 => (ix x4 x5).bind fun x11 => (ix (Ap x4 x5 x9) (AB (x5 - 1))).bind fun x12 => some (.inl ((Ap (Ap x4 x5 x9) (AB (x5 - 1)) x10), AB (x5 - 1))) else some (.inr x4))
noncomputable def BA (p1 : Int) (p2 : Int) : (List Int × Int) → Option ((List Int × Int) ⊕ (List Int))
  | (x1, x2) => (if x2 < p2 then (AG (BQ p1) (x1, x2)).bind fun x3 => some (.inl (x3, AB (x2 + 1))) else some (.inr x1))
noncomputable def Cc (p0 : List Int) (p1 : Int) (p2 : Int) : Option (List Int) := AG (BA p1 p2) (p0, AB (p1 + 1))
theorem GC (Y : Nat → Prop) (X : List Nat) (w0 : World) (v1 : Value) (p0 : List Int) (p1 : Int) (p2 : Int) (r : List Int) (H : Cc p0 p1 p2 = some r) (hL : Stw ⟨Y, X, w0⟩ [] [row v1 3 (Rp.int .i64) p0] w0) :
    Calls Try.prog 84 #[v1, .int .i64 p1, .int .i64 p2] w0 fun e w' => ∃ x : Unit, e = .returned (.tuple #[]) ∧ Stw ⟨Y, X, w0⟩ [] [row v1 3 (Rp.int .i64) r] w' := by
 refine enter Try.func84 Aa Try.ntmps84 Aa fun a F => ?_
 have W := hL
 unfold Cc at H
 refine Ah (Ac ?_)
 refine ls F W Aa (Ad F Aa).q fun a w F W => ?_
 refine ls F W Aa (BC F Aa Aa Aa).q fun a w F W => ?_
 refine ls F W Aa (Ag F Aa).q fun a w F W => ?_
 refine Ae (Ab (As ?_))
 refine Bb H (fun s a w => Fr 49 [] [(0, v1), (1, .int .i64 p1), (2, .int .i64 p2), (6, .int .i64 s.2)] a ∧ Stw ⟨Y, X, w0⟩ [] [row v1 3 (Rp.int .i64) s.1] w) ⟨F.re ⟨rfl, Aa, Aa, Aa, trivial⟩, W⟩ fun s o a w H L1 hR => ?_
 obtain ⟨x1, x2⟩ := s
 obtain ⟨F, W⟩ := hR
 have F : Fr 49 [] [(0, v1), (1, .int .i64 p1), (2, .int .i64 p2), (6, .int .i64 x2)] a := F
 have W : Stw ⟨Y, X, w0⟩ [] [row v1 3 (Rp.int .i64) x1] w := W
 rw [BA] at H
 refine Ah (Ah (Ac ?_))
 iterate 2 refine ls F W Aa (Ad F Aa).q fun a w F W => ?_
 refine ls F W Aa (Bu F Aa Aa).q fun a w F W => ?_
 refine Ae (Ab ?_)
 refine AA F Aa (fun hb => ?_) fun hb => ?_
 ·
  have H := AS (BD hb) H
  rw [hb] at F
  clear hb
  refine Av (Ab ?_)
  obtain ⟨o2, G2, K2⟩ := Ak H
  refine AM (fun a w => ∃ x3 : List Int, some (x3) = some o2 ∧ Fr 49 [] [(0, v1), (1, .int .i64 p1), (2, .int .i64 p2), (6, .int .i64 x2)] a ∧ Stw ⟨Y, X, w0⟩ [] [row v1 3 (Rp.int .i64) x3] w) ?_ ?_
  ·
   have H := G2
   clear G2 K2
   refine As (Ah (Ac ?_))
   refine ls F W Aa (Ad F Aa).q fun a w F W => ?_
   refine ls F W Aa (Ag F Aa).q fun a w F W => ?_
   refine Ae (Ab (As ?_))
   refine Bb H (fun s a w => Fr 49 [] [(0, v1), (1, .int .i64 p1), (2, .int .i64 p2), (6, .int .i64 x2), (7, .int .i64 s.2)] a ∧ Stw ⟨Y, X, w0⟩ [] [row v1 3 (Rp.int .i64) s.1] w) ⟨F.re ⟨rfl, Aa, Aa, Aa, Aa, trivial⟩, W⟩ fun s o a w H L3 hR => ?_
   obtain ⟨x4, x5⟩ := s
   obtain ⟨F, W⟩ := hR
   have F : Fr 49 [] [(0, v1), (1, .int .i64 p1), (2, .int .i64 p2), (6, .int .i64 x2), (7, .int .i64 x5)] a := F
   have W : Stw ⟨Y, X, w0⟩ [] [row v1 3 (Rp.int .i64) x4] w := W
   rw [BQ] at H
   refine Ah ?_
   obtain ⟨o4, G4, K4⟩ := Ak H
   refine AM (fun a w => ∃ x6 : Bool, some (x6) = some o4 ∧ Fr 49 [] [(0, v1), (1, .int .i64 p1), (2, .int .i64 p2), (6, .int .i64 x2), (7, .int .i64 x5), (30, .bool x6)] a ∧ Stw ⟨Y, X, w0⟩ [] [row v1 3 (Rp.int .i64) x4] w) ?_ ?_
   ·
    have H := G4
    clear G4 K4
    refine BV W MO (by kernel_rfl) ?_
    iterate 2 refine qs F Aa (Ad F Aa).q fun a F => ?_
    refine qs F Aa (Ga F Aa Aa).q fun a F => ?_
    refine qs F Aa (Ad F Aa).q fun a F => ?_
    rcases Bool.eq_false_or_eq_true (decide (p1 < x5)) with hb | hb
    ·
     have H := AS (BD hb) H
     rw [hb] at F
     clear hb
     iterate 2 refine Bc F (Af F Aa Aa Aa Aa) Aa (Ai Aa) (Ad F Aa).q fun a F => ?_
     obtain ⟨x7, h1, H⟩ := Ak H
     refine Bc F (Af F Aa Aa Aa Aa) Aa (Ai Aa) (Ax (r := (Rp.int .i64)) GD F Aa Aa (An 0 Aa) h1).q fun a F => ?_
     refine Bc F (Af F Aa Aa Aa Aa) Aa (Ai Aa) (Ao (y := Value.int .i64 x7) (j := 0) (i := x5) F Aa Aa (An 0 Aa) h1 Fl.int.to T3 Aa).q fun a F => ?_
     iterate 2 refine Bc F (Af F Aa Aa Aa Aa) Aa (Ai Aa) (Ad F Aa).q fun a F => ?_
     refine Bc F (Af F Aa Aa Aa Aa) Aa (Ai Aa) (Cx F Aa Aa Aa).q fun a F => ?_
     obtain ⟨x8, h2, H⟩ := Ak H
     refine Bc F (Af F Aa Aa Aa Aa) Aa (Ai Aa) (Ax (r := (Rp.int .i64)) GD F Aa Aa (An 0 Aa) h2).q fun a F => ?_
     refine Bc F (Af F Aa Aa Aa Aa) Aa (Ai Aa) (Ao (y := Value.int .i64 x8) (j := 0) (i := AB (x5 - 1)) F Aa Aa (An 0 Aa) h2 Fl.int.to T3 Aa).q fun a F => ?_
     refine Bc F (Af F Aa Aa Aa Aa) Aa (Ai Aa) (BX (v := Value.bool (Fe x7 x8)) F Tw Aa (fun w W => Lt any w x7 x8 _ Aa)) fun a F => ?_
     refine qs F Aa (Aq F Aa Aa Aa).q fun a F => ?_
     refine AY fun w W => ?_
     refine Ab ?_
     exact ⟨_, H, F.re ⟨rfl, Aa, Aa, Aa, Aa, Aa, trivial⟩, W⟩
    have H := AR (BB hb) H
    rw [hb] at F
    clear hb
    iterate 10 refine Ds F (CM F Aa Aa Aa Aa Aa) Aa Aa fun a F => ?_
    refine qs F Aa (Az F Aa Aa Aa).q fun a F => ?_
    refine AY fun w W => ?_
    refine Ab ?_
    exact ⟨_, H, F.re ⟨rfl, Aa, Aa, Aa, Aa, Aa, trivial⟩, W⟩
   rintro a w ⟨x6, hj, F, W⟩
   have hj := AV hj
   subst hj
   have H := K4
   clear G4 K4
   refine AA F Aa (fun hb => ?_) fun hb => ?_
   ·
    have H := AS hb H
    rw [hb] at F
    clear hb
    refine Av (Ab (Ah (As ?_)))
    refine Gg [(true, 0), (true, 1), (true, 2), (true, 3), (true, 4), (true, 5), (true, 6), (true, 7), (true, 8), (true, 9), (true, 10), (true, 11), (true, 12), (true, 13), (true, 14), (false, 15), (true, 16), (false, 17)] (CN ⟨Y, X, w0⟩ [] [(some 15, row v1 3 (Rp.int .i64) x4)]) (fun ch a d v w h => by cases d <;> exact h) MO (by kernel_rfl) W (fun w W => ⟨_, _, W, Bd, (all_cons (fun _ => (.head _)) Bd)⟩) fun w W => ?_
    iterate 4 refine B6 (R := []) F Aa Aa (yC fun M Z hN hZ => Ad F Aa) Aa Aa fun a F => ?_
    refine B6 (R := []) F Aa Aa (yC fun M Z hN hZ => Cx F Aa Aa Aa) Aa Aa fun a F => ?_
    iterate 2 refine B6 (R := []) F Aa Aa (yC fun M Z hN hZ => Ad F Aa) Aa Aa fun a F => ?_
    refine B6 (R := []) F Aa Aa (yC fun M Z hN hZ => Cx F Aa Aa Aa) Aa Aa fun a F => ?_
    obtain ⟨x9, h3, H⟩ := Ak H
    refine B6 (R := []) F Aa Aa (yC fun M Z hN hZ => B1 (r := (Rp.int .i64)) GD F Aa Aa (DK W (An 0 Aa)) h3) Aa Aa fun a F => ?_
    refine B6 (R := [15]) F Aa Aa (yC fun M Z hN hZ => Ao (y := Value.int .i64 x9) (j := 0) (i := AB (x5 - 1)) F Aa Aa (D3 (hZ ((some 15), row v1 3 (Rp.int .i64) x4) (.head _) Aa)) h3 Fl.int.to T3 Aa) (by kernel_rfl) Aa fun a F => ?_
    iterate 2 refine B6 (R := []) F Aa Aa (yC fun M Z hN hZ => Ad F Aa) Aa Aa fun a F => ?_
    obtain ⟨x10, h4, H⟩ := Ak H
    refine B6 (R := []) F Aa Aa (yC fun M Z hN hZ => B1 (r := (Rp.int .i64)) GD F Aa Aa (DK W (An 0 Aa)) h4) Aa Aa fun a F => ?_
    refine B6 (R := [15]) F Aa Aa (yC fun M Z hN hZ => Ao (y := Value.int .i64 x10) (j := 0) (i := x5) F Aa Aa (D3 (hZ ((some 15), row v1 3 (Rp.int .i64) x4) (.head _) Aa)) h4 Fl.int.to T3 Aa) (by kernel_rfl) Aa fun a F => ?_
    obtain ⟨x11, h5, H⟩ := Ak H
    refine B6 (R := []) F Aa Aa (yC fun M Z hN hZ => B1 (r := (Rp.int .i64)) GD F Aa Aa (DK W (An 0 Aa)) h5) Aa Aa fun a F => ?_
    refine Ia Aa ?_
    refine Bz (i := x5) (j := 0) (vs := [.int .i64 x9]) (x' := x9) F W Aa Aa Aa (k := 0) Aa Aa h5 T3 Aa Aa Aa Aa (fun A cs _ => Fl.int.sto (by rfl) _ _ _) fun w W => ?_
    refine DF (N2 := []) (NZ2 := []) (N3 := []) (NZ3 := [(some 15, row v1 3 (Rp.int .i64) x4)]) W Aa Aa Bd (all_cons (fun h => Cq (by kernel_rfl) h) Bd) ?_
    obtain ⟨x12, h6, H⟩ := Ak H
    refine B6 (R := []) F Aa Aa (yC fun M Z hN hZ => B1 (r := (Rp.int .i64)) GD F Aa Aa (DK W (An 0 Aa)) h6) Aa Aa fun a F => ?_
    refine Ia Aa ?_
    refine Bz (i := AB (x5 - 1)) (j := 0) (vs := [.int .i64 x10]) (x' := x10) F W Aa Aa Aa (k := 0) Aa Aa h6 T3 Aa Aa Aa Aa (fun A cs _ => Fl.int.sto (by rfl) _ _ _) fun w W => ?_
    refine DF (N2 := []) (NZ2 := []) (N3 := []) (NZ3 := [(some 15, row v1 3 (Rp.int .i64) x4)]) W Aa Aa Bd (all_cons (fun h => Cq (by kernel_rfl) h) Bd) ?_
    refine Is (AP (Ab (Ac ?_)))
    refine ls F W Aa (Ad F Aa).q fun a w F W => ?_
    refine ls F W Aa (Cx F Aa Aa Aa).q fun a w F W => ?_
    refine ls F W Aa (Ag F Aa).q fun a w F W => ?_
    refine Ae (Ab ?_)
    exact ⟨_, H, F.re ⟨rfl, Aa, Aa, Aa, Aa, trivial⟩, W⟩
   have H := AR (by rw [hb]; decide) H
   rw [hb] at F
   clear hb
   refine A8 ?_
   iterate 2 refine Bq ?_
   refine A9 (AP (Ab ?_))
   have H := L3 _ H
   exact ⟨_, H, F.re ⟨rfl, Aa, Aa, Aa, trivial⟩, W⟩
  rintro a w ⟨x3, hj, F, W⟩
  have hj := AV hj
  subst hj
  have H := K2
  clear G2 K2
  refine Ac ?_
  refine ls F W Aa (Ad F Aa).q fun a w F W => ?_
  refine ls F W Aa (BC F Aa Aa Aa).q fun a w F W => ?_
  refine ls F W Aa (Ag F Aa).q fun a w F W => ?_
  refine Ae (Ab ?_)
  exact ⟨_, H, F.re ⟨rfl, Aa, Aa, Aa, trivial⟩, W⟩
 have H := AR (BB hb) H
 rw [hb] at F
 clear hb
 refine A8 ?_
 iterate 2 refine Bq ?_
 refine A9 ?_
 have H := L1 _ H
 have H := AV H
 subst H
 refine HI (.inr Aa) F Aa ?_
 exact ⟨(), Aa, W⟩
theorem Tn : Has Try.prog 84 := ⟨fun args w => Al Try.func84 rfl (by decide) args w⟩
noncomputable def CE (p0 : List Int) (p1 : Int) (p2 : Int) : Unit → Option (Unit ⊕ (List Int))
  | _ => (if (AB (p2 - p1)) ≤ 12 then (Cc p0 p1 p2).bind fun x1 => some (.inr x1) else none)
noncomputable def Cn (p0 : List Int) (p1 : Int) (p2 : Int) (p3 : Int) : Option (List Int) := AG (CE p0 p1 p2) ()
theorem HN (Y : Nat → Prop) (X : List Nat) (w0 : World) (v1 : Value) (p0 : List Int) (p1 : Int) (p2 : Int) (p3 : Int) (r : List Int) (H : Cn p0 p1 p2 p3 = some r) (hL : Stw ⟨Y, X, w0⟩ [] [row v1 3 (Rp.int .i64) p0] w0) :
    Calls Try.prog 75 #[v1, .int .i64 p1, .int .i64 p2, .int .i64 p3] w0 fun e w' => ∃ x : Unit, e = .returned (.tuple #[]) ∧ Stw ⟨Y, X, w0⟩ [] [row v1 3 (Rp.int .i64) r] w' := by
 refine enter Try.func75 Aa Try.ntmps75 Aa fun a F => ?_
 have W := hL
 unfold Cn at H
 refine Ah (Ac ?_)
 refine ls F W Aa (Ag F Aa).q fun a w F W => ?_
 refine Ae (Ab (Ah (Ac ?_)))
 refine ls F W Aa (Ag F Aa).q fun a w F W => ?_
 refine Ae (Ab (As ?_))
 refine Bb H (fun s a w => Fr 134 [] [(0, v1), (1, .int .i64 p1), (2, .int .i64 p2), (3, .int .i64 p3), (8, .bool true), (9, .bool true)] a ∧ Stw ⟨Y, X, w0⟩ [] [row v1 3 (Rp.int .i64) p0] w) ⟨F.re ⟨rfl, Aa, Aa, Aa, Aa, Aa, trivial⟩, W⟩ fun s o a w H L1 hR => ?_
 obtain ⟨F, W⟩ := hR
 have F : Fr 134 [] [(0, v1), (1, .int .i64 p1), (2, .int .i64 p2), (3, .int .i64 p3), (8, .bool true), (9, .bool true)] a := F
 have W : Stw ⟨Y, X, w0⟩ [] [row v1 3 (Rp.int .i64) p0] w := W
 rw [CE] at H
 refine As (Ah (Ac ?_))
 iterate 2 refine ls F W Aa (Ad F Aa).q fun a w F W => ?_
 refine ls F W Aa (Cx F Aa Aa Aa).q fun a w F W => ?_
 refine ls F W Aa (Ag F Aa).q fun a w F W => ?_
 refine Ae (Ab (Ah (Ah (Ac ?_))))
 refine ls F W Aa (Ad F Aa).q fun a w F W => ?_
 refine ls F W Aa (Ie F Aa Aa).q fun a w F W => ?_
 refine Ae (Ab ?_)
 refine AA F Aa (fun hb => ?_) fun hb => ?_
 ·
  have H := AS (BD hb) H
  rw [hb] at F
  clear hb
  refine Ah (Ac ?_)
  iterate 3 refine ls F W Aa (Ad F Aa).q fun a w F W => ?_
  obtain ⟨x1, h1, H⟩ := Ak H
  refine B7 (Ml := []) (Zl := [row v1 3 (Rp.int .i64) p0]) (M := []) (Z := []) (β := Unit) (rv := fun x => .tuple #[]) (MM := fun x => []) (ZZ := fun x => [row v1 3 (Rp.int .i64) x1]) F W Tn Aa Aa (fun hL => GC _ _ w (v1) p0 p1 p2 _ h1 hL) fun x a w F W => ?_
  have W : Stw ⟨Y, X, w0⟩ [] [row v1 3 (Rp.int .i64) x1] w := W
  refine Ae (Ab (AF (AH (AQ (AH (AQ ?_))))))
  have H := L1 _ H
  have H := AV H
  subst H
  refine HI (.inl Aa) F Aa ?_
  exact ⟨(), Aa, W⟩
 have H := AR (BB hb) H
 rw [hb] at F
 clear hb
 exact nomatch H
theorem Ua : Has Try.prog 75 := ⟨fun args w => Al Try.func75 rfl (by decide) args w⟩
noncomputable def Da (p0 : List Int) : Option (List Int) := (Dx (IntKind.u64.wrap (p0.length : Int))).bind fun x1 => (Cn p0 0 (p0.length : Int) x1).bind fun x2 => some x2
theorem Je (Y : Nat → Prop) (X : List Nat) (w0 : World) (v1 : Value) (p0 : List Int) (r : List Int) (H : Da p0 = some r) (hL : Stw ⟨Y, X, w0⟩ [] [row v1 3 (Rp.int .i64) p0] w0) :
    Calls Try.prog 53 #[v1] w0 fun e w' => ∃ x : Unit, e = .returned (.tuple #[]) ∧ Stw ⟨Y, X, w0⟩ [] [row v1 3 (Rp.int .i64) r] w' := by
 refine enter Try.func53 Aa Try.ntmps53 Aa fun a F => ?_
 have W := hL
 unfold Da at H
 refine Ah (Ac ?_)
 refine ls F W Aa (Ad F Aa).q fun a w F W => ?_
 refine ls F W Aa (B0 (r := (Rp.int .i64)) (l := p0) Hr Aa F Aa (An 0 Aa)).q fun a w F W => ?_
 refine ls F W Aa (Ag F Aa).q fun a w F W => ?_
 refine Ae (Ab (Ac ?_))
 iterate 3 refine ls F W Aa (Ad F Aa).q fun a w F W => ?_
 refine ls F W Aa (IU NV Q6 F Aa).q fun a w F W => ?_
 obtain ⟨x1, h1, H⟩ := Ak H
 refine ls F W Aa (BX (v := Value.int .i64 x1) F SZ Aa (fun w W => HH any w (IntKind.u64.wrap (p0.length : Int)) _ h1)) fun a w F W => ?_
 obtain ⟨x2, h2, H⟩ := Ak H
 refine B7 (Ml := []) (Zl := [row v1 3 (Rp.int .i64) p0]) (M := []) (Z := []) (β := Unit) (rv := fun x => .tuple #[]) (MM := fun x => []) (ZZ := fun x => [row v1 3 (Rp.int .i64) x2]) F W Ua Aa Aa (fun hL => HN _ _ w (v1) p0 0 (p0.length : Int) x1 _ h2 hL) fun x a w F W => ?_
 have W : Stw ⟨Y, X, w0⟩ [] [row v1 3 (Rp.int .i64) x2] w := W
 refine Ae ?_
 have H := AV H
 subst H
 refine HI (.inr Aa) F Aa ?_
 exact ⟨(), Aa, W⟩
theorem Tj : Has Try.prog 53 := ⟨fun args w => Al Try.func53 rfl (by decide) args w⟩
noncomputable def BW (p0 : List Int) (x1 : Int) : (List Int × Int × Int) → Option ((List Int × Int × Int) ⊕ (List Int × Int))
  | (x7, x8, x9) => (Ja x7 x1 (p0.length : Int)).bind fun x10 => (if x9 < (x10.length : Int) then ((ix x10 x9).bind fun x13 => (ix x10 (AB (x9 - 1))).bind fun x14 => (if x13 ≠ x14 then (ix x10 x9).bind fun x15 => (ix x7 x8).bind fun x16 => some ((Ap x7 x8 x15), AB (x8 + 1)) else some (x7, x8))).bind fun (x11, x12) => some (.inl (x11, x12, AB (x9 + 1))) else some (.inr (x7, x8)))
noncomputable def BR (p0 : List Int) : Int → Option (Int ⊕ (Unit ⊕ (List Int)))
  | x1 => (if x1 < (p0.length : Int) then FB ((ix p0 x1).bind fun x2 => (ix p0 (AB (x1 - 1))).bind fun x3 => (if x2 = x3 then (Ja p0 x1 (p0.length : Int)).bind fun x4 => (AG (BW p0 x1) (p0, x1, 1)).bind fun (x5, x6) => (Ja x5 x6 (x5.length : Int)).bind fun x17 => (RG x5 x6 (List.replicate (x17.length) (0 : Int))).bind fun x18 => (Ja x18 0 x6).bind fun x19 => some (.inr (.inr (.inr x19))) else some (.inl ()))) fun _ => some (.inl (AB (x1 + 1))) else some (.inr (.inl ())))
noncomputable def CB (p0 : List Int) : Option (List Int) := (if (p0.length : Int) < 2 then some p0 else FB (AG (BR p0) 1) fun _ => some p0)
theorem Ip (Y : Nat → Prop) (X : List Nat) (w0 : World) (v1 : Value) (p0 : List Int) (r : List Int) (H : CB p0 = some r) (hL : Stw ⟨Y, X, w0⟩ [] [row v1 3 (Rp.int .i64) p0] w0) :
    Calls Try.prog 54 #[v1] w0 fun e w' => ∃ x : Value, e = .returned (x) ∧ Stw ⟨Y, X, w0⟩ [] [row (x) 3 (Rp.int .i64) r] w' := by
 refine enter Try.func54 Aa Try.ntmps54 Aa fun a F => ?_
 have W := hL
 unfold CB at H
 refine Ah (Ac ?_)
 refine ls F W Aa (Ag F Aa).q fun a w F W => ?_
 refine Ae (Ab (Ah (Ah (Ac ?_))))
 refine ls F W Aa (Ad F Aa).q fun a w F W => ?_
 refine ls F W Aa (B0 (r := (Rp.int .i64)) (l := p0) Hr Aa F Aa (An 0 Aa)).q fun a w F W => ?_
 refine ls F W Aa (Bu F Aa Aa).q fun a w F W => ?_
 refine Ae (Ab ?_)
 refine AA F Aa (fun hb => ?_) fun hb => ?_
 ·
  have H := AS (BD hb) H
  rw [hb] at F
  clear hb
  refine Ah (Ac ?_)
  refine ls F W Aa (Ad F Aa).q fun a w F W => ?_
  refine ls F W Aa (Ag F Aa).q fun a w F W => ?_
  refine Ae (Ab (AF (AH ?_)))
  have H := AV H
  subst H
  refine BK (.inl Aa) F W Aa (Ay F Aa) ?_
  exact ⟨(v1), Aa, W⟩
 have H := AR (BB hb) H
 rw [hb] at F
 clear hb
 refine Av (Ab ?_)
 obtain ⟨o1, G1, K1, L1⟩ := Jx H
 refine AM (fun a w => some (Sum.inl ()) = some o1 ∧ Fr 61 [] [(0, v1), (2, .slice none 0 0)] a ∧ Stw ⟨Y, X, w0⟩ [] [row v1 3 (Rp.int .i64) p0] w) ?_ ?_
 ·
  have H := G1
  clear G1 K1
  refine Ah (Ac ?_)
  refine ls F W Aa (Ag F Aa).q fun a w F W => ?_
  refine Ae (Ab (As ?_))
  refine Bb H (fun s a w => Fr 61 [] [(0, v1), (2, .slice none 0 0), (3, .int .i64 s)] a ∧ Stw ⟨Y, X, w0⟩ [] [row v1 3 (Rp.int .i64) p0] w) ⟨F.re ⟨rfl, Aa, Aa, trivial⟩, W⟩ fun s o a w H L2 hR => ?_
  obtain ⟨x1, rfl⟩ : ∃ x, x = s := ⟨s, rfl⟩
  obtain ⟨F, W⟩ := hR
  have F : Fr 61 [] [(0, v1), (2, .slice none 0 0), (3, .int .i64 x1)] a := F
  have W : Stw ⟨Y, X, w0⟩ [] [row v1 3 (Rp.int .i64) p0] w := W
  rw [BR] at H
  refine Ah (Ah (Ac ?_))
  iterate 2 refine ls F W Aa (Ad F Aa).q fun a w F W => ?_
  refine ls F W Aa (B0 (r := (Rp.int .i64)) (l := p0) Hr Aa F Aa (An 0 Aa)).q fun a w F W => ?_
  refine ls F W Aa (Bu F Aa Aa).q fun a w F W => ?_
  refine Ae (Ab ?_)
  refine AA F Aa (fun hb => ?_) fun hb => ?_
  ·
   have H := AS (BD hb) H
   rw [hb] at F
   clear hb
   refine Av (Ab ?_)
   obtain ⟨o3, G3, K3, L3⟩ := Jx H
   refine AM (fun a w => some (Sum.inl ()) = some o3 ∧ Fr 61 [] [(0, v1), (2, .slice none 0 0), (3, .int .i64 x1)] a ∧ Stw ⟨Y, X, w0⟩ [] [row v1 3 (Rp.int .i64) p0] w) ?_ ?_
   ·
    have H := G3
    clear G3 K3
    refine As (Ah ?_)
    refine BV W MO (by kernel_rfl) ?_
    iterate 2 refine qs F Aa (Ad F Aa).q fun a F => ?_
    obtain ⟨x2, h1, H⟩ := Ak H
    refine qs F Aa (Ax (r := (Rp.int .i64)) GD F Aa Aa (An 0 Aa) h1).q fun a F => ?_
    refine qs F Aa (Ao (y := Value.int .i64 x2) (j := 0) (i := x1) F Aa Aa (An 0 Aa) h1 Fl.int.to T3 Aa).q fun a F => ?_
    iterate 2 refine qs F Aa (Ad F Aa).q fun a F => ?_
    refine qs F Aa (Cx F Aa Aa Aa).q fun a F => ?_
    obtain ⟨x3, h2, H⟩ := Ak H
    refine qs F Aa (Ax (r := (Rp.int .i64)) GD F Aa Aa (An 0 Aa) h2).q fun a F => ?_
    refine qs F Aa (Ao (y := Value.int .i64 x3) (j := 0) (i := AB (x1 - 1)) F Aa Aa (An 0 Aa) h2 Fl.int.to T3 Aa).q fun a F => ?_
    refine qs F Aa (DP F Aa Aa).q fun a F => ?_
    refine AY fun w W => ?_
    refine Ab ?_
    refine AA F Aa (fun hb => ?_) fun hb => ?_
    ·
     have H := AS (BD hb) H
     rw [hb] at F
     clear hb
     refine Ah (Ac ?_)
     iterate 2 refine ls F W Aa (Ad F Aa).q fun a w F W => ?_
     obtain ⟨x4, h3, H⟩ := Ak H
     refine ls F W Aa (MW (r := (Rp.int .i64)) GD F Aa Aa Aa (An 0 Aa) h3).q fun a w F W => ?_
     refine ls F W Aa (Ag F Aa).q fun a w F W => ?_
     refine Ae (Ab ?_)
     obtain ⟨o4, G4, K4⟩ := Ak H
     refine AM (fun a w => ∃ x5 : List Int, ∃ x6 : Int, some ((x5, x6)) = some o4 ∧ Fr 61 [] [(0, v1), (2, .slice none 0 0), (3, .int .i64 x6)] a ∧ Stw ⟨Y, X, w0⟩ [] [row v1 3 (Rp.int .i64) x5] w) ?_ ?_
     ·
      have H := G4
      clear G4 K4
      refine Ah (Ac ?_)
      refine ls F W Aa (Ag F Aa).q fun a w F W => ?_
      refine Ae (Ab (As ?_))
      refine Bb H (fun s a w => Fr 61 [] [(0, v1), (2, .slice none 0 0), (3, .int .i64 s.2.1), (4, (Er v1 x1 (p0.length : Int) 1)), (5, .int .i64 s.2.2)] a ∧ Stw ⟨Y, X, w0⟩ [] [row v1 3 (Rp.int .i64) s.1] w) ⟨F.re ⟨rfl, Aa, Aa, Aa, Aa, trivial⟩, W⟩ fun s o a w H L5 hR => ?_
      obtain ⟨x7, x8, x9⟩ := s
      obtain ⟨F, W⟩ := hR
      have F : Fr 61 [] [(0, v1), (2, .slice none 0 0), (3, .int .i64 x8), (4, (Er v1 x1 (p0.length : Int) 1)), (5, .int .i64 x9)] a := F
      have W : Stw ⟨Y, X, w0⟩ [] [row v1 3 (Rp.int .i64) x7] w := W
      rw [BW] at H
      refine Ah (Ah (Ac ?_))
      iterate 2 refine ls F W Aa (Ad F Aa).q fun a w F W => ?_
      obtain ⟨x10, h4, H⟩ := Ak H
      refine ls F W Aa (B0 (r := (Rp.int .i64)) (l := x10) Hr Aa F Aa (I2 (An 0 Aa) h4)).q fun a w F W => ?_
      refine ls F W Aa (Bu F Aa Aa).q fun a w F W => ?_
      refine Ae (Ab ?_)
      refine AA F Aa (fun hb => ?_) fun hb => ?_
      ·
       have H := AS (BD hb) H
       rw [hb] at F
       clear hb
       refine Av (Ab ?_)
       obtain ⟨o6, G6, K6⟩ := Ak H
       refine AM (fun a w => ∃ x11 : List Int, ∃ x12 : Int, some ((x11, x12)) = some o6 ∧ Fr 61 [] [(0, v1), (2, .slice none 0 0), (3, .int .i64 x12), (4, (Er v1 x1 (p0.length : Int) 1)), (5, .int .i64 x9)] a ∧ Stw ⟨Y, X, w0⟩ [] [row v1 3 (Rp.int .i64) x11] w) ?_ ?_
       ·
        have H := G6
        clear G6 K6
        refine As (Ah ?_)
        refine BV W MO (by kernel_rfl) ?_
        iterate 2 refine qs F Aa (Ad F Aa).q fun a F => ?_
        obtain ⟨x13, h5, H⟩ := Ak H
        refine qs F Aa (Ax (r := (Rp.int .i64)) GD F Aa Aa (I2 (An 0 Aa) h4) h5).q fun a F => ?_
        refine qs F Aa (Ao (y := Value.int .i64 x13) (j := 0) (i := x9) F Aa Aa (I2 (An 0 Aa) h4) h5 Fl.int.to T3 Aa).q fun a F => ?_
        iterate 2 refine qs F Aa (Ad F Aa).q fun a F => ?_
        refine qs F Aa (Cx F Aa Aa Aa).q fun a F => ?_
        obtain ⟨x14, h6, H⟩ := Ak H
        refine qs F Aa (Ax (r := (Rp.int .i64)) GD F Aa Aa (I2 (An 0 Aa) h4) h6).q fun a F => ?_
        refine qs F Aa (Ao (y := Value.int .i64 x14) (j := 0) (i := AB (x9 - 1)) F Aa Aa (I2 (An 0 Aa) h4) h6 Fl.int.to T3 Aa).q fun a F => ?_
        refine qs F Aa (HL F Aa Aa).q fun a F => ?_
        refine AY fun w W => ?_
        refine Ab ?_
        refine AA F Aa (fun hb => ?_) fun hb => ?_
        ·
         have H := AS (BD hb) H
         rw [hb] at F
         clear hb
         refine Ah (Ac ?_)
         iterate 4 refine ls F W Aa (Ad F Aa).q fun a w F W => ?_
         obtain ⟨x15, h7, H⟩ := Ak H
         refine ls F W Aa (Ax (r := (Rp.int .i64)) GD F Aa Aa (I2 (An 0 Aa) h4) h7).q fun a w F W => ?_
         refine ls F W Aa (Ao (y := Value.int .i64 x15) (j := 0) (i := x9) F Aa Aa (I2 (An 0 Aa) h4) h7 Fl.int.to T3 Aa).q fun a w F W => ?_
         obtain ⟨x16, h8, H⟩ := Ak H
         refine ls F W Aa (Ax (r := (Rp.int .i64)) GD F Aa Aa (An 0 Aa) h8).q fun a w F W => ?_
         refine Bz (i := x8) (j := 0) (vs := [.int .i64 x15]) (x' := x15) F W Aa Aa Aa (k := 0) Aa Aa h8 T3 Aa Aa Aa Aa (fun A cs _ => Fl.int.sto (by rfl) _ _ _) fun w W => ?_
         refine Ae (Ab (Ac ?_))
         refine ls F W Aa (Ad F Aa).q fun a w F W => ?_
         refine ls F W Aa (BC F Aa Aa Aa).q fun a w F W => ?_
         refine ls F W Aa (Ag F Aa).q fun a w F W => ?_
         refine Ae (AP (Ab ?_))
         exact ⟨_, _, H, F.re ⟨rfl, Aa, Aa, Aa, Aa, trivial⟩, W⟩
        have H := AR (BB hb) H
        rw [hb] at F
        clear hb
        refine Av (AP (Ab ?_))
        exact ⟨_, _, H, F.re ⟨rfl, Aa, Aa, Aa, Aa, trivial⟩, W⟩
       rintro a w ⟨x11, x12, hj, F, W⟩
       have hj := AV hj
       subst hj
       have H := K6
       clear G6 K6
       refine Ac ?_
       refine ls F W Aa (Ad F Aa).q fun a w F W => ?_
       refine ls F W Aa (BC F Aa Aa Aa).q fun a w F W => ?_
       refine ls F W Aa (Ag F Aa).q fun a w F W => ?_
       refine Ae (Ab ?_)
       exact ⟨_, H, F.re ⟨rfl, Aa, Aa, Aa, Aa, trivial⟩, W⟩
      have H := AR (BB hb) H
      rw [hb] at F
      clear hb
      refine A8 ?_
      iterate 2 refine Bq ?_
      refine A9 (Ab ?_)
      have H := L5 _ H
      exact ⟨_, _, H, F.re ⟨rfl, Aa, Aa, trivial⟩, W⟩
     rintro a w ⟨x5, x6, hj, F, W⟩
     have hj := AV hj
     subst hj
     have H := K4
     clear G4 K4
     refine Ah (Ac ?_)
     iterate 2 refine ls F W Aa (Ad F Aa).q fun a w F W => ?_
     obtain ⟨x17, h9, H⟩ := Ak H
     refine ls F W Aa (MW (r := (Rp.int .i64)) GD F Aa Aa Aa (An 0 Aa) h9).q fun a w F W => ?_
     obtain ⟨x18, h10, H⟩ := Ak H
     refine QV (r := (Rp.int .i64)) (v := v1) (k := 0) (0 : Int) F W GD Z3 Aa Aa Aa h9 (fun w A => Fl.int.mk' w A (0 : Int)) h10 fun w W => ?_
     have W : Stw ⟨Y, X, w0⟩ [] [row v1 3 (Rp.int .i64) x18] w := W
     refine Ae (Ab (Ah (Ac ?_)))
     iterate 2 refine ls F W Aa (Ad F Aa).q fun a w F W => ?_
     obtain ⟨x19, h11, H⟩ := Ak H
     refine ls F W Aa (MW (r := (Rp.int .i64)) GD F Aa Aa Aa (An 0 Aa) h11).q fun a w F W => ?_
     refine ls F W Aa (Ag F Aa).q fun a w F W => ?_
     refine Ae (Ab (AF (AQ ?_)))
     iterate 2 refine AH ?_
     refine AQ (AH ?_)
     have H := L3 _ H
     have H := L2 _ H
     have H := L1 _ H
     have H := AV H
     subst H
     refine BK (.inl Aa) F W Aa (Ay F Aa) ?_
     have W := W.subRow (k := 0) Aa Aa h11
     exact ⟨((Er v1 (0 : Int) x6 1)), Aa, W⟩
    have H := AR (BB hb) H
    rw [hb] at F
    clear hb
    refine Av (AP (Ab ?_))
    exact ⟨H, F.re ⟨rfl, Aa, Aa, trivial⟩, W⟩
   rintro a w ⟨hj, F, W⟩
   have H := K3 _ hj
   clear hj G3 K3 L3
   refine Ac ?_
   refine ls F W Aa (Ad F Aa).q fun a w F W => ?_
   refine ls F W Aa (BC F Aa Aa Aa).q fun a w F W => ?_
   refine ls F W Aa (Ag F Aa).q fun a w F W => ?_
   refine Ae (Ab ?_)
   exact ⟨_, H, F.re ⟨rfl, Aa, Aa, trivial⟩, W⟩
  have H := AR (BB hb) H
  rw [hb] at F
  clear hb
  refine A8 ?_
  iterate 2 refine Bq ?_
  refine A9 (Ab ?_)
  have H := L2 _ H
  exact ⟨H, F.re ⟨rfl, Aa, trivial⟩, W⟩
 rintro a w ⟨hj, F, W⟩
 have H := K1 _ hj
 clear hj G1 K1 L1
 refine Ah (Ac ?_)
 refine ls F W Aa (Ad F Aa).q fun a w F W => ?_
 refine ls F W Aa (Ag F Aa).q fun a w F W => ?_
 refine Ae (Ab (AF ?_))
 have H := AV H
 subst H
 refine BK (.inl Aa) F W Aa (Ay F Aa) ?_
 exact ⟨(v1), Aa, W⟩
theorem Um : Has Try.prog 54 := ⟨fun args w => Al Try.func54 rfl (by decide) args w⟩
noncomputable def Dk (p0 : List Int) : Option (List Int) := (Da p0).bind fun x1 => (CB x1).bind fun x2 => some x2
theorem Ib (Y : Nat → Prop) (X : List Nat) (w0 : World) (v1 : Value) (p0 : List Int) (r : List Int) (H : Dk p0 = some r) (hL : Stw ⟨Y, X, w0⟩ [] [row v1 3 (Rp.int .i64) p0] w0) :
    Calls Try.prog 34 #[v1] w0 fun e w' => ∃ x : Value, e = .returned (x) ∧ Stw ⟨Y, X, w0⟩ [] [row (x) 3 (Rp.int .i64) r] w' := by
 refine enter Try.func34 Aa Try.ntmps34 Aa fun a F => ?_
 have W := hL
 unfold Dk at H
 refine Ah (Ac ?_)
 refine ls F W Aa (Ag F Aa).q fun a w F W => ?_
 refine Ae (Ab (Ah (Ac ?_)))
 refine ls F W Aa (Ad F Aa).q fun a w F W => ?_
 obtain ⟨x1, h1, H⟩ := Ak H
 refine B7 (Ml := []) (Zl := [row v1 3 (Rp.int .i64) p0]) (M := []) (Z := []) (β := Unit) (rv := fun x => .tuple #[]) (MM := fun x => []) (ZZ := fun x => [row v1 3 (Rp.int .i64) x1]) F W Tj Aa Aa (fun hL => Je _ _ w (v1) p0 _ h1 hL) fun x a w F W => ?_
 have W : Stw ⟨Y, X, w0⟩ [] [row v1 3 (Rp.int .i64) x1] w := W
 refine Ae (Ab (Ah (Ac ?_)))
 refine ls F W Aa (Ad F Aa).q fun a w F W => ?_
 obtain ⟨x2, h2, H⟩ := Ak H
 refine B7 (Ml := []) (Zl := [row v1 3 (Rp.int .i64) x1]) (M := []) (Z := []) (β := Value) (rv := fun x => x) (MM := fun x => []) (ZZ := fun x => [row x 3 (Rp.int .i64) x2]) F W Um Aa Aa (fun hL => Ip _ _ w (v1) x1 _ h2 hL) fun x a w F W => ?_
 obtain ⟨v2, rfl⟩ : ∃ y, y = x := ⟨x, rfl⟩
 have W : Stw ⟨Y, X, w0⟩ [] [row v2 3 (Rp.int .i64) x2] w := W
 refine ls F W Aa (Ag F Aa).q fun a w F W => ?_
 refine Ae (Ab (AF ?_))
 have H := AV H
 subst H
 refine BK (.inl Aa) F W Aa (Ay F Aa) ?_
 exact ⟨(v2), Aa, W⟩
theorem S3 : Has Try.prog 34 := ⟨fun args w => Al Try.func34 rfl (by decide) args w⟩
noncomputable def Gi (p0 : List (Int × Int × Int × Int)) : (List Int × Int) → Option ((List Int × Int) ⊕ (List Int))
  | (x2, x3) => (if x3 < (p0.length : Int) then (ix p0 x3).bind fun x4 => (Ld x2 ([x4.2.2.2] : List Int)).bind fun x5 => some (.inl (x5, AB (x3 + 1))) else some (.inr x2))
noncomputable def GN (p0 : List (Int × Int × Int × Int)) : Option (List Int) := (AG (Gi p0) ([], 0)).bind fun x1 => (Dk x1).bind fun x6 => some x6
theorem Ly (Y : Nat → Prop) (w0 : World) (v1 : Value) (p0 : List (Int × Int × Int × Int)) (r : List Int) (H : GN p0 = some r) (h_v1 : Sl w0 (NX []) Bj v1 p0) :
    Calls Try.prog 23 #[v1] w0 fun e w' => ∃ x : Value, e = .returned (x) ∧ Stw ⟨Y, [], w0⟩ [] [row (x) 3 (Rp.int .i64) r] w' := by
 refine enter Try.func23 Aa Try.ntmps23 Aa fun a F => ?_
 have W := Stw.start Y w0
 unfold GN at H
 refine Ah (Ac ?_)
 refine ls F W Aa (Ag F Aa).q fun a w F W => ?_
 refine Ae (Ab (Ah (Ac ?_)))
 refine ls F W Aa (Ag F Aa).q fun a w F W => ?_
 refine Ae (Ab ?_)
 obtain ⟨o1, G1, K1⟩ := Ak H
 refine AM (fun a w => ∃ x1 : List Int, ∃ v2 : Value, some (x1) = some o1 ∧ Fr 20 [] [(2, .slice none 0 0), (3, v2)] a ∧ Stw ⟨Y, [], w0⟩ [] [row v2 3 (Rp.int .i64) x1] w) ?_ ?_
 ·
  have H := G1
  clear G1 K1
  refine Ah (Ac ?_)
  refine ls F W Aa (Ad F Aa).q fun a w F W => ?_
  refine ls F W Aa (B0 (r := Bj) (l := p0) Pa Aa F Aa (Am h_v1)).q fun a w F W => ?_
  refine ls F W Aa (Ad F Aa).q fun a w F W => ?_
  refine Ae (Ab (As ?_))
  have W := W.nilRow 3 (Rp.int .i64)
  refine Bb H (fun s a w => ∃ v3 : Value, Fr 20 [] [(2, .slice none 0 0), (3, v3), (6, v1), (7, .int .i64 (p0.length : Int)), (8, .int .i64 s.2)] a ∧ Stw ⟨Y, [], w0⟩ [] [row v3 3 (Rp.int .i64) s.1] w) ⟨(Value.slice none 0 0), F.re ⟨rfl, Aa, Aa, Aa, Aa, trivial⟩, W⟩ fun s o a w H L2 hR => ?_
  obtain ⟨x2, x3⟩ := s
  obtain ⟨v3, F, W⟩ := hR
  have F : Fr 20 [] [(2, .slice none 0 0), (3, v3), (6, v1), (7, .int .i64 (p0.length : Int)), (8, .int .i64 x3)] a := F
  have W : Stw ⟨Y, [], w0⟩ [] [row v3 3 (Rp.int .i64) x2] w := W
  rw [Gi] at H
  refine Ah (Ac ?_)
  refine ls F W Aa (Bu F Aa Aa).q fun a w F W => ?_
  refine Ae (Ab (Ah ?_))
  refine AA F Aa (fun hb => ?_) fun hb => ?_
  ·
   have H := AS (BD hb) H
   rw [hb] at F
   clear hb
   refine Av (Ab (Ah (As (Ah (Ac ?_)))))
   obtain ⟨x4, h1, H⟩ := Ak H
   refine ls F W Aa (Ax (r := Bj) Ew F Aa Aa (Am h_v1) h1).q fun a w F W => ?_
   refine ls F W Aa (Ao (y := Value.agg #[.int .i64 x4.1, .int .i64 x4.2.1, .int .i64 x4.2.2.1, .int .i64 x4.2.2.2]) (j := 0) (i := x3) F Aa Aa (Am h_v1) h1 Ez.to Eh Aa).q fun a w F W => ?_
   refine DX (cs := [.int .i64 0, .int .i64 0, .int .i64 0, .int .i64 0]) F W Aa Sv Aa fun b1 a w F W => ?_
   refine DC (vs := [.int .i64 x4.1, .int .i64 x4.2.1, .int .i64 x4.2.2.1, .int .i64 x4.2.2.2]) (M' := [(b1, [.int .i64 x4.1, .int .i64 x4.2.1, .int .i64 x4.2.2.1, .int .i64 x4.2.2.2])]) 0 F W Aa Aa Aa Eh Aa Aa Aa Aa Aa fun w W => ?_
   refine Ae (Ab (Ac ?_))
   refine ls F W Aa (Ad F Aa).q fun a w F W => ?_
   refine ls F W Aa (Aj G0 Aa Aa Aa T3 F Aa 3 Aa).q fun a w F W => ?_
   refine ls F W Aa (Aw (v := Value.int .i64 x4.2.2.2) 0 F Aa Aa T3 Aa).q fun a w F W => ?_
   refine Fm (z := Value.int .i64 0) (cs := [.int .i64 x4.2.2.2]) (Rp.int .i64) ([x4.2.2.2] : List Int) F W Aa GD Z3 Aa Aa Aa Aa Aa Aa (Fl.int.repL _ _ ([x4.2.2.2] : List Int)) fun v4 a w F W => ?_
   obtain ⟨x5, h2, H⟩ := Ak H
   refine Fj (r := (Rp.int .i64)) (i := 1) F W Aa GD Aa Aa Aa Aa (GP W 0 Aa) h2 Aa fun v5 a w F W => ?_
   have W : Stw ⟨Y, [], w0⟩ [(b1, [.int .i64 x4.1, .int .i64 x4.2.1, .int .i64 x4.2.2.1, .int .i64 x4.2.2.2])] [row v5 3 (Rp.int .i64) x5, row v4 3 (Rp.int .i64) ([x4.2.2.2] : List Int)] w := W
   refine ls F W Aa (Ag F Aa).q fun a w F W => ?_
   refine Ae (AP (Ab (Ac ?_)))
   refine ls F W Aa (BC F Aa Aa Aa).q fun a w F W => ?_
   refine ls F W Aa (Ad F Aa).q fun a w F W => ?_
   refine Ae (Ab ?_)
   have W := W.sub (M' := []) (Z' := [row v5 3 (Rp.int .i64) x5]) (List.nil_sublist _) (List.Sublist.cons_cons _ (List.nil_sublist _))
   exact ⟨_, H, (v5), F.re ⟨rfl, Aa, Aa, Aa, Aa, trivial⟩, W⟩
  have H := AR (BB hb) H
  rw [hb] at F
  clear hb
  refine A8 ?_
  iterate 2 refine Bq ?_
  refine A9 (Ab ?_)
  have H := L2 _ H
  exact ⟨_, (v3), H, F.re ⟨rfl, Aa, trivial⟩, W⟩
 rintro a w ⟨x1, v2, hj, F, W⟩
 have hj := AV hj
 subst hj
 have H := K1
 clear G1 K1
 refine Ah (Ac ?_)
 refine ls F W Aa (Ad F Aa).q fun a w F W => ?_
 obtain ⟨x6, h3, H⟩ := Ak H
 refine B7 (Ml := []) (Zl := [row v2 3 (Rp.int .i64) x1]) (M := []) (Z := []) (β := Value) (rv := fun x => x) (MM := fun x => []) (ZZ := fun x => [row x 3 (Rp.int .i64) x6]) F W S3 Aa Aa (fun hL => Ib _ _ w (v2) x1 _ h3 hL) fun x a w F W => ?_
 obtain ⟨v6, rfl⟩ : ∃ y, y = x := ⟨x, rfl⟩
 have W : Stw ⟨Y, [], w0⟩ [] [row v6 3 (Rp.int .i64) x6] w := W
 refine ls F W Aa (Ag F Aa).q fun a w F W => ?_
 refine Ae (Ab (AF ?_))
 have H := AV H
 subst H
 refine BK (.inl Aa) F W Aa (Ay F Aa) ?_
 exact ⟨(v6), Aa, W⟩
end Go.Proofs.Ythiejmoddfenlaa
