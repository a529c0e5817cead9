/- The functions of layer 24, Hp. Conditions: none. -/
import Derived.Test.YtjcaadbafjgefaatA2
namespace Go.Proofs.Ytjcaadbafjgefaa
open Go Go.RowKit
set_option linter.unusedVariables false
set_option linter.unusedSimpArgs false
set_option maxRecDepth 20000
theorem Si : type_of% Try.underlying157 := Try.underlying157
theorem Ua : Has Try.prog 94 := ⟨fun args w => An Try.func94 rfl (by decide) args w⟩
noncomputable def BK (p1 : Int) (p2 : Int) (x1 : Int) : ((List (Int × Int × Int × Int)) × Int × Int) → Option (((List (Int × Int × Int × Int)) × Int × Int) ⊕ (List (Int × Int × Int × Int)))
  | (x2, x3, x4) => (if x3 ≤ (AA ((AA (p1 + (AA ((AA (Int.tdiv (AA (p2 - p1)) 4)) * 2)))) + 1)) then (if (AA (p2 - p1)) ≤ (AA (Oz .u64 ((B0 x4).1) (IntKind.u64.wrap (x1 - 1)))) then some (AA ((AA (Oz .u64 ((B0 x4).1) (IntKind.u64.wrap (x1 - 1)))) - (AA (p2 - p1)))) else some (AA (Oz .u64 ((B0 x4).1) (IntKind.u64.wrap (x1 - 1))))).bind fun x5 => (ix x2 (AA (p1 + x5))).bind fun x6 => (ix x2 x3).bind fun x7 => (ix x2 x3).bind fun x8 => (ix (AQ x2 x3 x6) (AA (p1 + x5))).bind fun x9 => some (.inl ((AQ (AQ x2 x3 x6) (AA (p1 + x5)) x7), AA (x3 + 1), (B0 x4).2)) else some (.inr x2))
noncomputable def Bx (p0 : List (Int × Int × Int × Int)) (p1 : Int) (p2 : Int) : Option (List (Int × Int × Int × Int)) := (if 8 ≤ (AA (p2 - p1)) then (C4 (AA (p2 - p1))).bind fun x1 => AE (BK p1 p2 x1) (p0, AA ((AA (p1 + (AA ((AA (Int.tdiv (AA (p2 - p1)) 4)) * 2)))) - 1), IntKind.u64.wrap (AA (p2 - p1))) else some p0)
theorem Fa (Y : Nat → Prop) (X : List Nat) (w0 : World) (v1 : Value) (p0 : List (Int × Int × Int × Int)) (p1 : Int) (p2 : Int) (r : (List (Int × Int × Int × Int))) (H : Bx p0 p1 p2 = some r) (hL : Stw ⟨Y, X, w0⟩ [] [row v1 85 A8 p0] w0) :
    Calls Try.prog 74 #[v1, .int .i64 p1, .int .i64 p2, .func (.func 37) #[] #[]] w0 fun e w' => ∃ x : Unit, e = .returned (.tuple #[]) ∧ Stw ⟨Y, X, w0⟩ [] [row v1 85 A8 r] w' := by
 refine enter Try.func74 Aa Try.ntmps74 Aa fun a F => ?_
 have W := hL
 unfold Bx at H
 refine Ah (Ac ?_)
 iterate 2 refine ls F W Aa (Ad F Aa).q fun a w F W => ?_
 refine ls F W Aa (B5 F Aa Aa Aa).q fun a w F W => ?_
 refine ls F W Aa (Af F Aa).q fun a w F W => ?_
 refine Ae (Ab (Ah (Ac ?_)))
 refine ls F W Aa (Ad F Aa).q fun a w F W => ?_
 refine ls F W Aa (Dj F Aa Aa).q fun a w F W => ?_
 refine Ae (Ab ?_)
 refine Aw F Aa (fun hb => ?_) fun hb => ?_
 ·
  have H := AL (A6 hb) H
  rw [hb] at F
  clear hb
  refine Ah (Ac ?_)
  refine ls F W Aa (Ad F Aa).q fun a w F W => ?_
  refine ls F W Aa (IV Oj Si F Aa).q fun a w F W => ?_
  refine Cn (cs := [.int .u64 0]) F W Aa SS Aa fun b1 a w F W => ?_
  refine Br (vs := [.int .u64 (IntKind.u64.wrap (AA (p2 - p1)))]) (M' := [(b1, [.int .u64 (IntKind.u64.wrap (AA (p2 - p1)))])]) 0 F W Aa Aa Aa LR Aa Aa Aa Aa Aa fun w W => ?_
  refine Ae (Ab (Ah (Ac ?_)))
  refine ls F W Aa (Ad F Aa).q fun a w F W => ?_
  obtain ⟨x1, h1, H⟩ := Al H
  refine ls F W Aa (BH (v := Value.int .u64 x1) F TZ Aa (fun w W => IG any w (AA (p2 - p1)) _ h1)) fun a w F W => ?_
  refine ls F W Aa (Af F Aa).q fun a w F W => ?_
  refine Ae (Ab (Ah (Ac ?_)))
  iterate 2 refine ls F W Aa (Ad F Aa).q fun a w F W => ?_
  refine ls F W Aa (JH F Aa Aa (by decide) Aa).q fun a w F W => ?_
  refine ls F W Aa (I5 F Aa Aa Aa).q fun a w F W => ?_
  refine ls F W Aa (A3 F Aa Aa Aa).q fun a w F W => ?_
  refine ls F W Aa (B5 F Aa Aa Aa).q fun a w F W => ?_
  refine ls F W Aa (Af F Aa).q fun a w F W => ?_
  refine Ae (Ab (wp_block ?_))
  refine A1 H (fun s a w => Fr 67 [] [(0, v1), (1, .int .i64 p1), (8, .int .i64 (AA (p2 - p1))), (9, .pointer (some ⟨b1, 0, none⟩)), (10, .int .u64 x1), (11, .int .i64 s.2.1)] a ∧ Stw ⟨Y, X, w0⟩ [(b1, [.int .u64 s.2.2])] [row v1 85 A8 s.1] w) ⟨F.re ⟨rfl, Aa, Aa, Aa, Aa, Aa, trivial⟩, W⟩ fun s o a w H L1 hR => ?_
  obtain ⟨x2, x3, x4⟩ := s
  obtain ⟨F, W⟩ := hR
  have F : Fr 67 [] [(0, v1), (1, .int .i64 p1), (8, .int .i64 (AA (p2 - p1))), (9, .pointer (some ⟨b1, 0, none⟩)), (10, .int .u64 x1), (11, .int .i64 x3)] a := F
  have W : Stw ⟨Y, X, w0⟩ [(b1, [.int .u64 x4])] [row v1 85 A8 x2] w := W
  rw [BK] at H
  refine Ah (Ah (Ac ?_))
  iterate 3 refine ls F W Aa (Ad F Aa).q fun a w F W => ?_
  refine ls F W Aa (JH F Aa Aa (by decide) Aa).q fun a w F W => ?_
  refine ls F W Aa (I5 F Aa Aa Aa).q fun a w F W => ?_
  iterate 2 refine ls F W Aa (A3 F Aa Aa Aa).q fun a w F W => ?_
  refine ls F W Aa (HJ F Aa Aa).q fun a w F W => ?_
  refine Ae (Ab ?_)
  refine Aw F Aa (fun hb => ?_) fun hb => ?_
  ·
   have H := AL (A6 hb) H
   rw [hb] at F
   clear hb
   refine wp_skip (Ab (Ah (wp_block (Ah (Ac ?_)))))
   refine Bp (Ml := [(b1, [.int .u64 x4])]) (Zl := []) (M := []) (Z := [row v1 85 A8 x2]) (β := Unit) (rv := fun x => .int .u64 ((B0 x4).1)) (MM := fun x => [(b1, [.int .u64 ((B0 x4).2)])]) (ZZ := fun x => []) F W Ua Aa Aa (fun hL => IP _ _ w b1 x4 _ Aa hL) fun x a w F W => ?_
   have W : Stw ⟨Y, X, w0⟩ [(b1, [.int .u64 ((B0 x4).2)])] [row v1 85 A8 x2] w := W
   refine ls F W Aa (Ad F Aa).q fun a w F W => ?_
   refine ls F W Aa (B5 F Aa Aa Aa).q fun a w F W => ?_
   refine ls F W Aa (Sw F Aa Aa).q fun a w F W => ?_
   refine ls F W Aa (IV OY Oj F Aa).q fun a w F W => ?_
   refine ls F W Aa (Af F Aa).q fun a w F W => ?_
   refine Ae (Ab ?_)
   obtain ⟨o2, G2, K2⟩ := Al H
   refine AC (fun a w => ∃ x5 : Int, some (x5) = some o2 ∧ Fr 67 [] [(0, v1), (1, .int .i64 p1), (8, .int .i64 (AA (p2 - p1))), (9, .pointer (some ⟨b1, 0, none⟩)), (10, .int .u64 x1), (11, .int .i64 x3), (12, .int .i64 x5)] a ∧ Stw ⟨Y, X, w0⟩ [(b1, [.int .u64 ((B0 x4).2)])] [row v1 85 A8 x2] w) ?_ ?_
   ·
    have H := G2
    clear G2 K2
    refine Ah (Ac ?_)
    iterate 2 refine ls F W Aa (Ad F Aa).q fun a w F W => ?_
    refine ls F W Aa (Dj F Aa Aa).q fun a w F W => ?_
    refine Ae (Ab ?_)
    refine Aw F Aa (fun hb => ?_) fun hb => ?_
    ·
     have H := AL (A6 hb) H
     rw [hb] at F
     clear hb
     refine Ac ?_
     iterate 2 refine ls F W Aa (Ad F Aa).q fun a w F W => ?_
     refine ls F W Aa (B5 F Aa Aa Aa).q fun a w F W => ?_
     refine ls F W Aa (Af F Aa).q fun a w F W => ?_
     refine Ae (Ab ?_)
     exact ⟨_, H, F.re ⟨rfl, Aa, Aa, Aa, Aa, Aa, Aa, trivial⟩, W⟩
    have H := AK (A7 hb) H
    rw [hb] at F
    clear hb
    refine wp_skip (Ab ?_)
    exact ⟨_, H, F.re ⟨rfl, Aa, Aa, Aa, Aa, Aa, Aa, trivial⟩, W⟩
   rintro a w ⟨x5, hj, F, W⟩
   have hj := AM hj
   subst hj
   have H := K2
   clear G2 K2
   refine Ev [(true, 0), (true, 1), (true, 2), (true, 3), (true, 4), (true, 5), (true, 6), (true, 7), (true, 8), (true, 9), (true, 10), (true, 11), (true, 12), (true, 13), (true, 14), (true, 15), (true, 16), (false, 17), (true, 18), (false, 19)] (CN ⟨Y, X, w0⟩ [] [(some 17, row v1 85 A8 x2)]) (fun ch a d v w h => by cases d <;> exact h) MO (by kernel_rfl) W (fun w W => ⟨_, _, W, AB, (Bi (fun _ => (.head _)) AB)⟩) fun w W => ?_
   iterate 5 refine Bo (R := []) F Aa Aa (yC fun M Z hN hZ => Ad F Aa) Aa Aa fun a F => ?_
   refine Bo (R := []) F Aa Aa (yC fun M Z hN hZ => A3 F Aa Aa Aa) Aa Aa fun a F => ?_
   iterate 3 refine Bo (R := []) F Aa Aa (yC fun M Z hN hZ => Ad F Aa) Aa Aa fun a F => ?_
   refine Bo (R := []) F Aa Aa (yC fun M Z hN hZ => A3 F Aa Aa Aa) Aa Aa fun a F => ?_
   obtain ⟨x6, h2, H⟩ := Al H
   refine Bo (R := []) F Aa Aa (yC fun M Z hN hZ => Bu (r := A8) Eb F Aa Aa (CT W (Ao 0 Aa)) h2) Aa Aa fun a F => ?_
   refine Bo (R := [17]) F Aa Aa (yC fun M Z hN hZ => Ap (y := Value.agg #[.int .i64 x6.1, .int .i64 x6.2.1, .int .i64 x6.2.2.1, .int .i64 x6.2.2.2]) (j := 0) (i := AA (p1 + x5)) F Aa Aa (CO (hZ ((some 17), row v1 85 A8 x2) (.head _) Aa)) h2 Ek.to Ec Aa) (by kernel_rfl) Aa fun a F => ?_
   iterate 2 refine Bo (R := []) F Aa Aa (yC fun M Z hN hZ => Ad F Aa) Aa Aa fun a F => ?_
   obtain ⟨x7, h3, H⟩ := Al H
   refine Bo (R := []) F Aa Aa (yC fun M Z hN hZ => Bu (r := A8) Eb F Aa Aa (CT W (Ao 0 Aa)) h3) Aa Aa fun a F => ?_
   refine Bo (R := [17]) F Aa Aa (yC fun M Z hN hZ => Ap (y := Value.agg #[.int .i64 x7.1, .int .i64 x7.2.1, .int .i64 x7.2.2.1, .int .i64 x7.2.2.2]) (j := 0) (i := x3) F Aa Aa (CO (hZ ((some 17), row v1 85 A8 x2) (.head _) Aa)) h3 Ek.to Ec Aa) (by kernel_rfl) Aa fun a F => ?_
   obtain ⟨x8, h4, H⟩ := Al H
   refine Bo (R := []) F Aa Aa (yC fun M Z hN hZ => Bu (r := A8) Eb F Aa Aa (CT W (Ao 0 Aa)) h4) Aa Aa fun a F => ?_
   refine Gc Aa ?_
   refine Bh (i := x3) (j := 0) (vs := [.int .i64 x6.1, .int .i64 x6.2.1, .int .i64 x6.2.2.1, .int .i64 x6.2.2.2]) (x' := x6) F W Aa Aa Aa (k := 0) Aa Aa h4 Ec Aa Aa Aa Aa (fun A cs _ => Ek.sto (by rfl) _ _ _) fun w W => ?_
   refine CE (N2 := []) (NZ2 := []) (N3 := []) (NZ3 := [(some 17, row v1 85 A8 x2)]) W Aa Aa AB (Bi (fun h => Ch (by kernel_rfl) h) AB) ?_
   obtain ⟨x9, h5, H⟩ := Al H
   refine Bo (R := []) F Aa Aa (yC fun M Z hN hZ => Bu (r := A8) Eb F Aa Aa (CT W (Ao 0 Aa)) h5) Aa Aa fun a F => ?_
   refine Gc Aa ?_
   refine Bh (i := AA (p1 + x5)) (j := 0) (vs := [.int .i64 x7.1, .int .i64 x7.2.1, .int .i64 x7.2.2.1, .int .i64 x7.2.2.2]) (x' := x7) F W Aa Aa Aa (k := 0) Aa Aa h5 Ec Aa Aa Aa Aa (fun A cs _ => Ek.sto (by rfl) _ _ _) fun w W => ?_
   refine CE (N2 := []) (NZ2 := []) (N3 := []) (NZ3 := [(some 17, row v1 85 A8 x2)]) W Aa Aa AB (Bi (fun h => Ch (by kernel_rfl) h) AB) ?_
   refine Gs (AH (Ab (Ac ?_)))
   refine ls F W Aa (Ad F Aa).q fun a w F W => ?_
   refine ls F W Aa (A3 F Aa Aa Aa).q fun a w F W => ?_
   refine ls F W Aa (Af F Aa).q fun a w F W => ?_
   refine Ae (Ab ?_)
   exact ⟨_, H, F.re ⟨rfl, Aa, Aa, Aa, Aa, Aa, trivial⟩, W⟩
  have H := AK (A7 hb) H
  rw [hb] at F
  clear hb
  refine wp_exit ?_
  iterate 2 refine A5 ?_
  refine AU ?_
  have H := L1 _ H
  have H := AM H
  subst H
  refine Ic (.inr Aa) F Aa ?_
  have W := W.sub (M' := []) (Z' := [row v1 85 A8 x2]) (List.nil_sublist _) (List.Sublist.refl _)
  exact ⟨(), Aa, W⟩
 have H := AK (A7 hb) H
 rw [hb] at F
 clear hb
 refine wp_skip ?_
 have H := AM H
 subst H
 refine Ic (.inr Aa) F Aa ?_
 exact ⟨(), Aa, W⟩
theorem UF : Has Try.prog 74 := ⟨fun args w => An Try.func74 rfl (by decide) args w⟩
noncomputable def Ax (fRec : (List (Int × Int × Int × Int)) → Int → Int → Int → Option (List (Int × Int × Int × Int))) : ((List (Int × Int × Int × Int)) × Int × Int × Int × Bool × Bool) → Option (((List (Int × Int × Int × Int)) × Int × Int × Int × Bool × Bool) ⊕ (List (Int × Int × Int × Int)))
  | (x1, x2, x3, x4, x5, x6) => (if (AA (x3 - x2)) ≤ 12 then (Bv x1 x2 x3).bind fun x7 => some (.inr x7) else (if x4 = 0 then (Cb x1 x2 x3).bind fun x8 => some (.inr x8) else (if (!x5) = true then (Bx x1 x2 x3).bind fun x11 => some (x11, AA (x4 - 1)) else some (x1, x4)).bind fun (x9, x10) => (BW x9 x2 x3).bind fun x12 => (if x12.2 = 2 then (BG x9 x2 x3).bind fun x16 => some (x16, AA ((AA (x3 - 1)) - (AA (x12.1 - x2))), 1) else some (x9, x12.1, x12.2)).bind fun (x13, x14, x15) => E6 (if (x5 && (x6 && decide (x15 = 1))) = true then (Be x13 x2 x3).bind fun x18 => (if x18.1 = true then some (.inr (.inr x18.2)) else some (.inl x18.2)) else some (.inl x13)) fun x17 => (if 0 < x2 then (ix x17 (AA (x2 - 1))).bind fun x20 => (ix x17 x14).bind fun x21 => (B6 x20 x21).bind fun x22 => some (!(decide (x22 < 0))) else some false).bind fun x19 => (if x19 = true then (BO x17 x2 x3 x14).bind fun x23 => some (.inl (x23.2, x23.1, x3, x10, (x5 && (x6 || true)), (bif x5 then x6 else x6))) else (B9 x17 x2 x3 x14).bind fun x24 => (if (AA (x24.1 - x2)) < (AA (x3 - x24.1)) then (fRec x24.2.2 x2 x24.1 x10).bind fun x25 => some (.inl (x25, AA (x24.1 + 1), x3, x10, decide ((AA (Int.tdiv (AA (x3 - x2)) 8)) ≤ (AA (x24.1 - x2))), x24.2.1)) else (fRec x24.2.2 (AA (x24.1 + 1)) x3 x10).bind fun x26 => some (.inl (x26, x2, x24.1, x10, decide ((AA (Int.tdiv (AA (x3 - x2)) 8)) ≤ (AA (x3 - x24.1))), x24.2.1))))))
noncomputable def Bq (fRec : (List (Int × Int × Int × Int)) → Int → Int → Int → Option (List (Int × Int × Int × Int))) (p0 : List (Int × Int × Int × Int)) (p1 : Int) (p2 : Int) (p3 : Int) : Option (List (Int × Int × Int × Int)) := AE (Ax fRec) (p0, p1, p2, p3, true, true)
noncomputable def AJ : Nat → (List (Int × Int × Int × Int)) → Int → Int → Int → Option (List (Int × Int × Int × Int))
  | 0 => fun _ _ _ _ => none
  | n + 1 => Bq (AJ n)
noncomputable def Cu (p0 : List (Int × Int × Int × Int)) (p1 : Int) (p2 : Int) (p3 : Int) : Option (List (Int × Int × Int × Int)) := OU fun n => AJ n p0 p1 p2 p3
theorem FR (fRec : (List (Int × Int × Int × Int)) → Int → Int → Int → Option (List (Int × Int × Int × Int))) (ih : ∀ (Y : Nat → Prop) (X : List Nat) (w0 : World) (v1 : Value) (p0 : List (Int × Int × Int × Int)) (p1 : Int) (p2 : Int) (p3 : Int) (r : (List (Int × Int × Int × Int))) (H : fRec p0 p1 p2 p3 = some r) (hL : Stw ⟨Y, X, w0⟩ [] [row v1 85 A8 p0] w0), Calls Try.prog 53 #[v1, .int .i64 p1, .int .i64 p2, .int .i64 p3, .func (.func 37) #[] #[]] w0 fun e w' => ∃ x : Unit, e = .returned (.tuple #[]) ∧ Stw ⟨Y, X, w0⟩ [] [row v1 85 A8 r] w') (Y : Nat → Prop) (X : List Nat) (w0 : World) (v1 : Value) (p0 : List (Int × Int × Int × Int)) (p1 : Int) (p2 : Int) (p3 : Int) (r : (List (Int × Int × Int × Int))) (H : Bq fRec p0 p1 p2 p3 = some r) (hL : Stw ⟨Y, X, w0⟩ [] [row v1 85 A8 p0] w0) :
    Calls Try.prog 53 #[v1, .int .i64 p1, .int .i64 p2, .int .i64 p3, .func (.func 37) #[] #[]] w0 fun e w' => ∃ x : Unit, e = .returned (.tuple #[]) ∧ Stw ⟨Y, X, w0⟩ [] [row v1 85 A8 r] w' := by
 refine enter Try.func53 Aa Try.ntmps53 Aa fun a F => ?_
 have W := hL
 unfold Bq at H
 refine Ah (Ac ?_)
 refine ls F W Aa (Af F Aa).q fun a w F W => ?_
 refine Ae (Ab (Ah (Ac ?_)))
 refine ls F W Aa (Af F Aa).q fun a w F W => ?_
 refine Ae (Ab (wp_block ?_))
 refine A1 H (fun s a w => Fr 148 [] [(0, v1), (1, .int .i64 s.2.1), (2, .int .i64 s.2.2.1), (3, .int .i64 s.2.2.2.1), (4, .func (.func 37) #[] #[]), (10, .bool s.2.2.2.2.1), (11, .bool s.2.2.2.2.2)] a ∧ Stw ⟨Y, X, w0⟩ [] [row v1 85 A8 s.1] w) ⟨F.re ⟨rfl, Aa, Aa, Aa, Aa, Aa, Aa, trivial⟩, W⟩ fun s o a w H L1 hR => ?_
 obtain ⟨x1, x2, x3, x4, x5, x6⟩ := s
 obtain ⟨F, W⟩ := hR
 have F : Fr 148 [] [(0, v1), (1, .int .i64 x2), (2, .int .i64 x3), (3, .int .i64 x4), (4, .func (.func 37) #[] #[]), (10, .bool x5), (11, .bool x6)] a := F
 have W : Stw ⟨Y, X, w0⟩ [] [row v1 85 A8 x1] w := W
 rw [Ax] at H
 refine wp_block (Ah (Ac ?_))
 iterate 2 refine ls F W Aa (Ad F Aa).q fun a w F W => ?_
 refine ls F W Aa (B5 F Aa Aa Aa).q fun a w F W => ?_
 refine ls F W Aa (Af F Aa).q fun a w F W => ?_
 refine Ae (Ab (Ah (Ah (Ac ?_))))
 refine ls F W Aa (Ad F Aa).q fun a w F W => ?_
 refine ls F W Aa (HJ F Aa Aa).q fun a w F W => ?_
 refine Ae (Ab ?_)
 refine Aw F Aa (fun hb => ?_) fun hb => ?_
 ·
  have H := AL (A6 hb) H
  rw [hb] at F
  clear hb
  refine Ah (Ac ?_)
  iterate 4 refine ls F W Aa (Ad F Aa).q fun a w F W => ?_
  obtain ⟨x7, h1, H⟩ := Al H
  refine Bp (Ml := []) (Zl := [row v1 85 A8 x1]) (M := []) (Z := []) (β := Unit) (rv := fun x => .tuple #[]) (MM := fun x => []) (ZZ := fun x => [row v1 85 A8 x7]) F W Uv Aa Aa (fun hL => E8 _ _ w (v1) x1 x2 x3 _ h1 hL) fun x a w F W => ?_
  have W : Stw ⟨Y, X, w0⟩ [] [row v1 85 A8 x7] w := W
  refine Ae (Ab (wp_ret (AG (AO (AG (AO ?_))))))
  have H := L1 _ H
  have H := AM H
  subst H
  refine Ic (.inl Aa) F Aa ?_
  exact ⟨(), Aa, W⟩
 have H := AK (A7 hb) H
 rw [hb] at F
 clear hb
 refine wp_skip (Ab (Ah (Ah (Ac ?_))))
 refine ls F W Aa (Ad F Aa).q fun a w F W => ?_
 refine ls F W Aa (Cy F Aa Aa).q fun a w F W => ?_
 refine Ae (Ab ?_)
 refine Aw F Aa (fun hb => ?_) fun hb => ?_
 ·
  have H := AL (A6 hb) H
  rw [hb] at F
  clear hb
  refine Ah (Ac ?_)
  iterate 4 refine ls F W Aa (Ad F Aa).q fun a w F W => ?_
  obtain ⟨x8, h2, H⟩ := Al H
  refine Bp (Ml := []) (Zl := [row v1 85 A8 x1]) (M := []) (Z := []) (β := Unit) (rv := fun x => .tuple #[]) (MM := fun x => []) (ZZ := fun x => [row v1 85 A8 x8]) F W Vj Aa Aa (fun hL => F1 _ _ w (v1) x1 x2 x3 _ h2 hL) fun x a w F W => ?_
  have W : Stw ⟨Y, X, w0⟩ [] [row v1 85 A8 x8] w := W
  refine Ae (Ab (wp_ret (AG (AO (AG (AO ?_))))))
  have H := L1 _ H
  have H := AM H
  subst H
  refine Ic (.inl Aa) F Aa ?_
  exact ⟨(), Aa, W⟩
 have H := AK (A7 hb) H
 rw [hb] at F
 clear hb
 refine wp_skip (Ab ?_)
 obtain ⟨o2, G2, K2⟩ := Al H
 refine AC (fun a w => ∃ x9 : List (Int × Int × Int × Int), ∃ x10 : Int, some ((x9, x10)) = some o2 ∧ Fr 148 [] [(0, v1), (1, .int .i64 x2), (2, .int .i64 x3), (3, .int .i64 x10), (4, .func (.func 37) #[] #[]), (10, .bool x5), (11, .bool x6), (12, .int .i64 (AA (x3 - x2)))] a ∧ Stw ⟨Y, X, w0⟩ [] [row v1 85 A8 x9] w) ?_ ?_
 ·
  have H := G2
  clear G2 K2
  refine Ah (Ac ?_)
  refine ls F W Aa (Ad F Aa).q fun a w F W => ?_
  refine ls F W Aa (Dt F Aa).q fun a w F W => ?_
  refine Ae (Ab ?_)
  refine Aw F Aa (fun hb => ?_) fun hb => ?_
  ·
   have H := AL hb H
   rw [hb] at F
   clear hb
   refine Ah (Ac ?_)
   iterate 4 refine ls F W Aa (Ad F Aa).q fun a w F W => ?_
   obtain ⟨x11, h3, H⟩ := Al H
   refine Bp (Ml := []) (Zl := [row v1 85 A8 x1]) (M := []) (Z := []) (β := Unit) (rv := fun x => .tuple #[]) (MM := fun x => []) (ZZ := fun x => [row v1 85 A8 x11]) F W UF Aa Aa (fun hL => Fa _ _ w (v1) x1 x2 x3 _ h3 hL) fun x a w F W => ?_
   have W : Stw ⟨Y, X, w0⟩ [] [row v1 85 A8 x11] w := W
   refine Ae (Ab (Ac ?_))
   refine ls F W Aa (Ad F Aa).q fun a w F W => ?_
   refine ls F W Aa (B5 F Aa Aa Aa).q fun a w F W => ?_
   refine ls F W Aa (Af F Aa).q fun a w F W => ?_
   refine Ae (Ab ?_)
   exact ⟨_, _, H, F.re ⟨rfl, Aa, Aa, Aa, Aa, Aa, Aa, Aa, trivial⟩, W⟩
  have H := AK (by rw [hb]; decide) H
  rw [hb] at F
  clear hb
  refine wp_skip (Ab ?_)
  exact ⟨_, _, H, F.re ⟨rfl, Aa, Aa, Aa, Aa, Aa, Aa, Aa, trivial⟩, W⟩
 rintro a w ⟨x9, x10, hj, F, W⟩
 have hj := AM hj
 subst hj
 have H := K2
 clear G2 K2
 refine Ah (Ac ?_)
 iterate 4 refine ls F W Aa (Ad F Aa).q fun a w F W => ?_
 obtain ⟨x12, h4, H⟩ := Al H
 refine ls F W Aa (BH (v := Value.tuple #[.int .i64 x12.1, .int .i64 x12.2]) F Up Aa (fun w W => Fu any w (v1) x9 x2 x3 _ h4 (((Ao 0 Aa) : DT _ _ _ _ _ _) w W).nx)) fun a w F W => ?_
 refine ls F W Aa (Ad F Aa).q fun a w F W => ?_
 refine ls F W Aa (A0 (v := Value.int .i64 x12.1) F Aa Aa).q fun a w F W => ?_
 refine ls F W Aa (A0 (v := Value.int .i64 x12.2) F Aa Aa).q fun a w F W => ?_
 iterate 2 refine ls F W Aa (Af F Aa).q fun a w F W => ?_
 refine Ae (Ab ?_)
 obtain ⟨o3, G3, K3⟩ := Al H
 refine AC (fun a w => ∃ x13 : List (Int × Int × Int × Int), ∃ x14 : Int, ∃ x15 : Int, some ((x13, x14, x15)) = some o3 ∧ Fr 148 [] [(0, v1), (1, .int .i64 x2), (2, .int .i64 x3), (3, .int .i64 x10), (4, .func (.func 37) #[] #[]), (10, .bool x5), (11, .bool x6), (12, .int .i64 (AA (x3 - x2))), (13, .int .i64 x14), (14, .int .i64 x15)] a ∧ Stw ⟨Y, X, w0⟩ [] [row v1 85 A8 x13] w) ?_ ?_
 ·
  have H := G3
  clear G3 K3
  refine Ah (Ac ?_)
  refine ls F W Aa (Ad F Aa).q fun a w F W => ?_
  refine ls F W Aa (Cy F Aa Aa).q fun a w F W => ?_
  refine Ae (Ab ?_)
  refine Aw F Aa (fun hb => ?_) fun hb => ?_
  ·
   have H := AL (A6 hb) H
   rw [hb] at F
   clear hb
   refine Ah (Ac ?_)
   iterate 4 refine ls F W Aa (Ad F Aa).q fun a w F W => ?_
   obtain ⟨x16, h5, H⟩ := Al H
   refine Bp (Ml := []) (Zl := [row v1 85 A8 x9]) (M := []) (Z := []) (β := Unit) (rv := fun x => .tuple #[]) (MM := fun x => []) (ZZ := fun x => [row v1 85 A8 x16]) F W Vf Aa Aa (fun hL => Fh _ _ w (v1) x9 x2 x3 _ h5 hL) fun x a w F W => ?_
   have W : Stw ⟨Y, X, w0⟩ [] [row v1 85 A8 x16] w := W
   refine Ae (Ab (Ah (Ac ?_)))
   refine ls F W Aa (Ad F Aa).q fun a w F W => ?_
   refine ls F W Aa (B5 F Aa Aa Aa).q fun a w F W => ?_
   iterate 2 refine ls F W Aa (Ad F Aa).q fun a w F W => ?_
   iterate 2 refine ls F W Aa (B5 F Aa Aa Aa).q fun a w F W => ?_
   refine ls F W Aa (Af F Aa).q fun a w F W => ?_
   refine Ae (Ab (Ac ?_))
   refine ls F W Aa (Af F Aa).q fun a w F W => ?_
   refine Ae (Ab ?_)
   exact ⟨_, _, _, H, F.re ⟨rfl, Aa, Aa, Aa, Aa, Aa, Aa, Aa, Aa, Aa, trivial⟩, W⟩
  have H := AK (A7 hb) H
  rw [hb] at F
  clear hb
  refine wp_skip (Ab ?_)
  exact ⟨_, _, _, H, F.re ⟨rfl, Aa, Aa, Aa, Aa, Aa, Aa, Aa, Aa, Aa, trivial⟩, W⟩
 rintro a w ⟨x13, x14, x15, hj, F, W⟩
 have hj := AM hj
 subst hj
 have H := K3
 clear G3 K3
 obtain ⟨o4, G4, K4, L4⟩ := Jb H
 refine AC (fun a w => ∃ x17 : List (Int × Int × Int × Int), some (Sum.inl x17) = some o4 ∧ Fr 148 [] [(0, v1), (1, .int .i64 x2), (2, .int .i64 x3), (3, .int .i64 x10), (4, .func (.func 37) #[] #[]), (10, .bool (x5 && (x6 || true))), (11, .bool (bif x5 then x6 else x6)), (12, .int .i64 (AA (x3 - x2))), (13, .int .i64 x14)] a ∧ Stw ⟨Y, X, w0⟩ [] [row v1 85 A8 x17] w) ?_ ?_
 ·
  have H := G4
  clear G4 K4
  refine AC (fun a w => Fr 148 [] [(0, v1), (1, .int .i64 x2), (2, .int .i64 x3), (3, .int .i64 x10), (4, .func (.func 37) #[] #[]), (10, .bool (x5 && (x6 || true))), (11, .bool (bif x5 then x6 else x6)), (12, .int .i64 (AA (x3 - x2))), (13, .int .i64 x14), (75, .bool (x5 && (x6 && decide (x15 = 1))))] a ∧ Stw ⟨Y, X, w0⟩ [] [row v1 85 A8 x13] w) ?_ ?_
  ·
   refine Ac ?_
   iterate 2 refine ls F W Aa (Ad F Aa).q fun a w F W => ?_
   rcases Bool.eq_false_or_eq_true x5 with hb0 | hb0
   ·
    rw [hb0] at F
    refine AD F W (Ag F Aa Aa Aa Aa) Aa (Ak Aa) (Ad F Aa).q fun a w F W => ?_
    refine ls F W Aa (Aq F Aa Aa Aa).q fun a w F W => ?_
    refine ls F W Aa (Ad F Aa).q fun a w F W => ?_
    rcases Bool.eq_false_or_eq_true x6 with hb1 | hb1
    ·
     rw [hb1] at F
     refine AD F W (Ag F Aa Aa Aa Aa) Aa (Ak Aa) (Ad F Aa).q fun a w F W => ?_
     refine AD F W (Ag F Aa Aa Aa Aa) Aa (Ak Aa) (Cy F Aa Aa).q fun a w F W => ?_
     refine ls F W Aa (Aq F Aa Aa Aa).q fun a w F W => ?_
     refine Ae (Ab ?_)
     exact ⟨F.re ⟨rfl, Aa, Aa, Aa, Aa, (by show some (Value.bool true) = some (Value.bool (x5 && (x6 || true))); try rw [hb0]; try rw [hb1]; all_goals simp only [Bool.not_true, Bool.not_false, Bool.true_and, Bool.false_and, Bool.true_or, Bool.false_or, Bool.and_true, Bool.or_false, cond_true, cond_false]), (by show some (Value.bool true) = some (Value.bool (bif x5 then x6 else x6)); try rw [hb0]; try rw [hb1]; all_goals simp only [Bool.not_true, Bool.not_false, Bool.true_and, Bool.false_and, Bool.true_or, Bool.false_or, Bool.and_true, Bool.or_false, cond_true, cond_false]), Aa, Aa, (by show some (Value.bool (decide (x15 = 1))) = some (Value.bool (x5 && (x6 && decide (x15 = 1)))); try rw [hb0]; try rw [hb1]; all_goals simp only [Bool.not_true, Bool.not_false, Bool.true_and, Bool.false_and, Bool.true_or, Bool.false_or, Bool.and_true, Bool.or_false, cond_true, cond_false]), trivial⟩, W⟩
    rw [hb1] at F
    iterate 2 refine Cj F Aa Aa Aa Aa Aa Aa Aa fun a F => ?_
    refine ls F W Aa (Au F Aa Aa Aa).q fun a w F W => ?_
    refine Ae (Ab ?_)
    exact ⟨F.re ⟨rfl, Aa, Aa, Aa, Aa, (by show some (Value.bool true) = some (Value.bool (x5 && (x6 || true))); try rw [hb0]; try rw [hb1]; all_goals simp only [Bool.not_true, Bool.not_false, Bool.true_and, Bool.false_and, Bool.true_or, Bool.false_or, Bool.and_true, Bool.or_false, cond_true, cond_false]), (by show some (Value.bool false) = some (Value.bool (bif x5 then x6 else x6)); try rw [hb0]; try rw [hb1]; all_goals simp only [Bool.not_true, Bool.not_false, Bool.true_and, Bool.false_and, Bool.true_or, Bool.false_or, Bool.and_true, Bool.or_false, cond_true, cond_false]), Aa, Aa, (by show some (Value.bool false) = some (Value.bool (x5 && (x6 && decide (x15 = 1)))); try rw [hb0]; try rw [hb1]; all_goals simp only [Bool.not_true, Bool.not_false, Bool.true_and, Bool.false_and, Bool.true_or, Bool.false_or, Bool.and_true, Bool.or_false, cond_true, cond_false]), trivial⟩, W⟩
   rw [hb0] at F
   refine Cj F Aa Aa Aa Aa Aa Aa Aa fun a F => ?_
   refine ls F W Aa (Au F Aa Aa Aa).q fun a w F W => ?_
   refine ls F W Aa (Ad F Aa).q fun a w F W => ?_
   iterate 2 refine Cj F Aa Aa Aa Aa Aa Aa Aa fun a F => ?_
   refine ls F W Aa (Au F Aa Aa Aa).q fun a w F W => ?_
   refine Ae (Ab ?_)
   exact ⟨F.re ⟨rfl, Aa, Aa, Aa, Aa, (by show some (Value.bool false) = some (Value.bool (x5 && (x6 || true))); try rw [hb0]; all_goals simp only [Bool.not_true, Bool.not_false, Bool.true_and, Bool.false_and, Bool.true_or, Bool.false_or, Bool.and_true, Bool.or_false, cond_true, cond_false]), (by show some (Value.bool x6) = some (Value.bool (bif x5 then x6 else x6)); try rw [hb0]; all_goals simp only [Bool.not_true, Bool.not_false, Bool.true_and, Bool.false_and, Bool.true_or, Bool.false_or, Bool.and_true, Bool.or_false, cond_true, cond_false]), Aa, Aa, (by show some (Value.bool false) = some (Value.bool (x5 && (x6 && decide (x15 = 1)))); try rw [hb0]; all_goals simp only [Bool.not_true, Bool.not_false, Bool.true_and, Bool.false_and, Bool.true_or, Bool.false_or, Bool.and_true, Bool.or_false, cond_true, cond_false]), trivial⟩, W⟩
  rintro a w ⟨F, W⟩
  refine Aw F Aa (fun hb => ?_) fun hb => ?_
  ·
   have H := AL hb H
   rw [hb] at F
   clear hb
   refine Ah (Ac ?_)
   iterate 4 refine ls F W Aa (Ad F Aa).q fun a w F W => ?_
   obtain ⟨x18, h6, H⟩ := Al H
   refine Bp (Ml := []) (Zl := [row v1 85 A8 x13]) (M := []) (Z := []) (β := Unit) (rv := fun x => .bool x18.1) (MM := fun x => []) (ZZ := fun x => [row v1 85 A8 x18.2]) F W T9 Aa Aa (fun hL => Ew _ _ w (v1) x13 x2 x3 _ h6 hL) fun x a w F W => ?_
   have W : Stw ⟨Y, X, w0⟩ [] [row v1 85 A8 x18.2] w := W
   refine Ae (Ab ?_)
   refine Aw F Aa (fun hb => ?_) fun hb => ?_
   ·
    have H := AL hb H
    rw [hb] at F
    clear hb
    refine wp_ret (AG (AO (AG (AO ?_))))
    have H := L4 _ H
    have H := L1 _ H
    have H := AM H
    subst H
    refine Ic (.inl Aa) F Aa ?_
    exact ⟨(), Aa, W⟩
   have H := AK (by rw [hb]; decide) H
   rw [hb] at F
   clear hb
   refine wp_skip (Ab ?_)
   exact ⟨_, H, F.re ⟨rfl, Aa, Aa, Aa, Aa, Aa, Aa, Aa, Aa, trivial⟩, W⟩
  have H := AK (by rw [hb]; decide) H
  rw [hb] at F
  clear hb
  refine wp_skip (Ab ?_)
  exact ⟨_, H, F.re ⟨rfl, Aa, Aa, Aa, Aa, Aa, Aa, Aa, Aa, trivial⟩, W⟩
 rintro a w ⟨x17, hj, F, W⟩
 have H := K4 _ hj
 clear hj G4 K4 L4
 refine Ah ?_
 obtain ⟨o5, G5, K5⟩ := Al H
 refine AC (fun a w => ∃ x19 : Bool, some (x19) = some o5 ∧ Fr 148 [] [(0, v1), (1, .int .i64 x2), (2, .int .i64 x3), (3, .int .i64 x10), (4, .func (.func 37) #[] #[]), (10, .bool (x5 && (x6 || true))), (11, .bool (bif x5 then x6 else x6)), (12, .int .i64 (AA (x3 - x2))), (13, .int .i64 x14), (97, .bool x19)] a ∧ Stw ⟨Y, X, w0⟩ [] [row v1 85 A8 x17] w) ?_ ?_
 ·
  have H := G5
  clear G5 K5
  refine BB W MO (by kernel_rfl) ?_
  refine qs F Aa (Ad F Aa).q fun a F => ?_
  refine qs F Aa (DZ F Aa Aa).q fun a F => ?_
  refine qs F Aa (Ad F Aa).q fun a F => ?_
  rcases Bool.eq_false_or_eq_true (decide (0 < x2)) with hb | hb
  ·
   have H := AL (A6 hb) H
   rw [hb] at F
   clear hb
   iterate 3 refine Bf F (Ag F Aa Aa Aa Aa) Aa (Ak Aa) (Ad F Aa).q fun a F => ?_
   refine Bf F (Ag F Aa Aa Aa Aa) Aa (Ak Aa) (B5 F Aa Aa Aa).q fun a F => ?_
   obtain ⟨x20, h7, H⟩ := Al H
   refine Bf F (Ag F Aa Aa Aa Aa) Aa (Ak Aa) (Ay (r := A8) Eb F Aa Aa (Ao 0 Aa) h7).q fun a F => ?_
   refine Bf F (Ag F Aa Aa Aa Aa) Aa (Ak Aa) (Ap (y := Value.agg #[.int .i64 x20.1, .int .i64 x20.2.1, .int .i64 x20.2.2.1, .int .i64 x20.2.2.2]) (j := 0) (i := AA (x2 - 1)) F Aa Aa (Ao 0 Aa) h7 Ek.to Ec Aa).q fun a F => ?_
   iterate 2 refine Bf F (Ag F Aa Aa Aa Aa) Aa (Ak Aa) (Ad F Aa).q fun a F => ?_
   obtain ⟨x21, h8, H⟩ := Al H
   refine Bf F (Ag F Aa Aa Aa Aa) Aa (Ak Aa) (Ay (r := A8) Eb F Aa Aa (Ao 0 Aa) h8).q fun a F => ?_
   refine Bf F (Ag F Aa Aa Aa Aa) Aa (Ak Aa) (Ap (y := Value.agg #[.int .i64 x21.1, .int .i64 x21.2.1, .int .i64 x21.2.2.1, .int .i64 x21.2.2.2]) (j := 0) (i := x14) F Aa Aa (Ao 0 Aa) h8 Ek.to Ec Aa).q fun a F => ?_
   obtain ⟨x22, h9, H⟩ := Al H
   refine Bf F (Ag F Aa Aa Aa Aa) Aa (Ak Aa) (EG (ws := [.agg #[.int .i64 x20.1, .int .i64 x20.2.1, .int .i64 x20.2.2.1, .int .i64 x20.2.2.2], .agg #[.int .i64 x21.1, .int .i64 x21.2.1, .int .i64 x21.2.2.1, .int .i64 x21.2.2.2]]) (v := Value.int .i64 x22) F O7 Aa (fun w W => Cp any w x20 x21 _ h9)) fun a F => ?_
   refine Bf F (Ag F Aa Aa Aa Aa) Aa (Ak Aa) (Bk F Aa Aa).q fun a F => ?_
   refine Bf F (Ag F Aa Aa Aa Aa) Aa (Ak Aa) (Dt F Aa).q fun a F => ?_
   refine qs F Aa (Aq F Aa Aa Aa).q fun a F => ?_
   refine AR fun w W => ?_
   refine Ab ?_
   exact ⟨_, H, F.re ⟨rfl, Aa, Aa, Aa, Aa, Aa, Aa, Aa, Aa, Aa, trivial⟩, W⟩
  have H := AK (A7 hb) H
  rw [hb] at F
  clear hb
  iterate 13 refine El F (Dm F Aa Aa Aa Aa Aa) Aa Aa fun a F => ?_
  refine qs F Aa (Au F Aa Aa Aa).q fun a F => ?_
  refine AR fun w W => ?_
  refine Ab ?_
  exact ⟨_, H, F.re ⟨rfl, Aa, Aa, Aa, Aa, Aa, Aa, Aa, Aa, Aa, trivial⟩, W⟩
 rintro a w ⟨x19, hj, F, W⟩
 have hj := AM hj
 subst hj
 have H := K5
 clear G5 K5
 refine Aw F Aa (fun hb => ?_) fun hb => ?_
 ·
  have H := AL hb H
  rw [hb] at F
  clear hb
  refine Ah (Ac ?_)
  iterate 5 refine ls F W Aa (Ad F Aa).q fun a w F W => ?_
  obtain ⟨x23, h10, H⟩ := Al H
  refine Bp (Ml := []) (Zl := [row v1 85 A8 x17]) (M := []) (Z := []) (β := Unit) (rv := fun x => .int .i64 x23.1) (MM := fun x => []) (ZZ := fun x => [row v1 85 A8 x23.2]) F W Uq Aa Aa (fun hL => E2 _ _ w (v1) x17 x2 x3 x14 _ h10 hL) fun x a w F W => ?_
  have W : Stw ⟨Y, X, w0⟩ [] [row v1 85 A8 x23.2] w := W
  refine ls F W Aa (Af F Aa).q fun a w F W => ?_
  refine Ae (Ab (Ah (Ac ?_)))
  refine ls F W Aa (Ad F Aa).q fun a w F W => ?_
  refine ls F W Aa (Af F Aa).q fun a w F W => ?_
  refine Ae (Ab (wp_exit (A5 (AU (Ab ?_)))))
  exact ⟨_, H, F.re ⟨rfl, Aa, Aa, Aa, Aa, Aa, Aa, trivial⟩, W⟩
 have H := AK (by rw [hb]; decide) H
 rw [hb] at F
 clear hb
 refine wp_skip (Ab (Ah (Ac ?_)))
 iterate 5 refine ls F W Aa (Ad F Aa).q fun a w F W => ?_
 obtain ⟨x24, h11, H⟩ := Al H
 refine Bp (Ml := []) (Zl := [row v1 85 A8 x17]) (M := []) (Z := []) (β := Unit) (rv := fun x => .tuple #[.int .i64 x24.1, .bool x24.2.1]) (MM := fun x => []) (ZZ := fun x => [row v1 85 A8 x24.2.2]) F W Ub Aa Aa (fun hL => FT _ _ w (v1) x17 x2 x3 x14 _ h11 hL) fun x a w F W => ?_
 have W : Stw ⟨Y, X, w0⟩ [] [row v1 85 A8 x24.2.2] w := W
 refine ls F W Aa (Ad F Aa).q fun a w F W => ?_
 refine ls F W Aa (A0 (v := Value.int .i64 x24.1) F Aa Aa).q fun a w F W => ?_
 refine ls F W Aa (A0 (v := Value.bool x24.2.1) F Aa Aa).q fun a w F W => ?_
 iterate 2 refine ls F W Aa (Af F Aa).q fun a w F W => ?_
 refine Ae (Ab (Ah (Ac ?_)))
 refine ls F W Aa (Ad F Aa).q fun a w F W => ?_
 refine ls F W Aa (Af F Aa).q fun a w F W => ?_
 refine Ae (Ab (Ah (Ac ?_)))
 iterate 2 refine ls F W Aa (Ad F Aa).q fun a w F W => ?_
 refine ls F W Aa (B5 F Aa Aa Aa).q fun a w F W => ?_
 iterate 2 refine ls F W Aa (Ad F Aa).q fun a w F W => ?_
 refine ls F W Aa (B5 F Aa Aa Aa).q fun a w F W => ?_
 iterate 2 refine ls F W Aa (Af F Aa).q fun a w F W => ?_
 refine Ae (Ab (Ah (Ac ?_)))
 refine ls F W Aa (Ad F Aa).q fun a w F W => ?_
 refine ls F W Aa (JH F Aa Aa (by decide) Aa).q fun a w F W => ?_
 refine ls F W Aa (Af F Aa).q fun a w F W => ?_
 refine Ae (Ab (Ah (Ac ?_)))
 iterate 2 refine ls F W Aa (Ad F Aa).q fun a w F W => ?_
 refine ls F W Aa (Bk F Aa Aa).q fun a w F W => ?_
 refine Ae (Ab ?_)
 refine Aw F Aa (fun hb => ?_) fun hb => ?_
 ·
  have H := AL (A6 hb) H
  rw [hb] at F
  clear hb
  refine Ah (Ac ?_)
  iterate 2 refine ls F W Aa (Ad F Aa).q fun a w F W => ?_
  refine ls F W Aa (Dj F Aa Aa).q fun a w F W => ?_
  refine ls F W Aa (Af F Aa).q fun a w F W => ?_
  refine Ae (Ab (Ah (Ac ?_)))
  iterate 5 refine ls F W Aa (Ad F Aa).q fun a w F W => ?_
  obtain ⟨x25, h12, H⟩ := Al H
  refine Bp (Ml := []) (Zl := [row v1 85 A8 x24.2.2]) (M := []) (Z := []) (β := Unit) (rv := fun x => .tuple #[]) (MM := fun x => []) (ZZ := fun x => [row v1 85 A8 x25]) F W Th Aa Aa (fun hL => ih _ _ w (v1) x24.2.2 x2 x24.1 x10 _ h12 hL) fun x a w F W => ?_
  have W : Stw ⟨Y, X, w0⟩ [] [row v1 85 A8 x25] w := W
  refine Ae (Ab (Ac ?_))
  refine ls F W Aa (Ad F Aa).q fun a w F W => ?_
  refine ls F W Aa (A3 F Aa Aa Aa).q fun a w F W => ?_
  refine ls F W Aa (Af F Aa).q fun a w F W => ?_
  refine Ae (AH (Ab ?_))
  exact ⟨_, H, F.re ⟨rfl, Aa, Aa, Aa, Aa, Aa, Aa, trivial⟩, W⟩
 have H := AK (A7 hb) H
 rw [hb] at F
 clear hb
 refine Ah (Ac ?_)
 iterate 2 refine ls F W Aa (Ad F Aa).q fun a w F W => ?_
 refine ls F W Aa (Dj F Aa Aa).q fun a w F W => ?_
 refine ls F W Aa (Af F Aa).q fun a w F W => ?_
 refine Ae (Ab (Ah (Ac ?_)))
 iterate 2 refine ls F W Aa (Ad F Aa).q fun a w F W => ?_
 refine ls F W Aa (A3 F Aa Aa Aa).q fun a w F W => ?_
 iterate 3 refine ls F W Aa (Ad F Aa).q fun a w F W => ?_
 obtain ⟨x26, h13, H⟩ := Al H
 refine Bp (Ml := []) (Zl := [row v1 85 A8 x24.2.2]) (M := []) (Z := []) (β := Unit) (rv := fun x => .tuple #[]) (MM := fun x => []) (ZZ := fun x => [row v1 85 A8 x26]) F W Th Aa Aa (fun hL => ih _ _ w (v1) x24.2.2 (AA (x24.1 + 1)) x3 x10 _ h13 hL) fun x a w F W => ?_
 have W : Stw ⟨Y, X, w0⟩ [] [row v1 85 A8 x26] w := W
 refine Ae (Ab (Ac ?_))
 refine ls F W Aa (Ad F Aa).q fun a w F W => ?_
 refine ls F W Aa (Af F Aa).q fun a w F W => ?_
 refine Ae (AH (Ab ?_))
 exact ⟨_, H, F.re ⟨rfl, Aa, Aa, Aa, Aa, Aa, Aa, trivial⟩, W⟩
theorem FY : ∀ (n : Nat) (Y : Nat → Prop) (X : List Nat) (w0 : World) (v1 : Value) (p0 : List (Int × Int × Int × Int)) (p1 : Int) (p2 : Int) (p3 : Int) (r : (List (Int × Int × Int × Int))) (H : AJ n p0 p1 p2 p3 = some r) (hL : Stw ⟨Y, X, w0⟩ [] [row v1 85 A8 p0] w0), Calls Try.prog 53 #[v1, .int .i64 p1, .int .i64 p2, .int .i64 p3, .func (.func 37) #[] #[]] w0 fun e w' => ∃ x : Unit, e = .returned (.tuple #[]) ∧ Stw ⟨Y, X, w0⟩ [] [row v1 85 A8 r] w' := by
  intro n
  induction n with
  | zero => intro Y X w0 v1 p0 p1 p2 p3 r H; exact nomatch H
  | succ n ih => intro Y X w0 v1 p0 p1 p2 p3 r H hL; exact FR (AJ n) ih Y X w0 v1 p0 p1 p2 p3 r H hL
theorem F5 (Y : Nat → Prop) (X : List Nat) (w0 : World) (v1 : Value) (p0 : List (Int × Int × Int × Int)) (p1 : Int) (p2 : Int) (p3 : Int) (r : (List (Int × Int × Int × Int))) (H : Cu p0 p1 p2 p3 = some r) (hL : Stw ⟨Y, X, w0⟩ [] [row v1 85 A8 p0] w0) :
    Calls Try.prog 53 #[v1, .int .i64 p1, .int .i64 p2, .int .i64 p3, .func (.func 37) #[] #[]] w0 fun e w' => ∃ x : Unit, e = .returned (.tuple #[]) ∧ Stw ⟨Y, X, w0⟩ [] [row v1 85 A8 r] w' := by
  obtain ⟨n, H⟩ := Pv H
  exact FY n Y X w0 v1 p0 p1 p2 p3 r H hL
noncomputable def BE (p0 : List (Int × Int × Int × Int)) : Option (List (Int × Int × Int × Int)) := (DD (IntKind.u64.wrap (p0.length : Int))).bind fun x1 => (Cu p0 0 (p0.length : Int) x1).bind fun x2 => some x2
theorem Fi (Y : Nat → Prop) (X : List Nat) (w0 : World) (v1 : Value) (p0 : List (Int × Int × Int × Int)) (r : (List (Int × Int × Int × Int))) (H : BE p0 = some r) (hL : Stw ⟨Y, X, w0⟩ [] [row v1 85 A8 p0] w0) :
    Calls Try.prog 36 #[v1, .func (.func 37) #[] #[]] w0 fun e w' => ∃ x : Unit, e = .returned (.tuple #[]) ∧ Stw ⟨Y, X, w0⟩ [] [row v1 85 A8 r] w' := by
 refine enter Try.func36 Aa Try.ntmps36 Aa fun a F => ?_
 have W := hL
 unfold BE at H
 refine Ah (Ac ?_)
 refine ls F W Aa (Ad F Aa).q fun a w F W => ?_
 refine ls F W Aa (BP (r := A8) (l := p0) Nc Aa F Aa (Ao 0 Aa)).q fun a w F W => ?_
 refine ls F W Aa (Af F Aa).q fun a w F W => ?_
 refine Ae (Ab (Ac ?_))
 iterate 3 refine ls F W Aa (Ad F Aa).q fun a w F W => ?_
 refine ls F W Aa (IV Oj OY F Aa).q fun a w F W => ?_
 obtain ⟨x1, h1, H⟩ := Al H
 refine ls F W Aa (BH (v := Value.int .i64 x1) F SQ Aa (fun w W => Hx any w (IntKind.u64.wrap (p0.length : Int)) _ h1)) fun a w F W => ?_
 refine ls F W Aa (Ad F Aa).q fun a w F W => ?_
 obtain ⟨x2, h2, H⟩ := Al H
 refine Bp (Ml := []) (Zl := [row v1 85 A8 p0]) (M := []) (Z := []) (β := Unit) (rv := fun x => .tuple #[]) (MM := fun x => []) (ZZ := fun x => [row v1 85 A8 x2]) F W Th Aa Aa (fun hL => F5 _ _ w (v1) p0 0 (p0.length : Int) x1 _ h2 hL) fun x a w F W => ?_
 have W : Stw ⟨Y, X, w0⟩ [] [row v1 85 A8 x2] w := W
 refine Ae ?_
 have H := AM H
 subst H
 refine Ic (.inr Aa) F Aa ?_
 exact ⟨(), Aa, W⟩
theorem Ui : Has Try.prog 36 := ⟨fun args w => An Try.func36 rfl (by decide) args w⟩
noncomputable def CU (p1 : List (List Int)) (p2 : List (List Int)) (x6 : Int) (x8 : List Int) : ((List (Int × Int × Int × Int)) × Int) → Option (((List (Int × Int × Int × Int)) × Int) ⊕ (List (Int × Int × Int × Int)))
  | (x9, x10) => (if x10 < (x8.length : Int) then ((ix x8 x10).bind fun x12 => (ix p2 x10).bind fun x13 => (ix x13 x6).bind fun x14 => (ix p1 x10).bind fun x15 => (ix x15 x6).bind fun x16 => (if x14 ≠ x16 then (JN x9 ([(x10, x6, x14, x12)] : List (Int × Int × Int × Int))).bind fun x17 => some x17 else some x9)).bind fun x11 => some (.inl (x11, AA (x10 + 1))) else some (.inr x9))
noncomputable def Dn (p0 : Int × (List (Int × Int × Int × Int × Int × Int)) × (List (Int × Int))) (p1 : List (List Int)) (p2 : List (List Int)) : ((List (Int × Int × Int × Int)) × Int) → Option (((List (Int × Int × Int × Int)) × Int) ⊕ (List (Int × Int × Int × Int)))
  | (x5, x6) => (if x6 < (p0.2.2.length : Int) then ((GT p0 p2 x6).bind fun x8 => AE (CU p1 p2 x6 x8) (x5, 0)).bind fun x7 => some (.inl (x7, AA (x6 + 1))) else some (.inr x5))
noncomputable def D9 (p0 : Int × (List (Int × Int × Int × Int × Int × Int)) × (List (Int × Int))) (p1 : List (List Int)) (p2 : List (List Int)) : Option ((List (Int × Int × Int × Int)) × Int) := ((Fp p0 p1).bind fun x2 => (if (!x2) = true then some true else (Fp p0 p2).bind fun x3 => some (!x3))).bind fun x1 => (if x1 = true then some (([] : List (Int × Int × Int × Int)), 2) else (AE (Dn p0 p1 p2) ([], 0)).bind fun x4 => (BE x4).bind fun x18 => some (x18, 0))
theorem Mu (Y : Nat → Prop) (w0 : World) (v1 : Value) (v2 : Value) (v3 : Value) (v4 : Value) (p0 : Int × (List (Int × Int × Int × Int × Int × Int)) × (List (Int × Int))) (p1 : List (List Int)) (p2 : List (List Int)) (r : (List (Int × Int × Int × Int)) × Int) (H : D9 p0 p1 p2 = some r) (h_v1 : Sl w0 (NX []) FM v1 p0.2.1) (h_v2 : Sl w0 (NX []) FD v2 p0.2.2) (h_v3 : Sl w0 (NX []) (Rp.slice (Rp.int .i64)) v3 p1) (h_v4 : Sl w0 (NX []) (Rp.slice (Rp.int .i64)) v4 p2) :
    Calls Try.prog 21 #[.agg #[.int .i64 p0.1, v1, v2], v3, v4] w0 fun e w' => ∃ x : Value, e = .returned (.tuple #[x, .int .i64 r.2]) ∧ Stw ⟨Y, [], w0⟩ [] [row (x) 85 A8 r.1] w' := by
 refine enter Try.func21 Aa Try.ntmps21 Aa fun a F => ?_
 have W := Stw.start Y w0
 obtain ⟨v5, h1, h_v3⟩ := h_v3.ex Dg
 obtain ⟨v6, h2, h_v4⟩ := h_v4.ex Dg
 unfold D9 at H
 refine Ah (Ac ?_)
 refine Dr (cs := [.int .i64 p0.1, v1, v2]) F W Aa Aa Aa fun b1 a w F W => ?_
 iterate 2 refine ls F W Aa (Af F Aa).q fun a w F W => ?_
 refine Ae (Ab (Ah ?_))
 obtain ⟨o1, G1, K1⟩ := Al H
 refine AC (fun a w => ∃ x1 : Bool, some (x1) = some o1 ∧ Fr 68 [] [(1, v3), (2, v4), (3, .pointer (some ⟨b1, 0, none⟩)), (6, .slice none 0 0), (7, .int .i64 0), (22, .bool x1)] a ∧ Stw ⟨Y, [], w0⟩ [(b1, [.int .i64 p0.1, v1, v2])] [] w) ?_ ?_
 ·
  have H := G1
  clear G1 K1
  refine Ac ?_
  refine ls F W Aa (As (v := Value.agg #[.int .i64 p0.1, v1, v2]) 0 F Aa Aa Iv Aa).q fun a w F W => ?_
  refine ls F W Aa (Ad F Aa).q fun a w F W => ?_
  obtain ⟨x2, h3, H⟩ := Al H
  refine ls F W Aa (BH (v := Value.bool x2) F Tx Aa (fun w W => J7 any w (v1) (v2) (v3) p0 p1 _ h3 (((Am h_v1) : DT _ _ _ _ _ _) w W).nx (((Am h_v2) : DT _ _ _ _ _ _) w W).nx (((BA Dg h1 (Am h_v3)) : DT _ _ _ _ _ _) w W).nx)) fun a w F W => ?_
  refine ls F W Aa (Dt F Aa).q fun a w F W => ?_
  refine ls F W Aa (Ad F Aa).q fun a w F W => ?_
  rcases Bool.eq_false_or_eq_true (!x2) with hb | hb
  ·
   have H := AL hb H
   rw [hb] at F
   clear hb
   iterate 4 refine Cj F Aa Aa Aa Aa Aa Aa Aa fun a F => ?_
   refine ls F W Aa (Aq F Aa Aa Aa).q fun a w F W => ?_
   refine Ae (Ab ?_)
   exact ⟨_, H, F.re ⟨rfl, Aa, Aa, Aa, Aa, Aa, trivial⟩, W⟩
  have H := AK (by rw [hb]; decide) H
  rw [hb] at F
  clear hb
  refine AD F W (Ag F Aa Aa Aa Aa) Aa (Ak Aa) (As (v := Value.agg #[.int .i64 p0.1, v1, v2]) 0 F Aa Aa Iv Aa).q fun a w F W => ?_
  refine AD F W (Ag F Aa Aa Aa Aa) Aa (Ak Aa) (Ad F Aa).q fun a w F W => ?_
  refine Mn (Ag F Aa Aa Aa Aa) ?_
  obtain ⟨x3, h4, H⟩ := Al H
  refine ls F W Aa (BH (v := Value.bool x3) F Tx Aa (fun w W => J7 any w (v1) (v2) (v4) p0 p2 _ h4 (((Am h_v1) : DT _ _ _ _ _ _) w W).nx (((Am h_v2) : DT _ _ _ _ _ _) w W).nx (((BA Dg h2 (Am h_v4)) : DT _ _ _ _ _ _) w W).nx)) fun a w F W => ?_
  refine AD F W (Ag F Aa Aa Aa Aa) Aa (Ak Aa) (Dt F Aa).q fun a w F W => ?_
  refine ls F W Aa (Au F Aa Aa Aa).q fun a w F W => ?_
  refine Ae (Ab ?_)
  exact ⟨_, H, F.re ⟨rfl, Aa, Aa, Aa, Aa, Aa, trivial⟩, W⟩
 rintro a w ⟨x1, hj, F, W⟩
 have hj := AM hj
 subst hj
 have H := K1
 clear G1 K1
 refine Aw F Aa (fun hb => ?_) fun hb => ?_
 ·
  have H := AL hb H
  rw [hb] at F
  clear hb
  refine Ah (Ac ?_)
  iterate 2 refine ls F W Aa (Af F Aa).q fun a w F W => ?_
  refine Ae (Ab (wp_ret (AG ?_)))
  have H := AM H
  subst H
  refine CY (.inl Aa) F W Aa (Av F Aa) (Av F Aa) ?_
  have W := W.nilRow 85 A8
  have W := W.sub (M' := []) (Z' := [row (Value.slice none 0 0) 85 A8 ([])]) (List.nil_sublist _) (List.Sublist.refl _)
  exact ⟨(Value.slice none 0 0), Aa, W⟩
 have H := AK (by rw [hb]; decide) H
 rw [hb] at F
 clear hb
 refine wp_skip (Ab (Ah (Ac ?_)))
 refine ls F W Aa (Af F Aa).q fun a w F W => ?_
 refine Ae (Ab ?_)
 obtain ⟨o2, G2, K2⟩ := Al H
 refine AC (fun a w => ∃ x4 : List (Int × Int × Int × Int), ∃ v7 : Value, some (x4) = some o2 ∧ Fr 68 [] [(6, .slice none 0 0), (7, .int .i64 0), (8, v7)] a ∧ Stw ⟨Y, [], w0⟩ [(b1, [.int .i64 p0.1, v1, v2])] [row v7 85 A8 x4] w) ?_ ?_
 ·
  have H := G2
  clear G2 K2
  refine Ah (Ac ?_)
  refine ls F W Aa (Ai DM Aa Aa Aa IH F Aa 2 Aa).q fun a w F W => ?_
  refine ls F W Aa (As (v := v2) 0 F Aa Aa IH Aa).q fun a w F W => ?_
  refine ls F W Aa (BP (r := FD) (l := p0.2.2) J1 Aa F Aa (Am h_v2)).q fun a w F W => ?_
  refine ls F W Aa (Ad F Aa).q fun a w F W => ?_
  refine Ae (Ab (wp_block ?_))
  have W := W.nilRow 85 A8
  refine A1 H (fun s a w => ∃ v8 : Value, Fr 68 [] [(1, v3), (2, v4), (3, .pointer (some ⟨b1, 0, none⟩)), (6, .slice none 0 0), (7, .int .i64 0), (8, v8), (25, .int .i64 (p0.2.2.length : Int)), (26, .int .i64 s.2)] a ∧ Stw ⟨Y, [], w0⟩ [(b1, [.int .i64 p0.1, v1, v2])] [row v8 85 A8 s.1] w) ⟨(Value.slice none 0 0), F.re ⟨rfl, Aa, Aa, Aa, Aa, Aa, Aa, Aa, trivial⟩, W⟩ fun s o a w H L3 hR => ?_
  obtain ⟨x5, x6⟩ := s
  obtain ⟨v8, F, W⟩ := hR
  have F : Fr 68 [] [(1, v3), (2, v4), (3, .pointer (some ⟨b1, 0, none⟩)), (6, .slice none 0 0), (7, .int .i64 0), (8, v8), (25, .int .i64 (p0.2.2.length : Int)), (26, .int .i64 x6)] a := F
  have W : Stw ⟨Y, [], w0⟩ [(b1, [.int .i64 p0.1, v1, v2])] [row v8 85 A8 x5] w := W
  rw [Dn] at H
  refine Ah (Ac ?_)
  refine ls F W Aa (Bk F Aa Aa).q fun a w F W => ?_
  refine Ae (Ab (Ah ?_))
  refine Aw F Aa (fun hb => ?_) fun hb => ?_
  ·
   have H := AL (A6 hb) H
   rw [hb] at F
   clear hb
   refine wp_skip (Ab ?_)
   obtain ⟨o4, G4, K4⟩ := Al H
   refine AC (fun a w => ∃ x7 : List (Int × Int × Int × Int), ∃ v9 : Value, some (x7) = some o4 ∧ Fr 68 [] [(1, v3), (2, v4), (3, .pointer (some ⟨b1, 0, none⟩)), (6, .slice none 0 0), (7, .int .i64 0), (8, v9), (25, .int .i64 (p0.2.2.length : Int)), (26, .int .i64 x6)] a ∧ Stw ⟨Y, [], w0⟩ [(b1, [.int .i64 p0.1, v1, v2])] [row v9 85 A8 x7] w) ?_ ?_
   ·
    have H := G4
    clear G4 K4
    refine wp_block (Ah (Ac ?_))
    refine ls F W Aa (Ad F Aa).q fun a w F W => ?_
    refine ls F W Aa (Af F Aa).q fun a w F W => ?_
    refine Ae (Ab (Ah (Ac ?_)))
    refine ls F W Aa (As (v := Value.agg #[.int .i64 p0.1, v1, v2]) 0 F Aa Aa Iv Aa).q fun a w F W => ?_
    iterate 2 refine ls F W Aa (Ad F Aa).q fun a w F W => ?_
    obtain ⟨x8, h5, H⟩ := Al H
    refine Bp (Ml := []) (Zl := []) (M := [(b1, [.int .i64 p0.1, v1, v2])]) (Z := [row v8 85 A8 x5]) (β := Value) (rv := fun x => x) (MM := fun x => []) (ZZ := fun x => [row x 3 (Rp.int .i64) x8]) F W Vh Aa Aa (fun hL => N4 _ w (v1) (v2) (v4) p0 p2 x6 _ h5 ((Am h_v1) w W).nx ((Am h_v2) w W).nx ((BA Dg h2 (Am h_v4)) w W).nx) fun x a w F W => ?_
    obtain ⟨v10, rfl⟩ : ∃ y, y = x := ⟨x, rfl⟩
    have W : Stw ⟨Y, [], w0⟩ [(b1, [.int .i64 p0.1, v1, v2])] [row v10 3 (Rp.int .i64) x8, row v8 85 A8 x5] w := W
    refine ls F W Aa (BP (r := (Rp.int .i64)) (l := x8) Hm Aa F Aa (Ao 0 Aa)).q fun a w F W => ?_
    refine ls F W Aa (Ad F Aa).q fun a w F W => ?_
    refine Ae (Ab (wp_block ?_))
    have W := W.frontZ (i := 1) Aa Aa
    refine A1 H (fun s a w => ∃ v11 : Value, Fr 68 [] [(1, v3), (2, v4), (3, .pointer (some ⟨b1, 0, none⟩)), (6, .slice none 0 0), (7, .int .i64 0), (8, v11), (9, .int .i64 x6), (25, .int .i64 (p0.2.2.length : Int)), (26, .int .i64 x6), (32, v10), (33, .int .i64 (x8.length : Int)), (34, .int .i64 s.2)] a ∧ Stw ⟨Y, [], w0⟩ [(b1, [.int .i64 p0.1, v1, v2])] [row v11 85 A8 s.1, row v10 3 (Rp.int .i64) x8] w) ⟨(v8), F.re ⟨rfl, Aa, Aa, Aa, Aa, Aa, Aa, Aa, Aa, Aa, Aa, Aa, trivial⟩, W⟩ fun s o a w H L5 hR => ?_
    obtain ⟨x9, x10⟩ := s
    obtain ⟨v11, F, W⟩ := hR
    have F : Fr 68 [] [(1, v3), (2, v4), (3, .pointer (some ⟨b1, 0, none⟩)), (6, .slice none 0 0), (7, .int .i64 0), (8, v11), (9, .int .i64 x6), (25, .int .i64 (p0.2.2.length : Int)), (26, .int .i64 x6), (32, v10), (33, .int .i64 (x8.length : Int)), (34, .int .i64 x10)] a := F
    have W : Stw ⟨Y, [], w0⟩ [(b1, [.int .i64 p0.1, v1, v2])] [row v11 85 A8 x9, row v10 3 (Rp.int .i64) x8] w := W
    rw [CU] at H
    refine Ah (Ac ?_)
    refine ls F W Aa (Bk F Aa Aa).q fun a w F W => ?_
    refine Ae (Ab (Ah ?_))
    refine Aw F Aa (fun hb => ?_) fun hb => ?_
    ·
     have H := AL (A6 hb) H
     rw [hb] at F
     clear hb
     refine wp_skip (Ab ?_)
     obtain ⟨o6, G6, K6⟩ := Al H
     refine AC (fun a w => ∃ x11 : List (Int × Int × Int × Int), ∃ v12 : Value, some (x11) = some o6 ∧ Fr 68 [] [(1, v3), (2, v4), (3, .pointer (some ⟨b1, 0, none⟩)), (6, .slice none 0 0), (7, .int .i64 0), (8, v12), (9, .int .i64 x6), (25, .int .i64 (p0.2.2.length : Int)), (26, .int .i64 x6), (32, v10), (33, .int .i64 (x8.length : Int)), (34, .int .i64 x10)] a ∧ Stw ⟨Y, [], w0⟩ [(b1, [.int .i64 p0.1, v1, v2])] [row v12 85 A8 x11, row v10 3 (Rp.int .i64) x8] w) ?_ ?_
     ·
      have H := G6
      clear G6 K6
      refine wp_block (Ah (Ac ?_))
      refine ls F W Aa (Ad F Aa).q fun a w F W => ?_
      obtain ⟨x12, h6, H⟩ := Al H
      refine ls F W Aa (Ay (r := (Rp.int .i64)) Eo F Aa Aa (Ao 1 Aa) h6).q fun a w F W => ?_
      refine ls F W Aa (Ap (y := Value.int .i64 x12) (j := 0) (i := x10) F Aa Aa (Ao 1 Aa) h6 Fl.int.to T3 Aa).q fun a w F W => ?_
      iterate 2 refine ls F W Aa (Af F Aa).q fun a w F W => ?_
      refine Ae (Ab (Ah (Ac ?_)))
      iterate 2 refine ls F W Aa (Ad F Aa).q fun a w F W => ?_
      obtain ⟨x13, h7, H⟩ := Al H
      obtain ⟨v13, h8, h9⟩ := EJ h2 h7
      have h10 : E5 v13 = [(v13.1)] := congrArg (fun q : List Int => ([(v13.1)] : List Value)) h9
      refine ls F W Aa (Ay (r := (Rp.vsl (Rp.int .i64))) MU F Aa Aa (Am h_v4) h8).q fun a w F W => ?_
      refine ls F W Aa (Ap (y := (v13.1)) (j := 0) (i := x10) (enc := E5) F Aa Aa (Am h_v4) h8 Ja JB (by rw [h10]; rfl)).q fun a w F W => ?_
      refine ls F W Aa (Ad F Aa).q fun a w F W => ?_
      obtain ⟨x14, h11, H⟩ := Al H
      refine ls F W Aa (Ay (r := (Rp.int .i64)) Eo F Aa Aa (CS (Am h_v4) h8 Dc.here (congrArg (fun q : List Int => q) h9)) h11).q fun a w F W => ?_
      refine ls F W Aa (Ap (y := Value.int .i64 x14) (j := 0) (i := x6) F Aa Aa (CS (Am h_v4) h8 Dc.here (congrArg (fun q : List Int => q) h9)) h11 Fl.int.to T3 Aa).q fun a w F W => ?_
      refine ls F W Aa (Af F Aa).q fun a w F W => ?_
      refine Ae (Ab (Ah (Ac ?_)))
      iterate 3 refine ls F W Aa (Ad F Aa).q fun a w F W => ?_
      obtain ⟨x15, h12, H⟩ := Al H
      obtain ⟨v14, h13, h14⟩ := EJ h1 h12
      have h15 : E5 v14 = [(v14.1)] := congrArg (fun q : List Int => ([(v14.1)] : List Value)) h14
      refine ls F W Aa (Ay (r := (Rp.vsl (Rp.int .i64))) MU F Aa Aa (Am h_v3) h13).q fun a w F W => ?_
      refine ls F W Aa (Ap (y := (v14.1)) (j := 0) (i := x10) (enc := E5) F Aa Aa (Am h_v3) h13 Ja JB (by rw [h15]; rfl)).q fun a w F W => ?_
      refine ls F W Aa (Ad F Aa).q fun a w F W => ?_
      obtain ⟨x16, h16, H⟩ := Al H
      refine ls F W Aa (Ay (r := (Rp.int .i64)) Eo F Aa Aa (CS (Am h_v3) h13 Dc.here (congrArg (fun q : List Int => q) h14)) h16).q fun a w F W => ?_
      refine ls F W Aa (Ap (y := Value.int .i64 x16) (j := 0) (i := x6) F Aa Aa (CS (Am h_v3) h13 Dc.here (congrArg (fun q : List Int => q) h14)) h16 Fl.int.to T3 Aa).q fun a w F W => ?_
      refine ls F W Aa (Fe F Aa Aa).q fun a w F W => ?_
      refine Ae (Ab ?_)
      refine Aw F Aa (fun hb => ?_) fun hb => ?_
      ·
       have H := AL (A6 hb) H
       rw [hb] at F
       clear hb
       refine Ac ?_
       iterate 5 refine ls F W Aa (Ad F Aa).q fun a w F W => ?_
       refine ls F W Aa (Cg (v := Value.agg #[.int .i64 x10, .int .i64 x6, .int .i64 x14, .int .i64 x12]) Tt F Aa Aa Aa).q fun a w F W => ?_
       refine EA (z := Value.agg #[.int .i64 0, .int .i64 0, .int .i64 0, .int .i64 0]) (cs := [.int .i64 x10, .int .i64 x6, .int .i64 x14, .int .i64 x12]) A8 ([(x10, x6, x14, x12)] : List (Int × Int × Int × Int)) F W Aa Eb R1 Aa Aa Aa Aa Aa Aa (Ek.repL _ _ ([(x10, x6, x14, x12)] : List (Int × Int × Int × Int))) fun v15 a w F W => ?_
       obtain ⟨x17, h17, H⟩ := Al H
       refine DY (r := A8) (i := 1) F W Aa Eb Aa Aa Aa Aa (EI W 0 Aa) h17 Aa fun v16 a w F W => ?_
       have W : Stw ⟨Y, [], w0⟩ [(b1, [.int .i64 p0.1, v1, v2])] [row v16 85 A8 x17, row v15 85 A8 ([(x10, x6, x14, x12)] : List (Int × Int × Int × Int)), row v10 3 (Rp.int .i64) x8] w := W
       refine ls F W Aa (Af F Aa).q fun a w F W => ?_
       refine Ae (AH (Ab ?_))
       have W := W.frontZ (i := 2) Aa Aa
       have W := W.frontZ (i := 1) Aa Aa
       have W := W.sub (M' := [(b1, [.int .i64 p0.1, v1, v2])]) (Z' := [row v16 85 A8 x17, row v10 3 (Rp.int .i64) x8]) (List.Sublist.refl _) (List.Sublist.cons_cons _ (List.Sublist.cons_cons _ (List.nil_sublist _)))
       exact ⟨_, (v16), H, F.re ⟨rfl, Aa, Aa, Aa, Aa, Aa, Aa, Aa, Aa, Aa, Aa, Aa, trivial⟩, W⟩
      have H := AK (A7 hb) H
      rw [hb] at F
      clear hb
      refine wp_skip (AH (Ab ?_))
      have W := W.frontZ (i := 1) Aa Aa
      have W := W.frontZ (i := 1) Aa Aa
      exact ⟨_, (v11), H, F.re ⟨rfl, Aa, Aa, Aa, Aa, Aa, Aa, Aa, Aa, Aa, Aa, Aa, trivial⟩, W⟩
     rintro a w ⟨x11, v12, hj, F, W⟩
     have hj := AM hj
     subst hj
     have H := K6
     clear G6 K6
     refine Ac ?_
     refine ls F W Aa (A3 F Aa Aa Aa).q fun a w F W => ?_
     refine ls F W Aa (Ad F Aa).q fun a w F W => ?_
     refine Ae (Ab ?_)
     have W := W.frontZ (i := 1) Aa Aa
     have W := W.frontZ (i := 1) Aa Aa
     exact ⟨_, H, (v12), F.re ⟨rfl, Aa, Aa, Aa, Aa, Aa, Aa, Aa, Aa, Aa, Aa, Aa, trivial⟩, W⟩
    have H := AK (A7 hb) H
    rw [hb] at F
    clear hb
    refine wp_exit ?_
    iterate 2 refine A5 ?_
    refine AU (AH (Ab ?_))
    have W := W.sub (M' := [(b1, [.int .i64 p0.1, v1, v2])]) (Z' := [row v11 85 A8 x9]) (List.Sublist.refl _) (List.Sublist.cons_cons _ (List.nil_sublist _))
    have H := L5 _ H
    exact ⟨_, (v11), H, F.re ⟨rfl, Aa, Aa, Aa, Aa, Aa, Aa, Aa, trivial⟩, W⟩
   rintro a w ⟨x7, v9, hj, F, W⟩
   have hj := AM hj
   subst hj
   have H := K4
   clear G4 K4
   refine Ac ?_
   refine ls F W Aa (A3 F Aa Aa Aa).q fun a w F W => ?_
   refine ls F W Aa (Ad F Aa).q fun a w F W => ?_
   refine Ae (Ab ?_)
   exact ⟨_, H, (v9), F.re ⟨rfl, Aa, Aa, Aa, Aa, Aa, Aa, Aa, trivial⟩, W⟩
  have H := AK (A7 hb) H
  rw [hb] at F
  clear hb
  refine wp_exit ?_
  iterate 2 refine A5 ?_
  refine AU (Ab ?_)
  have H := L3 _ H
  exact ⟨_, (v8), H, F.re ⟨rfl, Aa, Aa, trivial⟩, W⟩
 rintro a w ⟨x4, v7, hj, F, W⟩
 have hj := AM hj
 subst hj
 have H := K2
 clear G2 K2
 refine Ah (Ac ?_)
 refine ls F W Aa (Ad F Aa).q fun a w F W => ?_
 obtain ⟨x18, h18, H⟩ := Al H
 refine Bp (Ml := []) (Zl := [row v7 85 A8 x4]) (M := [(b1, [.int .i64 p0.1, v1, v2])]) (Z := []) (β := Unit) (rv := fun x => .tuple #[]) (MM := fun x => []) (ZZ := fun x => [row v7 85 A8 x18]) F W Ui Aa Aa (fun hL => Fi _ _ w (v7) x4 _ h18 hL) fun x a w F W => ?_
 have W : Stw ⟨Y, [], w0⟩ [(b1, [.int .i64 p0.1, v1, v2])] [row v7 85 A8 x18] w := W
 refine Ae (Ab (Ah (Ac ?_)))
 refine ls F W Aa (Ad F Aa).q fun a w F W => ?_
 iterate 2 refine ls F W Aa (Af F Aa).q fun a w F W => ?_
 refine Ae (Ab (wp_ret ?_))
 have H := AM H
 subst H
 refine CY (.inl Aa) F W Aa (Av F Aa) (Av F Aa) ?_
 have W := W.sub (M' := []) (Z' := [row v7 85 A8 x18]) (List.nil_sublist _) (List.Sublist.refl _)
 exact ⟨(v7), Aa, W⟩
def Cq (p0 : Int) (p1 : Int) : Bool := (bif (BM p0) then (!(BM p1) || decide (p0 < p1)) else decide (p0 < p1))
theorem EK (Y : Nat → Prop) (w0 : World)  (p0 : Int) (p1 : Int) (r : Bool) (H : Cq p0 p1 = r)  :
    Calls Try.prog 103 #[.int .i64 p0, .int .i64 p1] w0 fun e w' => e = .returned (.bool r) ∧ Below w0.heap.size w0 w' := by
 refine enter Try.func103 Aa Try.ntmps103 Aa fun a F => ?_
 have W := Stw.start Y w0
 unfold Cq at H
 refine Ah (Ac ?_)
 refine ls F W Aa (Af F Aa).q fun a w F W => ?_
 refine Ae (Ab ?_)
 refine AC (fun a w => Fr 17 [] [(4, .bool (bif (BM p0) then (!(BM p1) || decide (p0 < p1)) else decide (p0 < p1)))] a ∧ Stw ⟨Y, [], w0⟩ [] [] w) ?_ ?_
 ·
  refine Ac ?_
  refine ls F W Aa (Ad F Aa).q fun a w F W => ?_
  refine ls F W Aa (BH (v := Value.bool (BM p0)) F SC Aa (fun w W => F3 any w p0 _ Aa)) fun a w F W => ?_
  refine ls F W Aa (Ad F Aa).q fun a w F W => ?_
  rcases Bool.eq_false_or_eq_true (BM p0) with hb0 | hb0
  ·
   rw [hb0] at F
   refine AD F W (Ag F Aa Aa Aa Aa) Aa (Ak Aa) (Ad F Aa).q fun a w F W => ?_
   refine Mn (Ag F Aa Aa Aa Aa) ?_
   refine ls F W Aa (BH (v := Value.bool (BM p1)) F SC Aa (fun w W => F3 any w p1 _ Aa)) fun a w F W => ?_
   refine AD F W (Ag F Aa Aa Aa Aa) Aa (Ak Aa) (Dt F Aa).q fun a w F W => ?_
   refine ls F W Aa (Aq F Aa Aa Aa).q fun a w F W => ?_
   refine ls F W Aa (Ad F Aa).q fun a w F W => ?_
   rcases Bool.eq_false_or_eq_true (!(BM p1)) with hb1 | hb1
   ·
    rw [hb1] at F
    iterate 3 refine Cj F Aa Aa Aa Aa Aa Aa Aa fun a F => ?_
    refine ls F W Aa (Aq F Aa Aa Aa).q fun a w F W => ?_
    refine ls F W Aa (Af F Aa).q fun a w F W => ?_
    refine Ae (Ab ?_)
    exact ⟨F.re ⟨(by show some (Value.bool true) = some (Value.bool (bif (BM p0) then (!(BM p1) || decide (p0 < p1)) else decide (p0 < p1))); try rw [hb1]; try rw [hb0]; all_goals simp only [Bool.not_true, Bool.not_false, Bool.true_and, Bool.false_and, Bool.true_or, Bool.false_or, Bool.and_true, Bool.or_false, cond_true, cond_false]), trivial⟩, W⟩
   rw [hb1] at F
   iterate 2 refine AD F W (Ag F Aa Aa Aa Aa) Aa (Ak Aa) (Ad F Aa).q fun a w F W => ?_
   refine AD F W (Ag F Aa Aa Aa Aa) Aa (Ak Aa) (Bk F Aa Aa).q fun a w F W => ?_
   refine ls F W Aa (Au F Aa Aa Aa).q fun a w F W => ?_
   refine ls F W Aa (Af F Aa).q fun a w F W => ?_
   refine Ae (Ab ?_)
   exact ⟨F.re ⟨(by show some (Value.bool (decide (p0 < p1))) = some (Value.bool (bif (BM p0) then (!(BM p1) || decide (p0 < p1)) else decide (p0 < p1))); try rw [hb1]; try rw [hb0]; all_goals simp only [Bool.not_true, Bool.not_false, Bool.true_and, Bool.false_and, Bool.true_or, Bool.false_or, Bool.and_true, Bool.or_false, cond_true, cond_false]), trivial⟩, W⟩
  rw [hb0] at F
  iterate 3 refine Cj F Aa Aa Aa Aa Aa Aa Aa fun a F => ?_
  refine ls F W Aa (Au F Aa Aa Aa).q fun a w F W => ?_
  refine ls F W Aa (Ad F Aa).q fun a w F W => ?_
  iterate 2 refine AD F W (Ag F Aa Aa Aa Aa) Aa (Ak Aa) (Ad F Aa).q fun a w F W => ?_
  refine AD F W (Ag F Aa Aa Aa Aa) Aa (Ak Aa) (Bk F Aa Aa).q fun a w F W => ?_
  refine ls F W Aa (Au F Aa Aa Aa).q fun a w F W => ?_
  refine ls F W Aa (Af F Aa).q fun a w F W => ?_
  refine Ae (Ab ?_)
  exact ⟨F.re ⟨(by show some (Value.bool (decide (p0 < p1))) = some (Value.bool (bif (BM p0) then (!(BM p1) || decide (p0 < p1)) else decide (p0 < p1))); try rw [hb0]; all_goals simp only [Bool.not_true, Bool.not_false, Bool.true_and, Bool.false_and, Bool.true_or, Bool.false_or, Bool.and_true, Bool.or_false, cond_true, cond_false]), trivial⟩, W⟩
 rintro a w ⟨F, W⟩
 refine wp_ret ?_
 subst H
 refine Bl (.inl Aa) F W Aa (Av F Aa) ?_
 exact ⟨rfl, W.done⟩
theorem Pm : Has Try.prog 103 := ⟨fun args w => An Try.func103 rfl (by decide) args w⟩
noncomputable def Ba (p1 : Int) : (List Int × Int) → Option ((List Int × Int) ⊕ (List Int))
  | (x4, x5) => (if p1 < x5 then (ix x4 x5).bind fun x7 => (ix x4 (AA (x5 - 1))).bind fun x8 => some (Cq x7 x8) else some false).bind fun x6 => (if x6 = true then (ix x4 (AA (x5 - 1))).bind fun x9 => (ix x4 x5).bind fun x10 => (ix x4 x5).bind fun x11 => (ix (AQ x4 x5 x9) (AA (x5 - 1))).bind fun x12 => some (.inl ((AQ (AQ x4 x5 x9) (AA (x5 - 1)) x10), AA (x5 - 1))) else some (.inr x4))
noncomputable def Bw (p1 : Int) (p2 : Int) : (List Int × Int) → Option ((List Int × Int) ⊕ (List Int))
  | (x1, x2) => (if x2 < p2 then (AE (Ba p1) (x1, x2)).bind fun x3 => some (.inl (x3, AA (x2 + 1))) else some (.inr x1))
noncomputable def BN (p0 : List Int) (p1 : Int) (p2 : Int) : Option (List Int) := AE (Bw p1 p2) (p0, AA (p1 + 1))
theorem Gq (Y : Nat → Prop) (X : List Nat) (w0 : World) (v1 : Value) (p0 : List Int) (p1 : Int) (p2 : Int) (r : List Int) (H : BN p0 p1 p2 = some r) (hL : Stw ⟨Y, X, w0⟩ [] [row v1 3 (Rp.int .i64) p0] w0) :
    Calls Try.prog 97 #[v1, .int .i64 p1, .int .i64 p2] w0 fun e w' => ∃ x : Unit, e = .returned (.tuple #[]) ∧ Stw ⟨Y, X, w0⟩ [] [row v1 3 (Rp.int .i64) r] w' := by
 refine enter Try.func97 Aa Try.ntmps97 Aa fun a F => ?_
 have W := hL
 unfold BN at H
 refine Ah (Ac ?_)
 refine ls F W Aa (Ad F Aa).q fun a w F W => ?_
 refine ls F W Aa (A3 F Aa Aa Aa).q fun a w F W => ?_
 refine ls F W Aa (Af F Aa).q fun a w F W => ?_
 refine Ae (Ab (wp_block ?_))
 refine A1 H (fun s a w => Fr 49 [] [(0, v1), (1, .int .i64 p1), (2, .int .i64 p2), (6, .int .i64 s.2)] a ∧ Stw ⟨Y, X, w0⟩ [] [row v1 3 (Rp.int .i64) s.1] w) ⟨F.re ⟨rfl, Aa, Aa, Aa, trivial⟩, W⟩ fun s o a w H L1 hR => ?_
 obtain ⟨x1, x2⟩ := s
 obtain ⟨F, W⟩ := hR
 have F : Fr 49 [] [(0, v1), (1, .int .i64 p1), (2, .int .i64 p2), (6, .int .i64 x2)] a := F
 have W : Stw ⟨Y, X, w0⟩ [] [row v1 3 (Rp.int .i64) x1] w := W
 rw [Bw] at H
 refine Ah (Ah (Ac ?_))
 iterate 2 refine ls F W Aa (Ad F Aa).q fun a w F W => ?_
 refine ls F W Aa (Bk F Aa Aa).q fun a w F W => ?_
 refine Ae (Ab ?_)
 refine Aw F Aa (fun hb => ?_) fun hb => ?_
 ·
  have H := AL (A6 hb) H
  rw [hb] at F
  clear hb
  refine wp_skip (Ab ?_)
  obtain ⟨o2, G2, K2⟩ := Al H
  refine AC (fun a w => ∃ x3 : List Int, some (x3) = some o2 ∧ Fr 49 [] [(0, v1), (1, .int .i64 p1), (2, .int .i64 p2), (6, .int .i64 x2)] a ∧ Stw ⟨Y, X, w0⟩ [] [row v1 3 (Rp.int .i64) x3] w) ?_ ?_
  ·
   have H := G2
   clear G2 K2
   refine wp_block (Ah (Ac ?_))
   refine ls F W Aa (Ad F Aa).q fun a w F W => ?_
   refine ls F W Aa (Af F Aa).q fun a w F W => ?_
   refine Ae (Ab (wp_block ?_))
   refine A1 H (fun s a w => Fr 49 [] [(0, v1), (1, .int .i64 p1), (2, .int .i64 p2), (6, .int .i64 x2), (7, .int .i64 s.2)] a ∧ Stw ⟨Y, X, w0⟩ [] [row v1 3 (Rp.int .i64) s.1] w) ⟨F.re ⟨rfl, Aa, Aa, Aa, Aa, trivial⟩, W⟩ fun s o a w H L3 hR => ?_
   obtain ⟨x4, x5⟩ := s
   obtain ⟨F, W⟩ := hR
   have F : Fr 49 [] [(0, v1), (1, .int .i64 p1), (2, .int .i64 p2), (6, .int .i64 x2), (7, .int .i64 x5)] a := F
   have W : Stw ⟨Y, X, w0⟩ [] [row v1 3 (Rp.int .i64) x4] w := W
   rw [Ba] at H
   refine Ah ?_
   obtain ⟨o4, G4, K4⟩ := Al H
   refine AC (fun a w => ∃ x6 : Bool, some (x6) = some o4 ∧ Fr 49 [] [(0, v1), (1, .int .i64 p1), (2, .int .i64 p2), (6, .int .i64 x2), (7, .int .i64 x5), (30, .bool x6)] a ∧ Stw ⟨Y, X, w0⟩ [] [row v1 3 (Rp.int .i64) x4] w) ?_ ?_
   ·
    have H := G4
    clear G4 K4
    refine BB W MO (by kernel_rfl) ?_
    iterate 2 refine qs F Aa (Ad F Aa).q fun a F => ?_
    refine qs F Aa (DZ F Aa Aa).q fun a F => ?_
    refine qs F Aa (Ad F Aa).q fun a F => ?_
    rcases Bool.eq_false_or_eq_true (decide (p1 < x5)) with hb | hb
    ·
     have H := AL (A6 hb) H
     rw [hb] at F
     clear hb
     iterate 2 refine Bf F (Ag F Aa Aa Aa Aa) Aa (Ak Aa) (Ad F Aa).q fun a F => ?_
     obtain ⟨x7, h1, H⟩ := Al H
     refine Bf F (Ag F Aa Aa Aa Aa) Aa (Ak Aa) (Ay (r := (Rp.int .i64)) Eo F Aa Aa (Ao 0 Aa) h1).q fun a F => ?_
     refine Bf F (Ag F Aa Aa Aa Aa) Aa (Ak Aa) (Ap (y := Value.int .i64 x7) (j := 0) (i := x5) F Aa Aa (Ao 0 Aa) h1 Fl.int.to T3 Aa).q fun a F => ?_
     iterate 2 refine Bf F (Ag F Aa Aa Aa Aa) Aa (Ak Aa) (Ad F Aa).q fun a F => ?_
     refine Bf F (Ag F Aa Aa Aa Aa) Aa (Ak Aa) (B5 F Aa Aa Aa).q fun a F => ?_
     obtain ⟨x8, h2, H⟩ := Al H
     refine Bf F (Ag F Aa Aa Aa Aa) Aa (Ak Aa) (Ay (r := (Rp.int .i64)) Eo F Aa Aa (Ao 0 Aa) h2).q fun a F => ?_
     refine Bf F (Ag F Aa Aa Aa Aa) Aa (Ak Aa) (Ap (y := Value.int .i64 x8) (j := 0) (i := AA (x5 - 1)) F Aa Aa (Ao 0 Aa) h2 Fl.int.to T3 Aa).q fun a F => ?_
     refine Bf F (Ag F Aa Aa Aa Aa) Aa (Ak Aa) (BH (v := Value.bool (Cq x7 x8)) F Pm Aa (fun w W => EK any w x7 x8 _ Aa)) fun a F => ?_
     refine qs F Aa (Aq F Aa Aa Aa).q fun a F => ?_
     refine AR fun w W => ?_
     refine Ab ?_
     exact ⟨_, H, F.re ⟨rfl, Aa, Aa, Aa, Aa, Aa, trivial⟩, W⟩
    have H := AK (A7 hb) H
    rw [hb] at F
    clear hb
    iterate 10 refine El F (Dm F Aa Aa Aa Aa Aa) Aa Aa fun a F => ?_
    refine qs F Aa (Au F Aa Aa Aa).q fun a F => ?_
    refine AR fun w W => ?_
    refine Ab ?_
    exact ⟨_, H, F.re ⟨rfl, Aa, Aa, Aa, Aa, Aa, trivial⟩, W⟩
   rintro a w ⟨x6, hj, F, W⟩
   have hj := AM hj
   subst hj
   have H := K4
   clear G4 K4
   refine Aw F Aa (fun hb => ?_) fun hb => ?_
   ·
    have H := AL hb H
    rw [hb] at F
    clear hb
    refine wp_skip (Ab (Ah (wp_block ?_)))
    refine Ev [(true, 0), (true, 1), (true, 2), (true, 3), (true, 4), (true, 5), (true, 6), (true, 7), (true, 8), (true, 9), (true, 10), (true, 11), (true, 12), (true, 13), (true, 14), (false, 15), (true, 16), (false, 17)] (CN ⟨Y, X, w0⟩ [] [(some 15, row v1 3 (Rp.int .i64) x4)]) (fun ch a d v w h => by cases d <;> exact h) MO (by kernel_rfl) W (fun w W => ⟨_, _, W, AB, (Bi (fun _ => (.head _)) AB)⟩) fun w W => ?_
    iterate 4 refine Bo (R := []) F Aa Aa (yC fun M Z hN hZ => Ad F Aa) Aa Aa fun a F => ?_
    refine Bo (R := []) F Aa Aa (yC fun M Z hN hZ => B5 F Aa Aa Aa) Aa Aa fun a F => ?_
    iterate 2 refine Bo (R := []) F Aa Aa (yC fun M Z hN hZ => Ad F Aa) Aa Aa fun a F => ?_
    refine Bo (R := []) F Aa Aa (yC fun M Z hN hZ => B5 F Aa Aa Aa) Aa Aa fun a F => ?_
    obtain ⟨x9, h3, H⟩ := Al H
    refine Bo (R := []) F Aa Aa (yC fun M Z hN hZ => Bu (r := (Rp.int .i64)) Eo F Aa Aa (CT W (Ao 0 Aa)) h3) Aa Aa fun a F => ?_
    refine Bo (R := [15]) F Aa Aa (yC fun M Z hN hZ => Ap (y := Value.int .i64 x9) (j := 0) (i := AA (x5 - 1)) F Aa Aa (CO (hZ ((some 15), row v1 3 (Rp.int .i64) x4) (.head _) Aa)) h3 Fl.int.to T3 Aa) (by kernel_rfl) Aa fun a F => ?_
    iterate 2 refine Bo (R := []) F Aa Aa (yC fun M Z hN hZ => Ad F Aa) Aa Aa fun a F => ?_
    obtain ⟨x10, h4, H⟩ := Al H
    refine Bo (R := []) F Aa Aa (yC fun M Z hN hZ => Bu (r := (Rp.int .i64)) Eo F Aa Aa (CT W (Ao 0 Aa)) h4) Aa Aa fun a F => ?_
    refine Bo (R := [15]) F Aa Aa (yC fun M Z hN hZ => Ap (y := Value.int .i64 x10) (j := 0) (i := x5) F Aa Aa (CO (hZ ((some 15), row v1 3 (Rp.int .i64) x4) (.head _) Aa)) h4 Fl.int.to T3 Aa) (by kernel_rfl) Aa fun a F => ?_
    obtain ⟨x11, h5, H⟩ := Al H
    refine Bo (R := []) F Aa Aa (yC fun M Z hN hZ => Bu (r := (Rp.int .i64)) Eo F Aa Aa (CT W (Ao 0 Aa)) h5) Aa Aa fun a F => ?_
    refine Gc Aa ?_
    refine Bh (i := x5) (j := 0) (vs := [.int .i64 x9]) (x' := x9) F W Aa Aa Aa (k := 0) Aa Aa h5 T3 Aa Aa Aa Aa (fun A cs _ => Fl.int.sto (by rfl) _ _ _) fun w W => ?_
    refine CE (N2 := []) (NZ2 := []) (N3 := []) (NZ3 := [(some 15, row v1 3 (Rp.int .i64) x4)]) W Aa Aa AB (Bi (fun h => Ch (by kernel_rfl) h) AB) ?_
    obtain ⟨x12, h6, H⟩ := Al H
    refine Bo (R := []) F Aa Aa (yC fun M Z hN hZ => Bu (r := (Rp.int .i64)) Eo F Aa Aa (CT W (Ao 0 Aa)) h6) Aa Aa fun a F => ?_
    refine Gc Aa ?_
    refine Bh (i := AA (x5 - 1)) (j := 0) (vs := [.int .i64 x10]) (x' := x10) F W Aa Aa Aa (k := 0) Aa Aa h6 T3 Aa Aa Aa Aa (fun A cs _ => Fl.int.sto (by rfl) _ _ _) fun w W => ?_
    refine CE (N2 := []) (NZ2 := []) (N3 := []) (NZ3 := [(some 15, row v1 3 (Rp.int .i64) x4)]) W Aa Aa AB (Bi (fun h => Ch (by kernel_rfl) h) AB) ?_
    refine Gs (AH (Ab (Ac ?_)))
    refine ls F W Aa (Ad F Aa).q fun a w F W => ?_
    refine ls F W Aa (B5 F Aa Aa Aa).q fun a w F W => ?_
    refine ls F W Aa (Af F Aa).q fun a w F W => ?_
    refine Ae (Ab ?_)
    exact ⟨_, H, F.re ⟨rfl, Aa, Aa, Aa, Aa, trivial⟩, W⟩
   have H := AK (by rw [hb]; decide) H
   rw [hb] at F
   clear hb
   refine wp_exit ?_
   iterate 2 refine A5 ?_
   refine AU (AH (Ab ?_))
   have H := L3 _ H
   exact ⟨_, H, F.re ⟨rfl, Aa, Aa, Aa, trivial⟩, W⟩
  rintro a w ⟨x3, hj, F, W⟩
  have hj := AM hj
  subst hj
  have H := K2
  clear G2 K2
  refine Ac ?_
  refine ls F W Aa (Ad F Aa).q fun a w F W => ?_
  refine ls F W Aa (A3 F Aa Aa Aa).q fun a w F W => ?_
  refine ls F W Aa (Af F Aa).q fun a w F W => ?_
  refine Ae (Ab ?_)
  exact ⟨_, H, F.re ⟨rfl, Aa, Aa, Aa, trivial⟩, W⟩
 have H := AK (A7 hb) H
 rw [hb] at F
 clear hb
 refine wp_exit ?_
 iterate 2 refine A5 ?_
 refine AU ?_
 have H := L1 _ H
 have H := AM H
 subst H
 refine Ic (.inr Aa) F Aa ?_
 exact ⟨(), Aa, W⟩
theorem Uo : Has Try.prog 97 := ⟨fun args w => An Try.func97 rfl (by decide) args w⟩
noncomputable def Cw (p0 : List Int) (p1 : Int) (p2 : Int) (p3 : Int) : Option (Int × Int × Int) := (ix p0 p2).bind fun x1 => (ix p0 p1).bind fun x2 => (if (Cq x1 x2) = true then some (p2, p1, AA (p3 + 1)) else some (p1, p2, p3))
theorem Eh (Y : Nat → Prop) (X : List Nat) (w0 : World) (v1 : Value) (q_p3 : Nat) (p0 : List Int) (p1 : Int) (p2 : Int) (p3 : Int) (r : Int × Int × Int) (H : Cw p0 p1 p2 p3 = some r) (h_v1 : Sl w0 (NX X) (Rp.int .i64) v1 p0) (hL : Stw ⟨Y, X, w0⟩ [(q_p3, [.int .i64 p3])] [] w0) :
    Calls Try.prog 113 #[v1, .int .i64 p1, .int .i64 p2, .pointer (some ⟨q_p3, 0, none⟩)] w0 fun e w' => ∃ x : Unit, e = .returned (.tuple #[.int .i64 r.1, .int .i64 r.2.1]) ∧ Stw ⟨Y, X, w0⟩ [(q_p3, [.int .i64 r.2.2])] [] w' := by
 refine enter Try.func113 Aa Try.ntmps113 Aa fun a F => ?_
 have W := hL
 unfold Cw at H
 refine Ah (Ac ?_)
 iterate 2 refine ls F W Aa (Af F Aa).q fun a w F W => ?_
 refine Ae (Ab ?_)
 iterate 2 refine Ah ?_
 refine BB W MO (by kernel_rfl) ?_
 iterate 2 refine qs F Aa (Ad F Aa).q fun a F => ?_
 obtain ⟨x1, h1, H⟩ := Al H
 refine qs F Aa (Ay (r := (Rp.int .i64)) Eo F Aa Aa (Am h_v1) h1).q fun a F => ?_
 refine qs F Aa (Ap (y := Value.int .i64 x1) (j := 0) (i := p2) F Aa Aa (Am h_v1) h1 Fl.int.to T3 Aa).q fun a F => ?_
 iterate 2 refine qs F Aa (Ad F Aa).q fun a F => ?_
 obtain ⟨x2, h2, H⟩ := Al H
 refine qs F Aa (Ay (r := (Rp.int .i64)) Eo F Aa Aa (Am h_v1) h2).q fun a F => ?_
 refine qs F Aa (Ap (y := Value.int .i64 x2) (j := 0) (i := p1) F Aa Aa (Am h_v1) h2 Fl.int.to T3 Aa).q fun a F => ?_
 refine qs F Aa (BH (v := Value.bool (Cq x1 x2)) F Pm Aa (fun w W => EK any w x1 x2 _ Aa)) fun a F => ?_
 refine AR fun w W => ?_
 refine Ab ?_
 refine Aw F Aa (fun hb => ?_) fun hb => ?_
 ·
  have H := AL hb H
  rw [hb] at F
  clear hb
  refine Ah (Ac ?_)
  refine ls F W Aa (Ad F Aa).q fun a w F W => ?_
  refine ls F W Aa (Dl F Aa).q fun a w F W => ?_
  refine ls F W Aa (As (v := Value.int .i64 p3) 0 F Aa Aa T3 Aa).q fun a w F W => ?_
  refine ls F W Aa (A3 F Aa Aa Aa).q fun a w F W => ?_
  refine ls F W Aa (Dl F Aa).q fun a w F W => ?_
  refine Br (vs := [.int .i64 (AA (p3 + 1))]) (M' := [(q_p3, [.int .i64 (AA (p3 + 1))])]) 0 F W Aa Aa Aa T3 Aa Aa Aa Aa Aa fun w W => ?_
  refine Ae (Ab (Ah (Ac ?_)))
  iterate 2 refine ls F W Aa (Ad F Aa).q fun a w F W => ?_
  iterate 2 refine ls F W Aa (Af F Aa).q fun a w F W => ?_
  refine Ae (Ab (wp_ret (AG ?_)))
  have H := AM H
  subst H
  refine CY (.inl Aa) F W Aa (Av F Aa) (Av F Aa) ?_
  exact ⟨(), Aa, W⟩
 have H := AK (by rw [hb]; decide) H
 rw [hb] at F
 clear hb
 refine wp_skip (Ab (Ah (Ac ?_)))
 iterate 2 refine ls F W Aa (Ad F Aa).q fun a w F W => ?_
 iterate 2 refine ls F W Aa (Af F Aa).q fun a w F W => ?_
 refine Ae (Ab (wp_ret ?_))
 have H := AM H
 subst H
 refine CY (.inl Aa) F W Aa (Av F Aa) (Av F Aa) ?_
 exact ⟨(), Aa, W⟩
theorem RN : Has Try.prog 113 := ⟨fun args w => An Try.func113 rfl (by decide) args w⟩
noncomputable def Cx (p0 : List Int) (p1 : Int) (p2 : Int) (p3 : Int) (p4 : Int) : Option (Int × Int) := (Cw p0 p1 p2 p4).bind fun x1 => (Cw p0 x1.2.1 p3 x1.2.2).bind fun x2 => (Cw p0 x1.1 x2.1 x2.2.2).bind fun x3 => some (x3.2.1, x3.2.2)
theorem Fm (Y : Nat → Prop) (X : List Nat) (w0 : World) (v1 : Value) (q_p4 : Nat) (p0 : List Int) (p1 : Int) (p2 : Int) (p3 : Int) (p4 : Int) (r : Int × Int) (H : Cx p0 p1 p2 p3 p4 = some r) (h_v1 : Sl w0 (NX X) (Rp.int .i64) v1 p0) (hL : Stw ⟨Y, X, w0⟩ [(q_p4, [.int .i64 p4])] [] w0) :
    Calls Try.prog 112 #[v1, .int .i64 p1, .int .i64 p2, .int .i64 p3, .pointer (some ⟨q_p4, 0, none⟩)] w0 fun e w' => ∃ x : Unit, e = .returned (.int .i64 r.1) ∧ Stw ⟨Y, X, w0⟩ [(q_p4, [.int .i64 r.2])] [] w' := by
 refine enter Try.func112 Aa Try.ntmps112 Aa fun a F => ?_
 have W := hL
 unfold Cx at H
 refine Ah (Ac ?_)
 refine ls F W Aa (Af F Aa).q fun a w F W => ?_
 refine Ae (Ab (Ah (Ac ?_)))
 iterate 4 refine ls F W Aa (Ad F Aa).q fun a w F W => ?_
 obtain ⟨x1, h1, H⟩ := Al H
 refine Bp (Ml := [(q_p4, [.int .i64 p4])]) (Zl := []) (M := []) (Z := []) (β := Unit) (rv := fun x => .tuple #[.int .i64 x1.1, .int .i64 x1.2.1]) (MM := fun x => [(q_p4, [.int .i64 x1.2.2])]) (ZZ := fun x => []) F W RN Aa Aa (fun hL => Eh _ _ w (v1) q_p4 p0 p1 p2 p4 _ h1 (W.roX h_v1 (fun g hg => EH hg)) hL) fun x a w F W => ?_
 have W : Stw ⟨Y, X, w0⟩ [(q_p4, [.int .i64 x1.2.2])] [] w := W
 refine ls F W Aa (Ad F Aa).q fun a w F W => ?_
 refine ls F W Aa (A0 (v := Value.int .i64 x1.1) F Aa Aa).q fun a w F W => ?_
 refine ls F W Aa (A0 (v := Value.int .i64 x1.2.1) F Aa Aa).q fun a w F W => ?_
 iterate 2 refine ls F W Aa (Af F Aa).q fun a w F W => ?_
 refine Ae (Ab (Ah (Ac ?_)))
 iterate 4 refine ls F W Aa (Ad F Aa).q fun a w F W => ?_
 obtain ⟨x2, h2, H⟩ := Al H
 refine Bp (Ml := [(q_p4, [.int .i64 x1.2.2])]) (Zl := []) (M := []) (Z := []) (β := Unit) (rv := fun x => .tuple #[.int .i64 x2.1, .int .i64 x2.2.1]) (MM := fun x => [(q_p4, [.int .i64 x2.2.2])]) (ZZ := fun x => []) F W RN Aa Aa (fun hL => Eh _ _ w (v1) q_p4 p0 x1.2.1 p3 x1.2.2 _ h2 (W.roX h_v1 (fun g hg => EH hg)) hL) fun x a w F W => ?_
 have W : Stw ⟨Y, X, w0⟩ [(q_p4, [.int .i64 x2.2.2])] [] w := W
 refine ls F W Aa (Ad F Aa).q fun a w F W => ?_
 refine ls F W Aa (A0 (v := Value.int .i64 x2.1) F Aa Aa).q fun a w F W => ?_
 refine ls F W Aa (A0 (v := Value.int .i64 x2.2.1) F Aa Aa).q fun a w F W => ?_
 iterate 2 refine ls F W Aa (Af F Aa).q fun a w F W => ?_
 refine Ae (Ab (Ah (Ac ?_)))
 iterate 4 refine ls F W Aa (Ad F Aa).q fun a w F W => ?_
 obtain ⟨x3, h3, H⟩ := Al H
 refine Bp (Ml := [(q_p4, [.int .i64 x2.2.2])]) (Zl := []) (M := []) (Z := []) (β := Unit) (rv := fun x => .tuple #[.int .i64 x3.1, .int .i64 x3.2.1]) (MM := fun x => [(q_p4, [.int .i64 x3.2.2])]) (ZZ := fun x => []) F W RN Aa Aa (fun hL => Eh _ _ w (v1) q_p4 p0 x1.1 x2.1 x2.2.2 _ h3 (W.roX h_v1 (fun g hg => EH hg)) hL) fun x a w F W => ?_
 have W : Stw ⟨Y, X, w0⟩ [(q_p4, [.int .i64 x3.2.2])] [] w := W
 refine ls F W Aa (Ad F Aa).q fun a w F W => ?_
 refine ls F W Aa (A0 (v := Value.int .i64 x3.1) F Aa Aa).q fun a w F W => ?_
 refine ls F W Aa (A0 (v := Value.int .i64 x3.2.1) F Aa Aa).q fun a w F W => ?_
 iterate 2 refine ls F W Aa (Af F Aa).q fun a w F W => ?_
 refine Ae (Ab (Ah (Ac ?_)))
 refine ls F W Aa (Ad F Aa).q fun a w F W => ?_
 refine ls F W Aa (Af F Aa).q fun a w F W => ?_
 refine Ae (Ab (wp_ret ?_))
 have H := AM H
 subst H
 refine Bl (.inl Aa) F W Aa (Av F Aa) ?_
 exact ⟨(), Aa, W⟩
theorem R5 : Has Try.prog 112 := ⟨fun args w => An Try.func112 rfl (by decide) args w⟩
noncomputable def BL (p0 : List Int) (p1 : Int) (p2 : Int) : Option (Int × Int) := (Cx p0 (AA (p1 - 1)) p1 (AA (p1 + 1)) p2).bind fun x1 => some (x1.1, x1.2)
theorem Dd (Y : Nat → Prop) (X : List Nat) (w0 : World) (v1 : Value) (q_p2 : Nat) (p0 : List Int) (p1 : Int) (p2 : Int) (r : Int × Int) (H : BL p0 p1 p2 = some r) (h_v1 : Sl w0 (NX X) (Rp.int .i64) v1 p0) (hL : Stw ⟨Y, X, w0⟩ [(q_p2, [.int .i64 p2])] [] w0) :
    Calls Try.prog 111 #[v1, .int .i64 p1, .pointer (some ⟨q_p2, 0, none⟩)] w0 fun e w' => ∃ x : Unit, e = .returned (.int .i64 r.1) ∧ Stw ⟨Y, X, w0⟩ [(q_p2, [.int .i64 r.2])] [] w' := by
 refine enter Try.func111 Aa Try.ntmps111 Aa fun a F => ?_
 have W := hL
 unfold BL at H
 refine Ah (Ac ?_)
 refine ls F W Aa (Af F Aa).q fun a w F W => ?_
 refine Ae (Ab (Ah (Ac ?_)))
 iterate 2 refine ls F W Aa (Ad F Aa).q fun a w F W => ?_
 refine ls F W Aa (B5 F Aa Aa Aa).q fun a w F W => ?_
 iterate 2 refine ls F W Aa (Ad F Aa).q fun a w F W => ?_
 refine ls F W Aa (A3 F Aa Aa Aa).q fun a w F W => ?_
 refine ls F W Aa (Ad F Aa).q fun a w F W => ?_
 obtain ⟨x1, h1, H⟩ := Al H
 refine Bp (Ml := [(q_p2, [.int .i64 p2])]) (Zl := []) (M := []) (Z := []) (β := Unit) (rv := fun x => .int .i64 x1.1) (MM := fun x => [(q_p2, [.int .i64 x1.2])]) (ZZ := fun x => []) F W R5 Aa Aa (fun hL => Fm _ _ w (v1) q_p2 p0 (AA (p1 - 1)) p1 (AA (p1 + 1)) p2 _ h1 (W.roX h_v1 (fun g hg => EH hg)) hL) fun x a w F W => ?_
 have W : Stw ⟨Y, X, w0⟩ [(q_p2, [.int .i64 x1.2])] [] w := W
 refine ls F W Aa (Af F Aa).q fun a w F W => ?_
 refine Ae (Ab (wp_ret ?_))
 have H := AM H
 subst H
 refine Bl (.inl Aa) F W Aa (Av F Aa) ?_
 exact ⟨(), Aa, W⟩
theorem RR : Has Try.prog 111 := ⟨fun args w => An Try.func111 rfl (by decide) args w⟩
noncomputable def Cc (p0 : List Int) (p1 : Int) (p2 : Int) : Option (Int × Int) := (if 8 ≤ (AA (p2 - p1)) then (if 50 ≤ (AA (p2 - p1)) then (BL p0 (AA (p1 + (AA ((AA (Int.tdiv (AA (p2 - p1)) 4)) * 1)))) 0).bind fun x7 => (BL p0 (AA (p1 + (AA ((AA (Int.tdiv (AA (p2 - p1)) 4)) * 2)))) x7.2).bind fun x8 => (BL p0 (AA (p1 + (AA ((AA (Int.tdiv (AA (p2 - p1)) 4)) * 3)))) x8.2).bind fun x9 => some (x7.1, x8.1, x9.1, x9.2) else some (AA (p1 + (AA ((AA (Int.tdiv (AA (p2 - p1)) 4)) * 1))), AA (p1 + (AA ((AA (Int.tdiv (AA (p2 - p1)) 4)) * 2))), AA (p1 + (AA ((AA (Int.tdiv (AA (p2 - p1)) 4)) * 3))), 0)).bind fun (x3, x4, x5, x6) => (Cx p0 x3 x4 x5 x6).bind fun x10 => some (x10.1, x10.2) else some (AA (p1 + (AA ((AA (Int.tdiv (AA (p2 - p1)) 4)) * 2))), 0)).bind fun (x1, x2) => (if x2 = 0 then some (x1, 1) else (if x2 = 12 then some (x1, 2) else some (x1, 0)))
theorem GJ (Y : Nat → Prop) (w0 : World) (v1 : Value) (p0 : List Int) (p1 : Int) (p2 : Int) (r : Int × Int) (H : Cc p0 p1 p2 = some r) (h_v1 : Sl w0 (NX []) (Rp.int .i64) v1 p0) :
    Calls Try.prog 100 #[v1, .int .i64 p1, .int .i64 p2] w0 fun e w' => e = .returned (.tuple #[.int .i64 r.1, .int .i64 r.2]) ∧ Below w0.heap.size w0 w' := by
 refine enter Try.func100 Aa Try.ntmps100 Aa fun a F => ?_
 have W := Stw.start Y w0
 unfold Cc at H
 refine Ah (Ac ?_)
 iterate 2 refine ls F W Aa (Af F Aa).q fun a w F W => ?_
 refine Ae (Ab (Ah (Ac ?_)))
 iterate 2 refine ls F W Aa (Ad F Aa).q fun a w F W => ?_
 refine ls F W Aa (B5 F Aa Aa Aa).q fun a w F W => ?_
 refine ls F W Aa (Af F Aa).q fun a w F W => ?_
 refine Ae (Ab (Ah (Ac ?_)))
 refine Cn (cs := [.int .i64 0]) F W Aa Z3 Aa fun b1 a w F W => ?_
 refine Ae (Ab (Ah (Ac ?_)))
 iterate 2 refine ls F W Aa (Ad F Aa).q fun a w F W => ?_
 refine ls F W Aa (JH F Aa Aa (by decide) Aa).q fun a w F W => ?_
 refine ls F W Aa (I5 F Aa Aa Aa).q fun a w F W => ?_
 refine ls F W Aa (A3 F Aa Aa Aa).q fun a w F W => ?_
 refine ls F W Aa (Af F Aa).q fun a w F W => ?_
 refine Ae (Ab (Ah (Ac ?_)))
 iterate 2 refine ls F W Aa (Ad F Aa).q fun a w F W => ?_
 refine ls F W Aa (JH F Aa Aa (by decide) Aa).q fun a w F W => ?_
 refine ls F W Aa (I5 F Aa Aa Aa).q fun a w F W => ?_
 refine ls F W Aa (A3 F Aa Aa Aa).q fun a w F W => ?_
 refine ls F W Aa (Af F Aa).q fun a w F W => ?_
 refine Ae (Ab (Ah (Ac ?_)))
 iterate 2 refine ls F W Aa (Ad F Aa).q fun a w F W => ?_
 refine ls F W Aa (JH F Aa Aa (by decide) Aa).q fun a w F W => ?_
 refine ls F W Aa (I5 F Aa Aa Aa).q fun a w F W => ?_
 refine ls F W Aa (A3 F Aa Aa Aa).q fun a w F W => ?_
 refine ls F W Aa (Af F Aa).q fun a w F W => ?_
 refine Ae (Ab ?_)
 obtain ⟨o1, G1, K1⟩ := Al H
 refine AC (fun a w => ∃ x1 : Int, ∃ x2 : Int, some ((x1, x2)) = some o1 ∧ Fr 57 [] [(6, .int .i64 0), (7, .int .i64 0), (9, .pointer (some ⟨b1, 0, none⟩)), (11, .int .i64 x1)] a ∧ Stw ⟨Y, [], w0⟩ [(b1, [.int .i64 x2])] [] w) ?_ ?_
 ·
  have H := G1
  clear G1 K1
  refine Ah (Ac ?_)
  refine ls F W Aa (Ad F Aa).q fun a w F W => ?_
  refine ls F W Aa (Dj F Aa Aa).q fun a w F W => ?_
  refine Ae (Ab ?_)
  refine Aw F Aa (fun hb => ?_) fun hb => ?_
  ·
   have H := AL (A6 hb) H
   rw [hb] at F
   clear hb
   obtain ⟨o2, G2, K2⟩ := Al H
   refine AC (fun a w => ∃ x3 : Int, ∃ x4 : Int, ∃ x5 : Int, ∃ x6 : Int, some ((x3, x4, x5, x6)) = some o2 ∧ Fr 57 [] [(0, v1), (6, .int .i64 0), (7, .int .i64 0), (9, .pointer (some ⟨b1, 0, none⟩)), (10, .int .i64 x3), (11, .int .i64 x4), (12, .int .i64 x5)] a ∧ Stw ⟨Y, [], w0⟩ [(b1, [.int .i64 x6])] [] w) ?_ ?_
   ·
    have H := G2
    clear G2 K2
    refine Ah (Ac ?_)
    refine ls F W Aa (Ad F Aa).q fun a w F W => ?_
    refine ls F W Aa (Dj F Aa Aa).q fun a w F W => ?_
    refine Ae (Ab ?_)
    refine Aw F Aa (fun hb => ?_) fun hb => ?_
    ·
     have H := AL (A6 hb) H
     rw [hb] at F
     clear hb
     refine Ah (Ac ?_)
     iterate 2 refine ls F W Aa (Ad F Aa).q fun a w F W => ?_
     obtain ⟨x7, h1, H⟩ := Al H
     refine Bp (Ml := [(b1, [.int .i64 0])]) (Zl := []) (M := []) (Z := []) (β := Unit) (rv := fun x => .int .i64 x7.1) (MM := fun x => [(b1, [.int .i64 x7.2])]) (ZZ := fun x => []) F W RR Aa Aa (fun hL => Dd _ _ w (v1) b1 p0 (AA (p1 + (AA ((AA (Int.tdiv (AA (p2 - p1)) 4)) * 1)))) 0 _ h1 (W.roX h_v1 (fun g hg => EH hg)) hL) fun x a w F W => ?_
     have W : Stw ⟨Y, [], w0⟩ [(b1, [.int .i64 x7.2])] [] w := W
     refine ls F W Aa (Af F Aa).q fun a w F W => ?_
     refine Ae (Ab (Ah (Ac ?_)))
     iterate 2 refine ls F W Aa (Ad F Aa).q fun a w F W => ?_
     obtain ⟨x8, h2, H⟩ := Al H
     refine Bp (Ml := [(b1, [.int .i64 x7.2])]) (Zl := []) (M := []) (Z := []) (β := Unit) (rv := fun x => .int .i64 x8.1) (MM := fun x => [(b1, [.int .i64 x8.2])]) (ZZ := fun x => []) F W RR Aa Aa (fun hL => Dd _ _ w (v1) b1 p0 (AA (p1 + (AA ((AA (Int.tdiv (AA (p2 - p1)) 4)) * 2)))) x7.2 _ h2 (W.roX h_v1 (fun g hg => EH hg)) hL) fun x a w F W => ?_
     have W : Stw ⟨Y, [], w0⟩ [(b1, [.int .i64 x8.2])] [] w := W
     refine ls F W Aa (Af F Aa).q fun a w F W => ?_
     refine Ae (Ab (Ac ?_))
     iterate 2 refine ls F W Aa (Ad F Aa).q fun a w F W => ?_
     obtain ⟨x9, h3, H⟩ := Al H
     refine Bp (Ml := [(b1, [.int .i64 x8.2])]) (Zl := []) (M := []) (Z := []) (β := Unit) (rv := fun x => .int .i64 x9.1) (MM := fun x => [(b1, [.int .i64 x9.2])]) (ZZ := fun x => []) F W RR Aa Aa (fun hL => Dd _ _ w (v1) b1 p0 (AA (p1 + (AA ((AA (Int.tdiv (AA (p2 - p1)) 4)) * 3)))) x8.2 _ h3 (W.roX h_v1 (fun g hg => EH hg)) hL) fun x a w F W => ?_
     have W : Stw ⟨Y, [], w0⟩ [(b1, [.int .i64 x9.2])] [] w := W
     refine ls F W Aa (Af F Aa).q fun a w F W => ?_
     refine Ae (Ab ?_)
     exact ⟨_, _, _, _, H, F.re ⟨rfl, Aa, Aa, Aa, Aa, Aa, Aa, trivial⟩, W⟩
    have H := AK (A7 hb) H
    rw [hb] at F
    clear hb
    refine wp_skip (Ab ?_)
    exact ⟨_, _, _, _, H, F.re ⟨rfl, Aa, Aa, Aa, Aa, Aa, Aa, trivial⟩, W⟩
   rintro a w ⟨x3, x4, x5, x6, hj, F, W⟩
   have hj := AM hj
   subst hj
   have H := K2
   clear G2 K2
   refine Ac ?_
   iterate 4 refine ls F W Aa (Ad F Aa).q fun a w F W => ?_
   obtain ⟨x10, h4, H⟩ := Al H
   refine Bp (Ml := [(b1, [.int .i64 x6])]) (Zl := []) (M := []) (Z := []) (β := Unit) (rv := fun x => .int .i64 x10.1) (MM := fun x => [(b1, [.int .i64 x10.2])]) (ZZ := fun x => []) F W R5 Aa Aa (fun hL => Fm _ _ w (v1) b1 p0 x3 x4 x5 x6 _ h4 (W.roX h_v1 (fun g hg => EH hg)) hL) fun x a w F W => ?_
   have W : Stw ⟨Y, [], w0⟩ [(b1, [.int .i64 x10.2])] [] w := W
   refine ls F W Aa (Af F Aa).q fun a w F W => ?_
   refine Ae (Ab ?_)
   exact ⟨_, _, H, F.re ⟨rfl, Aa, Aa, Aa, trivial⟩, W⟩
  have H := AK (A7 hb) H
  rw [hb] at F
  clear hb
  refine wp_skip (Ab ?_)
  exact ⟨_, _, H, F.re ⟨rfl, Aa, Aa, Aa, trivial⟩, W⟩
 rintro a w ⟨x1, x2, hj, F, W⟩
 have hj := AM hj
 subst hj
 have H := K1
 clear G1 K1
 refine Ah (Ac ?_)
 refine ls F W Aa (As (v := Value.int .i64 x2) 0 F Aa Aa T3 Aa).q fun a w F W => ?_
 refine Ae (Ab (wp_block (Ah (Ac ?_))))
 refine ls F W Aa (Cy F Aa Aa).q fun a w F W => ?_
 refine ls F W Aa (Af F Aa).q fun a w F W => ?_
 refine Ae (Ab ?_)
 refine Aw F Aa (fun hb => ?_) fun hb => ?_
 ·
  have H := AL (A6 hb) H
  rw [hb] at F
  clear hb
  refine Ah (Ac ?_)
  refine ls F W Aa (Ad F Aa).q fun a w F W => ?_
  iterate 2 refine ls F W Aa (Af F Aa).q fun a w F W => ?_
  refine Ae (Ab (wp_ret (AO ?_)))
  have H := AM H
  subst H
  refine CY (.inl Aa) F W Aa (Av F Aa) (Av F Aa) ?_
  exact ⟨rfl, W.done⟩
 have H := AK (A7 hb) H
 rw [hb] at F
 clear hb
 refine Ah (Ac ?_)
 refine ls F W Aa (Cy F Aa Aa).q fun a w F W => ?_
 refine ls F W Aa (Af F Aa).q fun a w F W => ?_
 refine Ae (Ab ?_)
 refine Aw F Aa (fun hb => ?_) fun hb => ?_
 ·
  have H := AL (A6 hb) H
  rw [hb] at F
  clear hb
  refine Ah (Ac ?_)
  refine ls F W Aa (Ad F Aa).q fun a w F W => ?_
  iterate 2 refine ls F W Aa (Af F Aa).q fun a w F W => ?_
  refine Ae (Ab (wp_ret (AO ?_)))
  have H := AM H
  subst H
  refine CY (.inl Aa) F W Aa (Av F Aa) (Av F Aa) ?_
  exact ⟨rfl, W.done⟩
 have H := AK (A7 hb) H
 rw [hb] at F
 clear hb
 refine Ah (Ac ?_)
 refine ls F W Aa (Ad F Aa).q fun a w F W => ?_
 iterate 2 refine ls F W Aa (Af F Aa).q fun a w F W => ?_
 refine Ae (Ab (wp_ret (AO ?_)))
 have H := AM H
 subst H
 refine CY (.inl Aa) F W Aa (Av F Aa) (Av F Aa) ?_
 exact ⟨rfl, W.done⟩
end Go.Proofs.Ytjcaadbafjgefaa
