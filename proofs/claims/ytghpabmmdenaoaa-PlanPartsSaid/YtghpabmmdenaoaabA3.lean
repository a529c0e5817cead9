/- The functions of layer 24, Ig. Conditions: none. -/
import Derived.Test.YtghpabmmdenaoaabA2
namespace Go.Proofs.Ytghpabmmdenaoaa
open Go Go.RowKit
set_option linter.unusedVariables false
set_option linter.unusedSimpArgs false
set_option maxRecDepth 20000
theorem S4 : type_of% Try.underlying138 := Try.underlying138
theorem U9 : Has Try.prog 76 := ⟨fun args w => Al Try.func76 rfl (by decide) args w⟩
noncomputable def BJ (p1 : Int) (p2 : Int) (x1 : Int) : ((List (Int × Int × Int × Int)) × Int × Int) → Option (((List (Int × Int × Int × Int)) × Int × Int) ⊕ (List (Int × Int × Int × Int)))
  | (x2, x3, x4) => (if x3 ≤ (Az ((Az (p1 + (Az ((Az (Int.tdiv (Az (p2 - p1)) 4)) * 2)))) + 1)) then (if (Az (p2 - p1)) ≤ (Az (O8 .u64 ((B4 x4).1) (IntKind.u64.wrap (x1 - 1)))) then some (Az ((Az (O8 .u64 ((B4 x4).1) (IntKind.u64.wrap (x1 - 1)))) - (Az (p2 - p1)))) else some (Az (O8 .u64 ((B4 x4).1) (IntKind.u64.wrap (x1 - 1))))).bind fun x5 => (ix x2 (Az (p1 + x5))).bind fun x6 => (ix x2 x3).bind fun x7 => (ix x2 x3).bind fun x8 => (ix (AE x2 x3 x6) (Az (p1 + x5))).bind fun x9 => some (.inl ((AE (AE x2 x3 x6) (Az (p1 + x5)) x7), Az (x3 + 1), (B4 x4).2)) else some (.inr x2))
noncomputable def Bx (p0 : List (Int × Int × Int × Int)) (p1 : Int) (p2 : Int) : Option (List (Int × Int × Int × Int)) := (if 8 ≤ (Az (p2 - p1)) then (C7 (Az (p2 - p1))).bind fun x1 => AH (BJ p1 p2 x1) (p0, Az ((Az (p1 + (Az ((Az (Int.tdiv (Az (p2 - p1)) 4)) * 2)))) - 1), IntKind.u64.wrap (Az (p2 - p1))) else some p0)
theorem Fi (Y : Nat → Prop) (X : List Nat) (w0 : World) (v1 : Value) (p0 : List (Int × Int × Int × Int)) (p1 : Int) (p2 : Int) (r : (List (Int × Int × Int × Int))) (H : Bx p0 p1 p2 = some r) (hL : Stw ⟨Y, X, w0⟩ [] [row v1 70 A4 p0] w0) :
    Calls Try.prog 58 #[v1, .int .i64 p1, .int .i64 p2, .func (.func 26) #[] #[]] w0 fun e w' => ∃ x : Unit, e = .returned (.tuple #[]) ∧ Stw ⟨Y, X, w0⟩ [] [row v1 70 A4 r] w' := by
 refine enter Try.func58 Aa Try.ntmps58 Aa fun a F => ?_
 have W := hL
 unfold Bx at H
 refine Ah (Ac ?_)
 iterate 2 refine ls F W Aa (Ad F Aa).q fun a w F W => ?_
 refine ls F W Aa (B9 F Aa Aa Aa).q fun a w F W => ?_
 refine ls F W Aa (Af F Aa).q fun a w F W => ?_
 refine Ae (Ab (Ah (Ac ?_)))
 refine ls F W Aa (Ad F Aa).q fun a w F W => ?_
 refine ls F W Aa (Ds F Aa Aa).q fun a w F W => ?_
 refine Ae (Ab ?_)
 refine Ay F Aa (fun hb => ?_) fun hb => ?_
 ·
  have H := AP (Bm hb) H
  rw [hb] at F
  clear hb
  refine Ah (Ac ?_)
  refine ls F W Aa (Ad F Aa).q fun a w F W => ?_
  refine ls F W Aa (IZ OI S4 F Aa).q fun a w F W => ?_
  refine CB (cs := [.int .u64 0]) F W Aa Uu Aa fun b1 a w F W => ?_
  refine BW (vs := [.int .u64 (IntKind.u64.wrap (Az (p2 - p1)))]) (M' := [(b1, [.int .u64 (IntKind.u64.wrap (Az (p2 - p1)))])]) 0 F W Aa Aa Aa Mp Aa Aa Aa Aa Aa fun w W => ?_
  refine Ae (Ab (Ah (Ac ?_)))
  refine ls F W Aa (Ad F Aa).q fun a w F W => ?_
  obtain ⟨x1, h1, H⟩ := Ak H
  refine ls F W Aa (BR (v := Value.int .u64 x1) F Wl Aa (fun w W => IP any w (Az (p2 - p1)) _ h1)) fun a w F W => ?_
  refine ls F W Aa (Af F Aa).q fun a w F W => ?_
  refine Ae (Ab (Ah (Ac ?_)))
  iterate 2 refine ls F W Aa (Ad F Aa).q fun a w F W => ?_
  refine ls F W Aa (JS F Aa Aa (by decide) Aa).q fun a w F W => ?_
  refine ls F W Aa (Jr F Aa Aa Aa).q fun a w F W => ?_
  refine ls F W Aa (Bp F Aa Aa Aa).q fun a w F W => ?_
  refine ls F W Aa (B9 F Aa Aa Aa).q fun a w F W => ?_
  refine ls F W Aa (Af F Aa).q fun a w F W => ?_
  refine Ae (Ab (As ?_))
  refine Bh H (fun s a w => Fr 67 [] [(0, v1), (1, .int .i64 p1), (8, .int .i64 (Az (p2 - p1))), (9, .pointer (some ⟨b1, 0, none⟩)), (10, .int .u64 x1), (11, .int .i64 s.2.1)] a ∧ Stw ⟨Y, X, w0⟩ [(b1, [.int .u64 s.2.2])] [row v1 70 A4 s.1] w) ⟨F.re ⟨rfl, Aa, Aa, Aa, Aa, Aa, trivial⟩, W⟩ fun s o a w H L1 hR => ?_
  obtain ⟨x2, x3, x4⟩ := s
  obtain ⟨F, W⟩ := hR
  have F : Fr 67 [] [(0, v1), (1, .int .i64 p1), (8, .int .i64 (Az (p2 - p1))), (9, .pointer (some ⟨b1, 0, none⟩)), (10, .int .u64 x1), (11, .int .i64 x3)] a := F
  have W : Stw ⟨Y, X, w0⟩ [(b1, [.int .u64 x4])] [row v1 70 A4 x2] w := W
  rw [BJ] at H
  refine Ah (Ah (Ac ?_))
  iterate 3 refine ls F W Aa (Ad F Aa).q fun a w F W => ?_
  refine ls F W Aa (JS F Aa Aa (by decide) Aa).q fun a w F W => ?_
  refine ls F W Aa (Jr F Aa Aa Aa).q fun a w F W => ?_
  iterate 2 refine ls F W Aa (Bp F Aa Aa Aa).q fun a w F W => ?_
  refine ls F W Aa (Im F Aa Aa).q fun a w F W => ?_
  refine Ae (Ab ?_)
  refine Ay F Aa (fun hb => ?_) fun hb => ?_
  ·
   have H := AP (Bm hb) H
   rw [hb] at F
   clear hb
   refine Aq (Ab (Ah (As (Ah (Ac ?_)))))
   refine Bo (Ml := [(b1, [.int .u64 x4])]) (Zl := []) (M := []) (Z := [row v1 70 A4 x2]) (β := Unit) (rv := fun x => .int .u64 ((B4 x4).1)) (MM := fun x => [(b1, [.int .u64 ((B4 x4).2)])]) (ZZ := fun x => []) F W U9 Aa Aa (fun hL => Ja _ _ w b1 x4 _ Aa hL) fun x a w F W => ?_
   have W : Stw ⟨Y, X, w0⟩ [(b1, [.int .u64 ((B4 x4).2)])] [row v1 70 A4 x2] w := W
   refine ls F W Aa (Ad F Aa).q fun a w F W => ?_
   refine ls F W Aa (B9 F Aa Aa Aa).q fun a w F W => ?_
   refine ls F W Aa (Tx F Aa Aa).q fun a w F W => ?_
   refine ls F W Aa (IZ RM OI F Aa).q fun a w F W => ?_
   refine ls F W Aa (Af F Aa).q fun a w F W => ?_
   refine Ae (Ab ?_)
   obtain ⟨o2, G2, K2⟩ := Ak H
   refine AK (fun a w => ∃ x5 : Int, some (x5) = some o2 ∧ Fr 67 [] [(0, v1), (1, .int .i64 p1), (8, .int .i64 (Az (p2 - p1))), (9, .pointer (some ⟨b1, 0, none⟩)), (10, .int .u64 x1), (11, .int .i64 x3), (12, .int .i64 x5)] a ∧ Stw ⟨Y, X, w0⟩ [(b1, [.int .u64 ((B4 x4).2)])] [row v1 70 A4 x2] w) ?_ ?_
   ·
    have H := G2
    clear G2 K2
    refine Ah (Ac ?_)
    iterate 2 refine ls F W Aa (Ad F Aa).q fun a w F W => ?_
    refine ls F W Aa (Ds F Aa Aa).q fun a w F W => ?_
    refine Ae (Ab ?_)
    refine Ay F Aa (fun hb => ?_) fun hb => ?_
    ·
     have H := AP (Bm hb) H
     rw [hb] at F
     clear hb
     refine Ac ?_
     iterate 2 refine ls F W Aa (Ad F Aa).q fun a w F W => ?_
     refine ls F W Aa (B9 F Aa Aa Aa).q fun a w F W => ?_
     refine ls F W Aa (Af F Aa).q fun a w F W => ?_
     refine Ae (Ab ?_)
     exact ⟨_, H, F.re ⟨rfl, Aa, Aa, Aa, Aa, Aa, Aa, trivial⟩, W⟩
    have H := AO (Bn hb) H
    rw [hb] at F
    clear hb
    refine Aq (Ab ?_)
    exact ⟨_, H, F.re ⟨rfl, Aa, Aa, Aa, Aa, Aa, Aa, trivial⟩, W⟩
   rintro a w ⟨x5, hj, F, W⟩
   have hj := AQ hj
   subst hj
   have H := K2
   clear G2 K2
   refine El [(true, 0), (true, 1), (true, 2), (true, 3), (true, 4), (true, 5), (true, 6), (true, 7), (true, 8), (true, 9), (true, 10), (true, 11), (true, 12), (true, 13), (true, 14), (true, 15), (true, 16), (false, 17), (true, 18), (false, 19)] (CN ⟨Y, X, w0⟩ [] [(some 17, row v1 70 A4 x2)]) (fun ch a d v w h => by cases d <;> exact h) MO (by kernel_rfl) W (fun w W => ⟨_, _, W, Aw, (all_cons (fun _ => (.head _)) Aw)⟩) fun w W => ?_
   iterate 5 refine Bd (R := []) F Aa Aa (yC fun M Z hN hZ => Ad F Aa) Aa Aa fun a F => ?_
   refine Bd (R := []) F Aa Aa (yC fun M Z hN hZ => Bp F Aa Aa Aa) Aa Aa fun a F => ?_
   iterate 3 refine Bd (R := []) F Aa Aa (yC fun M Z hN hZ => Ad F Aa) Aa Aa fun a F => ?_
   refine Bd (R := []) F Aa Aa (yC fun M Z hN hZ => Bp F Aa Aa Aa) Aa Aa fun a F => ?_
   obtain ⟨x6, h2, H⟩ := Ak H
   refine Bd (R := []) F Aa Aa (yC fun M Z hN hZ => Bi (r := A4) En F Aa Aa (CC W (Aj 0 Aa)) h2) Aa Aa fun a F => ?_
   refine Bd (R := [17]) F Aa Aa (yC fun M Z hN hZ => Ao (y := Value.agg #[.int .i64 x6.1, .int .i64 x6.2.1, .int .i64 x6.2.2.1, .int .i64 x6.2.2.2]) (j := 0) (i := Az (p1 + x5)) F Aa Aa (Ck (hZ ((some 17), row v1 70 A4 x2) (.head _) Aa)) h2 Ep.to Ee Aa) (by kernel_rfl) Aa fun a F => ?_
   iterate 2 refine Bd (R := []) F Aa Aa (yC fun M Z hN hZ => Ad F Aa) Aa Aa fun a F => ?_
   obtain ⟨x7, h3, H⟩ := Ak H
   refine Bd (R := []) F Aa Aa (yC fun M Z hN hZ => Bi (r := A4) En F Aa Aa (CC W (Aj 0 Aa)) h3) Aa Aa fun a F => ?_
   refine Bd (R := [17]) F Aa Aa (yC fun M Z hN hZ => Ao (y := Value.agg #[.int .i64 x7.1, .int .i64 x7.2.1, .int .i64 x7.2.2.1, .int .i64 x7.2.2.2]) (j := 0) (i := x3) F Aa Aa (Ck (hZ ((some 17), row v1 70 A4 x2) (.head _) Aa)) h3 Ep.to Ee Aa) (by kernel_rfl) Aa fun a F => ?_
   obtain ⟨x8, h4, H⟩ := Ak H
   refine Bd (R := []) F Aa Aa (yC fun M Z hN hZ => Bi (r := A4) En F Aa Aa (CC W (Aj 0 Aa)) h4) Aa Aa fun a F => ?_
   refine Fh Aa ?_
   refine A8 (i := x3) (j := 0) (vs := [.int .i64 x6.1, .int .i64 x6.2.1, .int .i64 x6.2.2.1, .int .i64 x6.2.2.2]) (x' := x6) F W Aa Aa Aa (k := 0) Aa Aa h4 Ee Aa Aa Aa Aa (fun A cs _ => Ep.sto (by rfl) _ _ _) fun w W => ?_
   refine Cr (N2 := []) (NZ2 := []) (N3 := []) (NZ3 := [(some 17, row v1 70 A4 x2)]) W Aa Aa Aw (all_cons (fun h => Be (by kernel_rfl) h) Aw) ?_
   obtain ⟨x9, h5, H⟩ := Ak H
   refine Bd (R := []) F Aa Aa (yC fun M Z hN hZ => Bi (r := A4) En F Aa Aa (CC W (Aj 0 Aa)) h5) Aa Aa fun a F => ?_
   refine Fh Aa ?_
   refine A8 (i := Az (p1 + x5)) (j := 0) (vs := [.int .i64 x7.1, .int .i64 x7.2.1, .int .i64 x7.2.2.1, .int .i64 x7.2.2.2]) (x' := x7) F W Aa Aa Aa (k := 0) Aa Aa h5 Ee Aa Aa Aa Aa (fun A cs _ => Ep.sto (by rfl) _ _ _) fun w W => ?_
   refine Cr (N2 := []) (NZ2 := []) (N3 := []) (NZ3 := [(some 17, row v1 70 A4 x2)]) W Aa Aa Aw (all_cons (fun h => Be (by kernel_rfl) h) Aw) ?_
   refine FC (AM (Ab (Ac ?_)))
   refine ls F W Aa (Ad F Aa).q fun a w F W => ?_
   refine ls F W Aa (Bp F Aa Aa Aa).q fun a w F W => ?_
   refine ls F W Aa (Af F Aa).q fun a w F W => ?_
   refine Ae (Ab ?_)
   exact ⟨_, H, F.re ⟨rfl, Aa, Aa, Aa, Aa, Aa, trivial⟩, W⟩
  have H := AO (Bn hb) H
  rw [hb] at F
  clear hb
  refine A5 ?_
  iterate 2 refine Bk ?_
  refine A6 ?_
  have H := L1 _ H
  have H := AQ H
  subst H
  refine He (.inr Aa) F Aa ?_
  have W := W.sub (M' := []) (Z' := [row v1 70 A4 x2]) (List.nil_sublist _) (List.Sublist.refl _)
  exact ⟨(), Aa, W⟩
 have H := AO (Bn hb) H
 rw [hb] at F
 clear hb
 refine Aq ?_
 have H := AQ H
 subst H
 refine He (.inr Aa) F Aa ?_
 exact ⟨(), Aa, W⟩
theorem VO : Has Try.prog 58 := ⟨fun args w => Al Try.func58 rfl (by decide) args w⟩
noncomputable def Au (fRec : (List (Int × Int × Int × Int)) → Int → Int → Int → Option (List (Int × Int × Int × Int))) : ((List (Int × Int × Int × Int)) × Int × Int × Int × Bool × Bool) → Option (((List (Int × Int × Int × Int)) × Int × Int × Int × Bool × Bool) ⊕ (List (Int × Int × Int × Int)))
  | (x1, x2, x3, x4, x5, x6) => (if (Az (x3 - x2)) ≤ 12 then (Bv x1 x2 x3).bind fun x7 => some (.inr x7) else (if x4 = 0 then (Ce x1 x2 x3).bind fun x8 => some (.inr x8) else (if (!x5) = true then (Bx x1 x2 x3).bind fun x11 => some (x11, Az (x4 - 1)) else some (x1, x4)).bind fun (x9, x10) => (B0 x9 x2 x3).bind fun x12 => (if x12.2 = 2 then (BF x9 x2 x3).bind fun x16 => some (x16, Az ((Az (x3 - 1)) - (Az (x12.1 - x2))), 1) else some (x9, x12.1, x12.2)).bind fun (x13, x14, x15) => FO (if (x5 && (x6 && decide (x15 = 1))) = true then (Bc x13 x2 x3).bind fun x18 => (if x18.1 = true then some (.inr (.inr x18.2)) else some (.inl x18.2)) else some (.inl x13)) fun x17 => (if 0 < x2 then (ix x17 (Az (x2 - 1))).bind fun x20 => (ix x17 x14).bind fun x21 => (B8 x20 x21).bind fun x22 => some (!(decide (x22 < 0))) else some false).bind fun x19 => (if x19 = true then (BP x17 x2 x3 x14).bind fun x23 => some (.inl (x23.2, x23.1, x3, x10, (x5 && (x6 || true)), (bif x5 then x6 else x6))) else (Cc x17 x2 x3 x14).bind fun x24 => (if (Az (x24.1 - x2)) < (Az (x3 - x24.1)) then (fRec x24.2.2 x2 x24.1 x10).bind fun x25 => some (.inl (x25, Az (x24.1 + 1), x3, x10, decide ((Az (Int.tdiv (Az (x3 - x2)) 8)) ≤ (Az (x24.1 - x2))), x24.2.1)) else (fRec x24.2.2 (Az (x24.1 + 1)) x3 x10).bind fun x26 => some (.inl (x26, x2, x24.1, x10, decide ((Az (Int.tdiv (Az (x3 - x2)) 8)) ≤ (Az (x3 - x24.1))), x24.2.1))))))
noncomputable def Bu (fRec : (List (Int × Int × Int × Int)) → Int → Int → Int → Option (List (Int × Int × Int × Int))) (p0 : List (Int × Int × Int × Int)) (p1 : Int) (p2 : Int) (p3 : Int) : Option (List (Int × Int × Int × Int)) := AH (Au fRec) (p0, p1, p2, p3, true, true)
noncomputable def AG : Nat → (List (Int × Int × Int × Int)) → Int → Int → Int → Option (List (Int × Int × Int × Int))
  | 0 => fun _ _ _ _ => none
  | n + 1 => Bu (AG n)
noncomputable def Cw (p0 : List (Int × Int × Int × Int)) (p1 : Int) (p2 : Int) (p3 : Int) : Option (List (Int × Int × Int × Int)) := OY fun n => AG n p0 p1 p2 p3
theorem FW (fRec : (List (Int × Int × Int × Int)) → Int → Int → Int → Option (List (Int × Int × Int × Int))) (ih : ∀ (Y : Nat → Prop) (X : List Nat) (w0 : World) (v1 : Value) (p0 : List (Int × Int × Int × Int)) (p1 : Int) (p2 : Int) (p3 : Int) (r : (List (Int × Int × Int × Int))) (H : fRec p0 p1 p2 p3 = some r) (hL : Stw ⟨Y, X, w0⟩ [] [row v1 70 A4 p0] w0), Calls Try.prog 39 #[v1, .int .i64 p1, .int .i64 p2, .int .i64 p3, .func (.func 26) #[] #[]] w0 fun e w' => ∃ x : Unit, e = .returned (.tuple #[]) ∧ Stw ⟨Y, X, w0⟩ [] [row v1 70 A4 r] w') (Y : Nat → Prop) (X : List Nat) (w0 : World) (v1 : Value) (p0 : List (Int × Int × Int × Int)) (p1 : Int) (p2 : Int) (p3 : Int) (r : (List (Int × Int × Int × Int))) (H : Bu fRec p0 p1 p2 p3 = some r) (hL : Stw ⟨Y, X, w0⟩ [] [row v1 70 A4 p0] w0) :
    Calls Try.prog 39 #[v1, .int .i64 p1, .int .i64 p2, .int .i64 p3, .func (.func 26) #[] #[]] w0 fun e w' => ∃ x : Unit, e = .returned (.tuple #[]) ∧ Stw ⟨Y, X, w0⟩ [] [row v1 70 A4 r] w' := by
 refine enter Try.func39 Aa Try.ntmps39 Aa fun a F => ?_
 have W := hL
 unfold Bu at H
 refine Ah (Ac ?_)
 refine ls F W Aa (Af F Aa).q fun a w F W => ?_
 refine Ae (Ab (Ah (Ac ?_)))
 refine ls F W Aa (Af F Aa).q fun a w F W => ?_
 refine Ae (Ab (As ?_))
 refine Bh H (fun s a w => Fr 148 [] [(0, v1), (1, .int .i64 s.2.1), (2, .int .i64 s.2.2.1), (3, .int .i64 s.2.2.2.1), (4, .func (.func 26) #[] #[]), (10, .bool s.2.2.2.2.1), (11, .bool s.2.2.2.2.2)] a ∧ Stw ⟨Y, X, w0⟩ [] [row v1 70 A4 s.1] w) ⟨F.re ⟨rfl, Aa, Aa, Aa, Aa, Aa, Aa, trivial⟩, W⟩ fun s o a w H L1 hR => ?_
 obtain ⟨x1, x2, x3, x4, x5, x6⟩ := s
 obtain ⟨F, W⟩ := hR
 have F : Fr 148 [] [(0, v1), (1, .int .i64 x2), (2, .int .i64 x3), (3, .int .i64 x4), (4, .func (.func 26) #[] #[]), (10, .bool x5), (11, .bool x6)] a := F
 have W : Stw ⟨Y, X, w0⟩ [] [row v1 70 A4 x1] w := W
 rw [Au] at H
 refine As (Ah (Ac ?_))
 iterate 2 refine ls F W Aa (Ad F Aa).q fun a w F W => ?_
 refine ls F W Aa (B9 F Aa Aa Aa).q fun a w F W => ?_
 refine ls F W Aa (Af F Aa).q fun a w F W => ?_
 refine Ae (Ab (Ah (Ah (Ac ?_))))
 refine ls F W Aa (Ad F Aa).q fun a w F W => ?_
 refine ls F W Aa (Im F Aa Aa).q fun a w F W => ?_
 refine Ae (Ab ?_)
 refine Ay F Aa (fun hb => ?_) fun hb => ?_
 ·
  have H := AP (Bm hb) H
  rw [hb] at F
  clear hb
  refine Ah (Ac ?_)
  iterate 4 refine ls F W Aa (Ad F Aa).q fun a w F W => ?_
  obtain ⟨x7, h1, H⟩ := Ak H
  refine Bo (Ml := []) (Zl := [row v1 70 A4 x1]) (M := []) (Z := []) (β := Unit) (rv := fun x => .tuple #[]) (MM := fun x => []) (ZZ := fun x => [row v1 70 A4 x7]) F W VJ Aa Aa (fun hL => Fk _ _ w (v1) x1 x2 x3 _ h1 hL) fun x a w F W => ?_
  have W : Stw ⟨Y, X, w0⟩ [] [row v1 70 A4 x7] w := W
  refine Ae (Ab (AF (AN (A3 (AN (A3 ?_))))))
  have H := L1 _ H
  have H := AQ H
  subst H
  refine He (.inl Aa) F Aa ?_
  exact ⟨(), Aa, W⟩
 have H := AO (Bn hb) H
 rw [hb] at F
 clear hb
 refine Aq (Ab (Ah (Ah (Ac ?_))))
 refine ls F W Aa (Ad F Aa).q fun a w F W => ?_
 refine ls F W Aa (Dl F Aa Aa).q fun a w F W => ?_
 refine Ae (Ab ?_)
 refine Ay F Aa (fun hb => ?_) fun hb => ?_
 ·
  have H := AP (Bm hb) H
  rw [hb] at F
  clear hb
  refine Ah (Ac ?_)
  iterate 4 refine ls F W Aa (Ad F Aa).q fun a w F W => ?_
  obtain ⟨x8, h2, H⟩ := Ak H
  refine Bo (Ml := []) (Zl := [row v1 70 A4 x1]) (M := []) (Z := []) (β := Unit) (rv := fun x => .tuple #[]) (MM := fun x => []) (ZZ := fun x => [row v1 70 A4 x8]) F W Wj Aa Aa (fun hL => F2 _ _ w (v1) x1 x2 x3 _ h2 hL) fun x a w F W => ?_
  have W : Stw ⟨Y, X, w0⟩ [] [row v1 70 A4 x8] w := W
  refine Ae (Ab (AF (AN (A3 (AN (A3 ?_))))))
  have H := L1 _ H
  have H := AQ H
  subst H
  refine He (.inl Aa) F Aa ?_
  exact ⟨(), Aa, W⟩
 have H := AO (Bn hb) H
 rw [hb] at F
 clear hb
 refine Aq (Ab ?_)
 obtain ⟨o2, G2, K2⟩ := Ak H
 refine AK (fun a w => ∃ x9 : List (Int × Int × Int × Int), ∃ x10 : Int, some ((x9, x10)) = some o2 ∧ Fr 148 [] [(0, v1), (1, .int .i64 x2), (2, .int .i64 x3), (3, .int .i64 x10), (4, .func (.func 26) #[] #[]), (10, .bool x5), (11, .bool x6), (12, .int .i64 (Az (x3 - x2)))] a ∧ Stw ⟨Y, X, w0⟩ [] [row v1 70 A4 x9] w) ?_ ?_
 ·
  have H := G2
  clear G2 K2
  refine Ah (Ac ?_)
  refine ls F W Aa (Ad F Aa).q fun a w F W => ?_
  refine ls F W Aa (ED F Aa).q fun a w F W => ?_
  refine Ae (Ab ?_)
  refine Ay F Aa (fun hb => ?_) fun hb => ?_
  ·
   have H := AP hb H
   rw [hb] at F
   clear hb
   refine Ah (Ac ?_)
   iterate 4 refine ls F W Aa (Ad F Aa).q fun a w F W => ?_
   obtain ⟨x11, h3, H⟩ := Ak H
   refine Bo (Ml := []) (Zl := [row v1 70 A4 x1]) (M := []) (Z := []) (β := Unit) (rv := fun x => .tuple #[]) (MM := fun x => []) (ZZ := fun x => [row v1 70 A4 x11]) F W VO Aa Aa (fun hL => Fi _ _ w (v1) x1 x2 x3 _ h3 hL) fun x a w F W => ?_
   have W : Stw ⟨Y, X, w0⟩ [] [row v1 70 A4 x11] w := W
   refine Ae (Ab (Ac ?_))
   refine ls F W Aa (Ad F Aa).q fun a w F W => ?_
   refine ls F W Aa (B9 F Aa Aa Aa).q fun a w F W => ?_
   refine ls F W Aa (Af F Aa).q fun a w F W => ?_
   refine Ae (Ab ?_)
   exact ⟨_, _, H, F.re ⟨rfl, Aa, Aa, Aa, Aa, Aa, Aa, Aa, trivial⟩, W⟩
  have H := AO (by rw [hb]; decide) H
  rw [hb] at F
  clear hb
  refine Aq (Ab ?_)
  exact ⟨_, _, H, F.re ⟨rfl, Aa, Aa, Aa, Aa, Aa, Aa, Aa, trivial⟩, W⟩
 rintro a w ⟨x9, x10, hj, F, W⟩
 have hj := AQ hj
 subst hj
 have H := K2
 clear G2 K2
 refine Ah (Ac ?_)
 iterate 4 refine ls F W Aa (Ad F Aa).q fun a w F W => ?_
 obtain ⟨x12, h4, H⟩ := Ak H
 refine ls F W Aa (BR (v := Value.tuple #[.int .i64 x12.1, .int .i64 x12.2]) F Vq Aa (fun w W => Fv any w (v1) x9 x2 x3 _ h4 (((Aj 0 Aa) : EM _ _ _ _ _ _) w W).nx)) fun a w F W => ?_
 refine ls F W Aa (Ad F Aa).q fun a w F W => ?_
 refine ls F W Aa (BK (v := Value.int .i64 x12.1) F Aa Aa).q fun a w F W => ?_
 refine ls F W Aa (BK (v := Value.int .i64 x12.2) F Aa Aa).q fun a w F W => ?_
 iterate 2 refine ls F W Aa (Af F Aa).q fun a w F W => ?_
 refine Ae (Ab ?_)
 obtain ⟨o3, G3, K3⟩ := Ak H
 refine AK (fun a w => ∃ x13 : List (Int × Int × Int × Int), ∃ x14 : Int, ∃ x15 : Int, some ((x13, x14, x15)) = some o3 ∧ Fr 148 [] [(0, v1), (1, .int .i64 x2), (2, .int .i64 x3), (3, .int .i64 x10), (4, .func (.func 26) #[] #[]), (10, .bool x5), (11, .bool x6), (12, .int .i64 (Az (x3 - x2))), (13, .int .i64 x14), (14, .int .i64 x15)] a ∧ Stw ⟨Y, X, w0⟩ [] [row v1 70 A4 x13] w) ?_ ?_
 ·
  have H := G3
  clear G3 K3
  refine Ah (Ac ?_)
  refine ls F W Aa (Ad F Aa).q fun a w F W => ?_
  refine ls F W Aa (Dl F Aa Aa).q fun a w F W => ?_
  refine Ae (Ab ?_)
  refine Ay F Aa (fun hb => ?_) fun hb => ?_
  ·
   have H := AP (Bm hb) H
   rw [hb] at F
   clear hb
   refine Ah (Ac ?_)
   iterate 4 refine ls F W Aa (Ad F Aa).q fun a w F W => ?_
   obtain ⟨x16, h5, H⟩ := Ak H
   refine Bo (Ml := []) (Zl := [row v1 70 A4 x9]) (M := []) (Z := []) (β := Unit) (rv := fun x => .tuple #[]) (MM := fun x => []) (ZZ := fun x => [row v1 70 A4 x16]) F W Wq Aa Aa (fun hL => Fq _ _ w (v1) x9 x2 x3 _ h5 hL) fun x a w F W => ?_
   have W : Stw ⟨Y, X, w0⟩ [] [row v1 70 A4 x16] w := W
   refine Ae (Ab (Ah (Ac ?_)))
   refine ls F W Aa (Ad F Aa).q fun a w F W => ?_
   refine ls F W Aa (B9 F Aa Aa Aa).q fun a w F W => ?_
   iterate 2 refine ls F W Aa (Ad F Aa).q fun a w F W => ?_
   iterate 2 refine ls F W Aa (B9 F Aa Aa Aa).q fun a w F W => ?_
   refine ls F W Aa (Af F Aa).q fun a w F W => ?_
   refine Ae (Ab (Ac ?_))
   refine ls F W Aa (Af F Aa).q fun a w F W => ?_
   refine Ae (Ab ?_)
   exact ⟨_, _, _, H, F.re ⟨rfl, Aa, Aa, Aa, Aa, Aa, Aa, Aa, Aa, Aa, trivial⟩, W⟩
  have H := AO (Bn hb) H
  rw [hb] at F
  clear hb
  refine Aq (Ab ?_)
  exact ⟨_, _, _, H, F.re ⟨rfl, Aa, Aa, Aa, Aa, Aa, Aa, Aa, Aa, Aa, trivial⟩, W⟩
 rintro a w ⟨x13, x14, x15, hj, F, W⟩
 have hj := AQ hj
 subst hj
 have H := K3
 clear G3 K3
 obtain ⟨o4, G4, K4, L4⟩ := JX H
 refine AK (fun a w => ∃ x17 : List (Int × Int × Int × Int), some (Sum.inl x17) = some o4 ∧ Fr 148 [] [(0, v1), (1, .int .i64 x2), (2, .int .i64 x3), (3, .int .i64 x10), (4, .func (.func 26) #[] #[]), (10, .bool (x5 && (x6 || true))), (11, .bool (bif x5 then x6 else x6)), (12, .int .i64 (Az (x3 - x2))), (13, .int .i64 x14)] a ∧ Stw ⟨Y, X, w0⟩ [] [row v1 70 A4 x17] w) ?_ ?_
 ·
  have H := G4
  clear G4 K4
  refine AK (fun a w => Fr 148 [] [(0, v1), (1, .int .i64 x2), (2, .int .i64 x3), (3, .int .i64 x10), (4, .func (.func 26) #[] #[]), (10, .bool (x5 && (x6 || true))), (11, .bool (bif x5 then x6 else x6)), (12, .int .i64 (Az (x3 - x2))), (13, .int .i64 x14), (75, .bool (x5 && (x6 && decide (x15 = 1))))] a ∧ Stw ⟨Y, X, w0⟩ [] [row v1 70 A4 x13] w) ?_ ?_
  ·
   refine Ac ?_
   iterate 2 refine ls F W Aa (Ad F Aa).q fun a w F W => ?_
   rcases Bool.eq_false_or_eq_true x5 with hb0 | hb0
   ·
    rw [hb0] at F
    refine AR F W (Ag F Aa Aa Aa Aa) Aa (An Aa) (Ad F Aa).q fun a w F W => ?_
    refine ls F W Aa (Av F Aa Aa Aa).q fun a w F W => ?_
    refine ls F W Aa (Ad F Aa).q fun a w F W => ?_
    rcases Bool.eq_false_or_eq_true x6 with hb1 | hb1
    ·
     rw [hb1] at F
     refine AR F W (Ag F Aa Aa Aa Aa) Aa (An Aa) (Ad F Aa).q fun a w F W => ?_
     refine AR F W (Ag F Aa Aa Aa Aa) Aa (An Aa) (Dl F Aa Aa).q fun a w F W => ?_
     refine ls F W Aa (Av F Aa Aa Aa).q fun a w F W => ?_
     refine Ae (Ab ?_)
     exact ⟨F.re ⟨rfl, Aa, Aa, Aa, Aa, (by show some (Value.bool true) = some (Value.bool (x5 && (x6 || true))); try rw [hb0]; try rw [hb1]; all_goals simp only [Bool.not_true, Bool.not_false, Bool.true_and, Bool.false_and, Bool.true_or, Bool.false_or, Bool.and_true, Bool.or_false, cond_true, cond_false]), (by show some (Value.bool true) = some (Value.bool (bif x5 then x6 else x6)); try rw [hb0]; try rw [hb1]; all_goals simp only [Bool.not_true, Bool.not_false, Bool.true_and, Bool.false_and, Bool.true_or, Bool.false_or, Bool.and_true, Bool.or_false, cond_true, cond_false]), Aa, Aa, (by show some (Value.bool (decide (x15 = 1))) = some (Value.bool (x5 && (x6 && decide (x15 = 1)))); try rw [hb0]; try rw [hb1]; all_goals simp only [Bool.not_true, Bool.not_false, Bool.true_and, Bool.false_and, Bool.true_or, Bool.false_or, Bool.and_true, Bool.or_false, cond_true, cond_false]), trivial⟩, W⟩
    rw [hb1] at F
    iterate 2 refine C1 F Aa Aa Aa Aa Aa Aa Aa fun a F => ?_
    refine ls F W Aa (Ax F Aa Aa Aa).q fun a w F W => ?_
    refine Ae (Ab ?_)
    exact ⟨F.re ⟨rfl, Aa, Aa, Aa, Aa, (by show some (Value.bool true) = some (Value.bool (x5 && (x6 || true))); try rw [hb0]; try rw [hb1]; all_goals simp only [Bool.not_true, Bool.not_false, Bool.true_and, Bool.false_and, Bool.true_or, Bool.false_or, Bool.and_true, Bool.or_false, cond_true, cond_false]), (by show some (Value.bool false) = some (Value.bool (bif x5 then x6 else x6)); try rw [hb0]; try rw [hb1]; all_goals simp only [Bool.not_true, Bool.not_false, Bool.true_and, Bool.false_and, Bool.true_or, Bool.false_or, Bool.and_true, Bool.or_false, cond_true, cond_false]), Aa, Aa, (by show some (Value.bool false) = some (Value.bool (x5 && (x6 && decide (x15 = 1)))); try rw [hb0]; try rw [hb1]; all_goals simp only [Bool.not_true, Bool.not_false, Bool.true_and, Bool.false_and, Bool.true_or, Bool.false_or, Bool.and_true, Bool.or_false, cond_true, cond_false]), trivial⟩, W⟩
   rw [hb0] at F
   refine C1 F Aa Aa Aa Aa Aa Aa Aa fun a F => ?_
   refine ls F W Aa (Ax F Aa Aa Aa).q fun a w F W => ?_
   refine ls F W Aa (Ad F Aa).q fun a w F W => ?_
   iterate 2 refine C1 F Aa Aa Aa Aa Aa Aa Aa fun a F => ?_
   refine ls F W Aa (Ax F Aa Aa Aa).q fun a w F W => ?_
   refine Ae (Ab ?_)
   exact ⟨F.re ⟨rfl, Aa, Aa, Aa, Aa, (by show some (Value.bool false) = some (Value.bool (x5 && (x6 || true))); try rw [hb0]; all_goals simp only [Bool.not_true, Bool.not_false, Bool.true_and, Bool.false_and, Bool.true_or, Bool.false_or, Bool.and_true, Bool.or_false, cond_true, cond_false]), (by show some (Value.bool x6) = some (Value.bool (bif x5 then x6 else x6)); try rw [hb0]; all_goals simp only [Bool.not_true, Bool.not_false, Bool.true_and, Bool.false_and, Bool.true_or, Bool.false_or, Bool.and_true, Bool.or_false, cond_true, cond_false]), Aa, Aa, (by show some (Value.bool false) = some (Value.bool (x5 && (x6 && decide (x15 = 1)))); try rw [hb0]; all_goals simp only [Bool.not_true, Bool.not_false, Bool.true_and, Bool.false_and, Bool.true_or, Bool.false_or, Bool.and_true, Bool.or_false, cond_true, cond_false]), trivial⟩, W⟩
  rintro a w ⟨F, W⟩
  refine Ay F Aa (fun hb => ?_) fun hb => ?_
  ·
   have H := AP hb H
   rw [hb] at F
   clear hb
   refine Ah (Ac ?_)
   iterate 4 refine ls F W Aa (Ad F Aa).q fun a w F W => ?_
   obtain ⟨x18, h6, H⟩ := Ak H
   refine Bo (Ml := []) (Zl := [row v1 70 A4 x13]) (M := []) (Z := []) (β := Unit) (rv := fun x => .bool x18.1) (MM := fun x => []) (ZZ := fun x => [row v1 70 A4 x18.2]) F W VB Aa Aa (fun hL => EB _ _ w (v1) x13 x2 x3 _ h6 hL) fun x a w F W => ?_
   have W : Stw ⟨Y, X, w0⟩ [] [row v1 70 A4 x18.2] w := W
   refine Ae (Ab ?_)
   refine Ay F Aa (fun hb => ?_) fun hb => ?_
   ·
    have H := AP hb H
    rw [hb] at F
    clear hb
    refine AF (AN (A3 (AN (A3 ?_))))
    have H := L4 _ H
    have H := L1 _ H
    have H := AQ H
    subst H
    refine He (.inl Aa) F Aa ?_
    exact ⟨(), Aa, W⟩
   have H := AO (by rw [hb]; decide) H
   rw [hb] at F
   clear hb
   refine Aq (Ab ?_)
   exact ⟨_, H, F.re ⟨rfl, Aa, Aa, Aa, Aa, Aa, Aa, Aa, Aa, trivial⟩, W⟩
  have H := AO (by rw [hb]; decide) H
  rw [hb] at F
  clear hb
  refine Aq (Ab ?_)
  exact ⟨_, H, F.re ⟨rfl, Aa, Aa, Aa, Aa, Aa, Aa, Aa, Aa, trivial⟩, W⟩
 rintro a w ⟨x17, hj, F, W⟩
 have H := K4 _ hj
 clear hj G4 K4 L4
 refine Ah ?_
 obtain ⟨o5, G5, K5⟩ := Ak H
 refine AK (fun a w => ∃ x19 : Bool, some (x19) = some o5 ∧ Fr 148 [] [(0, v1), (1, .int .i64 x2), (2, .int .i64 x3), (3, .int .i64 x10), (4, .func (.func 26) #[] #[]), (10, .bool (x5 && (x6 || true))), (11, .bool (bif x5 then x6 else x6)), (12, .int .i64 (Az (x3 - x2))), (13, .int .i64 x14), (97, .bool x19)] a ∧ Stw ⟨Y, X, w0⟩ [] [row v1 70 A4 x17] w) ?_ ?_
 ·
  have H := G5
  clear G5 K5
  refine BS W MO (by kernel_rfl) ?_
  refine qs F Aa (Ad F Aa).q fun a F => ?_
  refine qs F Aa (FZ F Aa Aa).q fun a F => ?_
  refine qs F Aa (Ad F Aa).q fun a F => ?_
  rcases Bool.eq_false_or_eq_true (decide (0 < x2)) with hb | hb
  ·
   have H := AP (Bm hb) H
   rw [hb] at F
   clear hb
   iterate 3 refine BM F (Ag F Aa Aa Aa Aa) Aa (An Aa) (Ad F Aa).q fun a F => ?_
   refine BM F (Ag F Aa Aa Aa Aa) Aa (An Aa) (B9 F Aa Aa Aa).q fun a F => ?_
   obtain ⟨x20, h7, H⟩ := Ak H
   refine BM F (Ag F Aa Aa Aa Aa) Aa (An Aa) (AC (r := A4) En F Aa Aa (Aj 0 Aa) h7).q fun a F => ?_
   refine BM F (Ag F Aa Aa Aa Aa) Aa (An Aa) (Ao (y := Value.agg #[.int .i64 x20.1, .int .i64 x20.2.1, .int .i64 x20.2.2.1, .int .i64 x20.2.2.2]) (j := 0) (i := Az (x2 - 1)) F Aa Aa (Aj 0 Aa) h7 Ep.to Ee Aa).q fun a F => ?_
   iterate 2 refine BM F (Ag F Aa Aa Aa Aa) Aa (An Aa) (Ad F Aa).q fun a F => ?_
   obtain ⟨x21, h8, H⟩ := Ak H
   refine BM F (Ag F Aa Aa Aa Aa) Aa (An Aa) (AC (r := A4) En F Aa Aa (Aj 0 Aa) h8).q fun a F => ?_
   refine BM F (Ag F Aa Aa Aa Aa) Aa (An Aa) (Ao (y := Value.agg #[.int .i64 x21.1, .int .i64 x21.2.1, .int .i64 x21.2.2.1, .int .i64 x21.2.2.2]) (j := 0) (i := x14) F Aa Aa (Aj 0 Aa) h8 Ep.to Ee Aa).q fun a F => ?_
   obtain ⟨x22, h9, H⟩ := Ak H
   refine BM F (Ag F Aa Aa Aa Aa) Aa (An Aa) (EO (ws := [.agg #[.int .i64 x20.1, .int .i64 x20.2.1, .int .i64 x20.2.2.1, .int .i64 x20.2.2.2], .agg #[.int .i64 x21.1, .int .i64 x21.2.1, .int .i64 x21.2.2.1, .int .i64 x21.2.2.2]]) (v := Value.int .i64 x22) F Px Aa (fun w W => Cn any w x20 x21 _ h9)) fun a F => ?_
   refine BM F (Ag F Aa Aa Aa Aa) Aa (An Aa) (BI F Aa Aa).q fun a F => ?_
   refine BM F (Ag F Aa Aa Aa Aa) Aa (An Aa) (ED F Aa).q fun a F => ?_
   refine qs F Aa (Av F Aa Aa Aa).q fun a F => ?_
   refine A0 fun w W => ?_
   refine Ab ?_
   exact ⟨_, H, F.re ⟨rfl, Aa, Aa, Aa, Aa, Aa, Aa, Aa, Aa, Aa, trivial⟩, W⟩
  have H := AO (Bn hb) H
  rw [hb] at F
  clear hb
  iterate 13 refine D7 F (CJ F Aa Aa Aa Aa Aa) Aa Aa fun a F => ?_
  refine qs F Aa (Ax F Aa Aa Aa).q fun a F => ?_
  refine A0 fun w W => ?_
  refine Ab ?_
  exact ⟨_, H, F.re ⟨rfl, Aa, Aa, Aa, Aa, Aa, Aa, Aa, Aa, Aa, trivial⟩, W⟩
 rintro a w ⟨x19, hj, F, W⟩
 have hj := AQ hj
 subst hj
 have H := K5
 clear G5 K5
 refine Ay F Aa (fun hb => ?_) fun hb => ?_
 ·
  have H := AP hb H
  rw [hb] at F
  clear hb
  refine Ah (Ac ?_)
  iterate 5 refine ls F W Aa (Ad F Aa).q fun a w F W => ?_
  obtain ⟨x23, h10, H⟩ := Ak H
  refine Bo (Ml := []) (Zl := [row v1 70 A4 x17]) (M := []) (Z := []) (β := Unit) (rv := fun x => .int .i64 x23.1) (MM := fun x => []) (ZZ := fun x => [row v1 70 A4 x23.2]) F W UW Aa Aa (fun hL => E7 _ _ w (v1) x17 x2 x3 x14 _ h10 hL) fun x a w F W => ?_
  have W : Stw ⟨Y, X, w0⟩ [] [row v1 70 A4 x23.2] w := W
  refine ls F W Aa (Af F Aa).q fun a w F W => ?_
  refine Ae (Ab (Ah (Ac ?_)))
  refine ls F W Aa (Ad F Aa).q fun a w F W => ?_
  refine ls F W Aa (Af F Aa).q fun a w F W => ?_
  refine Ae (Ab (A5 (Bk (A6 (Ab ?_)))))
  exact ⟨_, H, F.re ⟨rfl, Aa, Aa, Aa, Aa, Aa, Aa, trivial⟩, W⟩
 have H := AO (by rw [hb]; decide) H
 rw [hb] at F
 clear hb
 refine Aq (Ab (Ah (Ac ?_)))
 iterate 5 refine ls F W Aa (Ad F Aa).q fun a w F W => ?_
 obtain ⟨x24, h11, H⟩ := Ak H
 refine Bo (Ml := []) (Zl := [row v1 70 A4 x17]) (M := []) (Z := []) (β := Unit) (rv := fun x => .tuple #[.int .i64 x24.1, .bool x24.2.1]) (MM := fun x => []) (ZZ := fun x => [row v1 70 A4 x24.2.2]) F W VK Aa Aa (fun hL => FU _ _ w (v1) x17 x2 x3 x14 _ h11 hL) fun x a w F W => ?_
 have W : Stw ⟨Y, X, w0⟩ [] [row v1 70 A4 x24.2.2] w := W
 refine ls F W Aa (Ad F Aa).q fun a w F W => ?_
 refine ls F W Aa (BK (v := Value.int .i64 x24.1) F Aa Aa).q fun a w F W => ?_
 refine ls F W Aa (BK (v := Value.bool x24.2.1) F Aa Aa).q fun a w F W => ?_
 iterate 2 refine ls F W Aa (Af F Aa).q fun a w F W => ?_
 refine Ae (Ab (Ah (Ac ?_)))
 refine ls F W Aa (Ad F Aa).q fun a w F W => ?_
 refine ls F W Aa (Af F Aa).q fun a w F W => ?_
 refine Ae (Ab (Ah (Ac ?_)))
 iterate 2 refine ls F W Aa (Ad F Aa).q fun a w F W => ?_
 refine ls F W Aa (B9 F Aa Aa Aa).q fun a w F W => ?_
 iterate 2 refine ls F W Aa (Ad F Aa).q fun a w F W => ?_
 refine ls F W Aa (B9 F Aa Aa Aa).q fun a w F W => ?_
 iterate 2 refine ls F W Aa (Af F Aa).q fun a w F W => ?_
 refine Ae (Ab (Ah (Ac ?_)))
 refine ls F W Aa (Ad F Aa).q fun a w F W => ?_
 refine ls F W Aa (JS F Aa Aa (by decide) Aa).q fun a w F W => ?_
 refine ls F W Aa (Af F Aa).q fun a w F W => ?_
 refine Ae (Ab (Ah (Ac ?_)))
 iterate 2 refine ls F W Aa (Ad F Aa).q fun a w F W => ?_
 refine ls F W Aa (BI F Aa Aa).q fun a w F W => ?_
 refine Ae (Ab ?_)
 refine Ay F Aa (fun hb => ?_) fun hb => ?_
 ·
  have H := AP (Bm hb) H
  rw [hb] at F
  clear hb
  refine Ah (Ac ?_)
  iterate 2 refine ls F W Aa (Ad F Aa).q fun a w F W => ?_
  refine ls F W Aa (Ds F Aa Aa).q fun a w F W => ?_
  refine ls F W Aa (Af F Aa).q fun a w F W => ?_
  refine Ae (Ab (Ah (Ac ?_)))
  iterate 5 refine ls F W Aa (Ad F Aa).q fun a w F W => ?_
  obtain ⟨x25, h12, H⟩ := Ak H
  refine Bo (Ml := []) (Zl := [row v1 70 A4 x24.2.2]) (M := []) (Z := []) (β := Unit) (rv := fun x => .tuple #[]) (MM := fun x => []) (ZZ := fun x => [row v1 70 A4 x25]) F W TU Aa Aa (fun hL => ih _ _ w (v1) x24.2.2 x2 x24.1 x10 _ h12 hL) fun x a w F W => ?_
  have W : Stw ⟨Y, X, w0⟩ [] [row v1 70 A4 x25] w := W
  refine Ae (Ab (Ac ?_))
  refine ls F W Aa (Ad F Aa).q fun a w F W => ?_
  refine ls F W Aa (Bp F Aa Aa Aa).q fun a w F W => ?_
  refine ls F W Aa (Af F Aa).q fun a w F W => ?_
  refine Ae (AM (Ab ?_))
  exact ⟨_, H, F.re ⟨rfl, Aa, Aa, Aa, Aa, Aa, Aa, trivial⟩, W⟩
 have H := AO (Bn hb) H
 rw [hb] at F
 clear hb
 refine Ah (Ac ?_)
 iterate 2 refine ls F W Aa (Ad F Aa).q fun a w F W => ?_
 refine ls F W Aa (Ds F Aa Aa).q fun a w F W => ?_
 refine ls F W Aa (Af F Aa).q fun a w F W => ?_
 refine Ae (Ab (Ah (Ac ?_)))
 iterate 2 refine ls F W Aa (Ad F Aa).q fun a w F W => ?_
 refine ls F W Aa (Bp F Aa Aa Aa).q fun a w F W => ?_
 iterate 3 refine ls F W Aa (Ad F Aa).q fun a w F W => ?_
 obtain ⟨x26, h13, H⟩ := Ak H
 refine Bo (Ml := []) (Zl := [row v1 70 A4 x24.2.2]) (M := []) (Z := []) (β := Unit) (rv := fun x => .tuple #[]) (MM := fun x => []) (ZZ := fun x => [row v1 70 A4 x26]) F W TU Aa Aa (fun hL => ih _ _ w (v1) x24.2.2 (Az (x24.1 + 1)) x3 x10 _ h13 hL) fun x a w F W => ?_
 have W : Stw ⟨Y, X, w0⟩ [] [row v1 70 A4 x26] w := W
 refine Ae (Ab (Ac ?_))
 refine ls F W Aa (Ad F Aa).q fun a w F W => ?_
 refine ls F W Aa (Af F Aa).q fun a w F W => ?_
 refine Ae (AM (Ab ?_))
 exact ⟨_, H, F.re ⟨rfl, Aa, Aa, Aa, Aa, Aa, Aa, trivial⟩, W⟩
theorem F4 : ∀ (n : Nat) (Y : Nat → Prop) (X : List Nat) (w0 : World) (v1 : Value) (p0 : List (Int × Int × Int × Int)) (p1 : Int) (p2 : Int) (p3 : Int) (r : (List (Int × Int × Int × Int))) (H : AG n p0 p1 p2 p3 = some r) (hL : Stw ⟨Y, X, w0⟩ [] [row v1 70 A4 p0] w0), Calls Try.prog 39 #[v1, .int .i64 p1, .int .i64 p2, .int .i64 p3, .func (.func 26) #[] #[]] w0 fun e w' => ∃ x : Unit, e = .returned (.tuple #[]) ∧ Stw ⟨Y, X, w0⟩ [] [row v1 70 A4 r] w' := by
  intro n
  induction n with
  | zero => intro Y X w0 v1 p0 p1 p2 p3 r H; exact nomatch H
  | succ n ih => intro Y X w0 v1 p0 p1 p2 p3 r H hL; exact FW (AG n) ih Y X w0 v1 p0 p1 p2 p3 r H hL
theorem Gf (Y : Nat → Prop) (X : List Nat) (w0 : World) (v1 : Value) (p0 : List (Int × Int × Int × Int)) (p1 : Int) (p2 : Int) (p3 : Int) (r : (List (Int × Int × Int × Int))) (H : Cw p0 p1 p2 p3 = some r) (hL : Stw ⟨Y, X, w0⟩ [] [row v1 70 A4 p0] w0) :
    Calls Try.prog 39 #[v1, .int .i64 p1, .int .i64 p2, .int .i64 p3, .func (.func 26) #[] #[]] w0 fun e w' => ∃ x : Unit, e = .returned (.tuple #[]) ∧ Stw ⟨Y, X, w0⟩ [] [row v1 70 A4 r] w' := by
  obtain ⟨n, H⟩ := PX H
  exact F4 n Y X w0 v1 p0 p1 p2 p3 r H hL
noncomputable def BE (p0 : List (Int × Int × Int × Int)) : Option (List (Int × Int × Int × Int)) := (DI (IntKind.u64.wrap (p0.length : Int))).bind fun x1 => (Cw p0 0 (p0.length : Int) x1).bind fun x2 => some x2
theorem Fp (Y : Nat → Prop) (X : List Nat) (w0 : World) (v1 : Value) (p0 : List (Int × Int × Int × Int)) (r : (List (Int × Int × Int × Int))) (H : BE p0 = some r) (hL : Stw ⟨Y, X, w0⟩ [] [row v1 70 A4 p0] w0) :
    Calls Try.prog 25 #[v1, .func (.func 26) #[] #[]] w0 fun e w' => ∃ x : Unit, e = .returned (.tuple #[]) ∧ Stw ⟨Y, X, w0⟩ [] [row v1 70 A4 r] w' := by
 refine enter Try.func25 Aa Try.ntmps25 Aa fun a F => ?_
 have W := hL
 unfold BE at H
 refine Ah (Ac ?_)
 refine ls F W Aa (Ad F Aa).q fun a w F W => ?_
 refine ls F W Aa (B1 (r := A4) (l := p0) OD Aa F Aa (Aj 0 Aa)).q fun a w F W => ?_
 refine ls F W Aa (Af F Aa).q fun a w F W => ?_
 refine Ae (Ab (Ac ?_))
 iterate 3 refine ls F W Aa (Ad F Aa).q fun a w F W => ?_
 refine ls F W Aa (IZ OI RM F Aa).q fun a w F W => ?_
 obtain ⟨x1, h1, H⟩ := Ak H
 refine ls F W Aa (BR (v := Value.int .i64 x1) F Ux Aa (fun w W => Hs any w (IntKind.u64.wrap (p0.length : Int)) _ h1)) fun a w F W => ?_
 refine ls F W Aa (Ad F Aa).q fun a w F W => ?_
 obtain ⟨x2, h2, H⟩ := Ak H
 refine Bo (Ml := []) (Zl := [row v1 70 A4 p0]) (M := []) (Z := []) (β := Unit) (rv := fun x => .tuple #[]) (MM := fun x => []) (ZZ := fun x => [row v1 70 A4 x2]) F W TU Aa Aa (fun hL => Gf _ _ w (v1) p0 0 (p0.length : Int) x1 _ h2 hL) fun x a w F W => ?_
 have W : Stw ⟨Y, X, w0⟩ [] [row v1 70 A4 x2] w := W
 refine Ae ?_
 have H := AQ H
 subst H
 refine He (.inr Aa) F Aa ?_
 exact ⟨(), Aa, W⟩
theorem V5 : Has Try.prog 25 := ⟨fun args w => Al Try.func25 rfl (by decide) args w⟩
noncomputable def CW (p1 : List (List Int)) (p2 : List (List Int)) (x6 : Int) (x8 : List Int) : ((List (Int × Int × Int × Int)) × Int) → Option (((List (Int × Int × Int × Int)) × Int) ⊕ (List (Int × Int × Int × Int)))
  | (x9, x10) => (if x10 < (x8.length : Int) then ((ix x8 x10).bind fun x12 => (ix p2 x10).bind fun x13 => (ix x13 x6).bind fun x14 => (ix p1 x10).bind fun x15 => (ix x15 x6).bind fun x16 => (if x14 ≠ x16 then (KF x9 ([(x10, x6, x14, x12)] : List (Int × Int × Int × Int))).bind fun x17 => some x17 else some x9)).bind fun x11 => some (.inl (x11, Az (x10 + 1))) else some (.inr x9))
noncomputable def Dq (p0 : Int × (List (Int × Int × Int × Int × Int × Int)) × (List (Int × Int))) (p1 : List (List Int)) (p2 : List (List Int)) : ((List (Int × Int × Int × Int)) × Int) → Option (((List (Int × Int × Int × Int)) × Int) ⊕ (List (Int × Int × Int × Int)))
  | (x5, x6) => (if x6 < (p0.2.2.length : Int) then ((GZ p0 p2 x6).bind fun x8 => AH (CW p1 p2 x6 x8) (x5, 0)).bind fun x7 => some (.inl (x7, Az (x6 + 1))) else some (.inr x5))
noncomputable def Ea (p0 : Int × (List (Int × Int × Int × Int × Int × Int)) × (List (Int × Int))) (p1 : List (List Int)) (p2 : List (List Int)) : Option ((List (Int × Int × Int × Int)) × Int) := ((FE p0 p1).bind fun x2 => (if (!x2) = true then some true else (FE p0 p2).bind fun x3 => some (!x3))).bind fun x1 => (if x1 = true then some (([] : List (Int × Int × Int × Int)), 2) else (AH (Dq p0 p1 p2) ([], 0)).bind fun x4 => (BE x4).bind fun x18 => some (x18, 0))
theorem M4 (Y : Nat → Prop) (w0 : World) (v1 : Value) (v2 : Value) (v3 : Value) (v4 : Value) (p0 : Int × (List (Int × Int × Int × Int × Int × Int)) × (List (Int × Int))) (p1 : List (List Int)) (p2 : List (List Int)) (r : (List (Int × Int × Int × Int)) × Int) (H : Ea p0 p1 p2 = some r) (h_v1 : Sl w0 (NX []) Ii v1 p0.2.1) (h_v2 : Sl w0 (NX []) Ip v2 p0.2.2) (h_v3 : Sl w0 (NX []) (Rp.slice (Rp.int .i64)) v3 p1) (h_v4 : Sl w0 (NX []) (Rp.slice (Rp.int .i64)) v4 p2) :
    Calls Try.prog 14 #[.agg #[.int .i64 p0.1, v1, v2], v3, v4] w0 fun e w' => ∃ x : Value, e = .returned (.tuple #[x, .int .i64 r.2]) ∧ Stw ⟨Y, [], w0⟩ [] [row (x) 70 A4 r.1] w' := by
 refine enter Try.func14 Aa Try.ntmps14 Aa fun a F => ?_
 have W := Stw.start Y w0
 obtain ⟨v5, h1, h_v3⟩ := h_v3.ex Er
 obtain ⟨v6, h2, h_v4⟩ := h_v4.ex Er
 unfold Ea at H
 refine Ah (Ac ?_)
 refine EQ (cs := [.int .i64 p0.1, v1, v2]) F W Aa Aa Aa fun b1 a w F W => ?_
 iterate 2 refine ls F W Aa (Af F Aa).q fun a w F W => ?_
 refine Ae (Ab (Ah ?_))
 obtain ⟨o1, G1, K1⟩ := Ak H
 refine AK (fun a w => ∃ x1 : Bool, some (x1) = some o1 ∧ Fr 68 [] [(1, v3), (2, v4), (3, .pointer (some ⟨b1, 0, none⟩)), (6, .slice none 0 0), (7, .int .i64 0), (22, .bool x1)] a ∧ Stw ⟨Y, [], w0⟩ [(b1, [.int .i64 p0.1, v1, v2])] [] w) ?_ ?_
 ·
  have H := G1
  clear G1 K1
  refine Ac ?_
  refine ls F W Aa (AB (v := Value.agg #[.int .i64 p0.1, v1, v2]) 0 F Aa Aa Mk Aa).q fun a w F W => ?_
  refine ls F W Aa (Ad F Aa).q fun a w F W => ?_
  obtain ⟨x2, h3, H⟩ := Ak H
  refine ls F W Aa (BR (v := Value.bool x2) F UC Aa (fun w W => Kg any w (v1) (v2) (v3) p0 p1 _ h3 (((Ap h_v1) : EM _ _ _ _ _ _) w W).nx (((Ap h_v2) : EM _ _ _ _ _ _) w W).nx (((Cb Er h1 (Ap h_v3)) : EM _ _ _ _ _ _) w W).nx)) fun a w F W => ?_
  refine ls F W Aa (ED F Aa).q fun a w F W => ?_
  refine ls F W Aa (Ad F Aa).q fun a w F W => ?_
  rcases Bool.eq_false_or_eq_true (!x2) with hb | hb
  ·
   have H := AP hb H
   rw [hb] at F
   clear hb
   iterate 4 refine C1 F Aa Aa Aa Aa Aa Aa Aa fun a F => ?_
   refine ls F W Aa (Av F Aa Aa Aa).q fun a w F W => ?_
   refine Ae (Ab ?_)
   exact ⟨_, H, F.re ⟨rfl, Aa, Aa, Aa, Aa, Aa, trivial⟩, W⟩
  have H := AO (by rw [hb]; decide) H
  rw [hb] at F
  clear hb
  refine AR F W (Ag F Aa Aa Aa Aa) Aa (An Aa) (AB (v := Value.agg #[.int .i64 p0.1, v1, v2]) 0 F Aa Aa Mk Aa).q fun a w F W => ?_
  refine AR F W (Ag F Aa Aa Aa Aa) Aa (An Aa) (Ad F Aa).q fun a w F W => ?_
  refine IQ (Ag F Aa Aa Aa Aa) ?_
  obtain ⟨x3, h4, H⟩ := Ak H
  refine ls F W Aa (BR (v := Value.bool x3) F UC Aa (fun w W => Kg any w (v1) (v2) (v4) p0 p2 _ h4 (((Ap h_v1) : EM _ _ _ _ _ _) w W).nx (((Ap h_v2) : EM _ _ _ _ _ _) w W).nx (((Cb Er h2 (Ap h_v4)) : EM _ _ _ _ _ _) w W).nx)) fun a w F W => ?_
  refine AR F W (Ag F Aa Aa Aa Aa) Aa (An Aa) (ED F Aa).q fun a w F W => ?_
  refine ls F W Aa (Ax F Aa Aa Aa).q fun a w F W => ?_
  refine Ae (Ab ?_)
  exact ⟨_, H, F.re ⟨rfl, Aa, Aa, Aa, Aa, Aa, trivial⟩, W⟩
 rintro a w ⟨x1, hj, F, W⟩
 have hj := AQ hj
 subst hj
 have H := K1
 clear G1 K1
 refine Ay F Aa (fun hb => ?_) fun hb => ?_
 ·
  have H := AP hb H
  rw [hb] at F
  clear hb
  refine Ah (Ac ?_)
  iterate 2 refine ls F W Aa (Af F Aa).q fun a w F W => ?_
  refine Ae (Ab (AF (AN ?_)))
  have H := AQ H
  subst H
  refine EU (.inl Aa) F W Aa (AD F Aa) (AD F Aa) ?_
  have W := W.nilRow 70 A4
  have W := W.sub (M' := []) (Z' := [row (Value.slice none 0 0) 70 A4 ([])]) (List.nil_sublist _) (List.Sublist.refl _)
  exact ⟨(Value.slice none 0 0), Aa, W⟩
 have H := AO (by rw [hb]; decide) H
 rw [hb] at F
 clear hb
 refine Aq (Ab (Ah (Ac ?_)))
 refine ls F W Aa (Af F Aa).q fun a w F W => ?_
 refine Ae (Ab ?_)
 obtain ⟨o2, G2, K2⟩ := Ak H
 refine AK (fun a w => ∃ x4 : List (Int × Int × Int × Int), ∃ v7 : Value, some (x4) = some o2 ∧ Fr 68 [] [(6, .slice none 0 0), (7, .int .i64 0), (8, v7)] a ∧ Stw ⟨Y, [], w0⟩ [(b1, [.int .i64 p0.1, v1, v2])] [row v7 70 A4 x4] w) ?_ ?_
 ·
  have H := G2
  clear G2 K2
  refine Ah (Ac ?_)
  refine ls F W Aa (Am IE Aa Aa Aa Pu F Aa 2 Aa).q fun a w F W => ?_
  refine ls F W Aa (AB (v := v2) 0 F Aa Aa Pu Aa).q fun a w F W => ?_
  refine ls F W Aa (B1 (r := Ip) (l := p0.2.2) Od Aa F Aa (Ap h_v2)).q fun a w F W => ?_
  refine ls F W Aa (Ad F Aa).q fun a w F W => ?_
  refine Ae (Ab (As ?_))
  have W := W.nilRow 70 A4
  refine Bh H (fun s a w => ∃ v8 : Value, Fr 68 [] [(1, v3), (2, v4), (3, .pointer (some ⟨b1, 0, none⟩)), (6, .slice none 0 0), (7, .int .i64 0), (8, v8), (25, .int .i64 (p0.2.2.length : Int)), (26, .int .i64 s.2)] a ∧ Stw ⟨Y, [], w0⟩ [(b1, [.int .i64 p0.1, v1, v2])] [row v8 70 A4 s.1] w) ⟨(Value.slice none 0 0), F.re ⟨rfl, Aa, Aa, Aa, Aa, Aa, Aa, Aa, trivial⟩, W⟩ fun s o a w H L3 hR => ?_
  obtain ⟨x5, x6⟩ := s
  obtain ⟨v8, F, W⟩ := hR
  have F : Fr 68 [] [(1, v3), (2, v4), (3, .pointer (some ⟨b1, 0, none⟩)), (6, .slice none 0 0), (7, .int .i64 0), (8, v8), (25, .int .i64 (p0.2.2.length : Int)), (26, .int .i64 x6)] a := F
  have W : Stw ⟨Y, [], w0⟩ [(b1, [.int .i64 p0.1, v1, v2])] [row v8 70 A4 x5] w := W
  rw [Dq] at H
  refine Ah (Ac ?_)
  refine ls F W Aa (BI F Aa Aa).q fun a w F W => ?_
  refine Ae (Ab (Ah ?_))
  refine Ay F Aa (fun hb => ?_) fun hb => ?_
  ·
   have H := AP (Bm hb) H
   rw [hb] at F
   clear hb
   refine Aq (Ab ?_)
   obtain ⟨o4, G4, K4⟩ := Ak H
   refine AK (fun a w => ∃ x7 : List (Int × Int × Int × Int), ∃ v9 : Value, some (x7) = some o4 ∧ Fr 68 [] [(1, v3), (2, v4), (3, .pointer (some ⟨b1, 0, none⟩)), (6, .slice none 0 0), (7, .int .i64 0), (8, v9), (25, .int .i64 (p0.2.2.length : Int)), (26, .int .i64 x6)] a ∧ Stw ⟨Y, [], w0⟩ [(b1, [.int .i64 p0.1, v1, v2])] [row v9 70 A4 x7] w) ?_ ?_
   ·
    have H := G4
    clear G4 K4
    refine As (Ah (Ac ?_))
    refine ls F W Aa (Ad F Aa).q fun a w F W => ?_
    refine ls F W Aa (Af F Aa).q fun a w F W => ?_
    refine Ae (Ab (Ah (Ac ?_)))
    refine ls F W Aa (AB (v := Value.agg #[.int .i64 p0.1, v1, v2]) 0 F Aa Aa Mk Aa).q fun a w F W => ?_
    iterate 2 refine ls F W Aa (Ad F Aa).q fun a w F W => ?_
    obtain ⟨x8, h5, H⟩ := Ak H
    refine Bo (Ml := []) (Zl := []) (M := [(b1, [.int .i64 p0.1, v1, v2])]) (Z := [row v8 70 A4 x5]) (β := Value) (rv := fun x => x) (MM := fun x => []) (ZZ := fun x => [row x 3 (Rp.int .i64) x8]) F W V7 Aa Aa (fun hL => Oi _ w (v1) (v2) (v4) p0 p2 x6 _ h5 ((Ap h_v1) w W).nx ((Ap h_v2) w W).nx ((Cb Er h2 (Ap h_v4)) w W).nx) fun x a w F W => ?_
    obtain ⟨v10, rfl⟩ : ∃ y, y = x := ⟨x, rfl⟩
    have W : Stw ⟨Y, [], w0⟩ [(b1, [.int .i64 p0.1, v1, v2])] [row v10 3 (Rp.int .i64) x8, row v8 70 A4 x5] w := W
    refine ls F W Aa (B1 (r := (Rp.int .i64)) (l := x8) Hu Aa F Aa (Aj 0 Aa)).q fun a w F W => ?_
    refine ls F W Aa (Ad F Aa).q fun a w F W => ?_
    refine Ae (Ab (As ?_))
    have W := W.frontZ (i := 1) Aa Aa
    refine Bh H (fun s a w => ∃ v11 : Value, Fr 68 [] [(1, v3), (2, v4), (3, .pointer (some ⟨b1, 0, none⟩)), (6, .slice none 0 0), (7, .int .i64 0), (8, v11), (9, .int .i64 x6), (25, .int .i64 (p0.2.2.length : Int)), (26, .int .i64 x6), (32, v10), (33, .int .i64 (x8.length : Int)), (34, .int .i64 s.2)] a ∧ Stw ⟨Y, [], w0⟩ [(b1, [.int .i64 p0.1, v1, v2])] [row v11 70 A4 s.1, row v10 3 (Rp.int .i64) x8] w) ⟨(v8), F.re ⟨rfl, Aa, Aa, Aa, Aa, Aa, Aa, Aa, Aa, Aa, Aa, Aa, trivial⟩, W⟩ fun s o a w H L5 hR => ?_
    obtain ⟨x9, x10⟩ := s
    obtain ⟨v11, F, W⟩ := hR
    have F : Fr 68 [] [(1, v3), (2, v4), (3, .pointer (some ⟨b1, 0, none⟩)), (6, .slice none 0 0), (7, .int .i64 0), (8, v11), (9, .int .i64 x6), (25, .int .i64 (p0.2.2.length : Int)), (26, .int .i64 x6), (32, v10), (33, .int .i64 (x8.length : Int)), (34, .int .i64 x10)] a := F
    have W : Stw ⟨Y, [], w0⟩ [(b1, [.int .i64 p0.1, v1, v2])] [row v11 70 A4 x9, row v10 3 (Rp.int .i64) x8] w := W
    rw [CW] at H
    refine Ah (Ac ?_)
    refine ls F W Aa (BI F Aa Aa).q fun a w F W => ?_
    refine Ae (Ab (Ah ?_))
    refine Ay F Aa (fun hb => ?_) fun hb => ?_
    ·
     have H := AP (Bm hb) H
     rw [hb] at F
     clear hb
     refine Aq (Ab ?_)
     obtain ⟨o6, G6, K6⟩ := Ak H
     refine AK (fun a w => ∃ x11 : List (Int × Int × Int × Int), ∃ v12 : Value, some (x11) = some o6 ∧ Fr 68 [] [(1, v3), (2, v4), (3, .pointer (some ⟨b1, 0, none⟩)), (6, .slice none 0 0), (7, .int .i64 0), (8, v12), (9, .int .i64 x6), (25, .int .i64 (p0.2.2.length : Int)), (26, .int .i64 x6), (32, v10), (33, .int .i64 (x8.length : Int)), (34, .int .i64 x10)] a ∧ Stw ⟨Y, [], w0⟩ [(b1, [.int .i64 p0.1, v1, v2])] [row v12 70 A4 x11, row v10 3 (Rp.int .i64) x8] w) ?_ ?_
     ·
      have H := G6
      clear G6 K6
      refine As (Ah (Ac ?_))
      refine ls F W Aa (Ad F Aa).q fun a w F W => ?_
      obtain ⟨x12, h6, H⟩ := Ak H
      refine ls F W Aa (AC (r := (Rp.int .i64)) EH F Aa Aa (Aj 1 Aa) h6).q fun a w F W => ?_
      refine ls F W Aa (Ao (y := Value.int .i64 x12) (j := 0) (i := x10) F Aa Aa (Aj 1 Aa) h6 Fl.int.to T3 Aa).q fun a w F W => ?_
      iterate 2 refine ls F W Aa (Af F Aa).q fun a w F W => ?_
      refine Ae (Ab (Ah (Ac ?_)))
      iterate 2 refine ls F W Aa (Ad F Aa).q fun a w F W => ?_
      obtain ⟨x13, h7, H⟩ := Ak H
      obtain ⟨v13, h8, h9⟩ := EK h2 h7
      have h10 : Ir v13 = [(v13.1)] := congrArg (fun q : List Int => ([(v13.1)] : List Value)) h9
      refine ls F W Aa (AC (r := (Rp.vsl (Rp.int .i64))) N8 F Aa Aa (Ap h_v4) h8).q fun a w F W => ?_
      refine ls F W Aa (Ao (y := (v13.1)) (j := 0) (i := x10) (enc := Ir) F Aa Aa (Ap h_v4) h8 MU J7 (by rw [h10]; rfl)).q fun a w F W => ?_
      refine ls F W Aa (Ad F Aa).q fun a w F W => ?_
      obtain ⟨x14, h11, H⟩ := Ak H
      refine ls F W Aa (AC (r := (Rp.int .i64)) EH F Aa Aa (D2 (Ap h_v4) h8 Cu.here (congrArg (fun q : List Int => q) h9)) h11).q fun a w F W => ?_
      refine ls F W Aa (Ao (y := Value.int .i64 x14) (j := 0) (i := x6) F Aa Aa (D2 (Ap h_v4) h8 Cu.here (congrArg (fun q : List Int => q) h9)) h11 Fl.int.to T3 Aa).q fun a w F W => ?_
      refine ls F W Aa (Af F Aa).q fun a w F W => ?_
      refine Ae (Ab (Ah (Ac ?_)))
      iterate 3 refine ls F W Aa (Ad F Aa).q fun a w F W => ?_
      obtain ⟨x15, h12, H⟩ := Ak H
      obtain ⟨v14, h13, h14⟩ := EK h1 h12
      have h15 : Ir v14 = [(v14.1)] := congrArg (fun q : List Int => ([(v14.1)] : List Value)) h14
      refine ls F W Aa (AC (r := (Rp.vsl (Rp.int .i64))) N8 F Aa Aa (Ap h_v3) h13).q fun a w F W => ?_
      refine ls F W Aa (Ao (y := (v14.1)) (j := 0) (i := x10) (enc := Ir) F Aa Aa (Ap h_v3) h13 MU J7 (by rw [h15]; rfl)).q fun a w F W => ?_
      refine ls F W Aa (Ad F Aa).q fun a w F W => ?_
      obtain ⟨x16, h16, H⟩ := Ak H
      refine ls F W Aa (AC (r := (Rp.int .i64)) EH F Aa Aa (D2 (Ap h_v3) h13 Cu.here (congrArg (fun q : List Int => q) h14)) h16).q fun a w F W => ?_
      refine ls F W Aa (Ao (y := Value.int .i64 x16) (j := 0) (i := x6) F Aa Aa (D2 (Ap h_v3) h13 Cu.here (congrArg (fun q : List Int => q) h14)) h16 Fl.int.to T3 Aa).q fun a w F W => ?_
      refine ls F W Aa (Hq F Aa Aa).q fun a w F W => ?_
      refine Ae (Ab ?_)
      refine Ay F Aa (fun hb => ?_) fun hb => ?_
      ·
       have H := AP (Bm hb) H
       rw [hb] at F
       clear hb
       refine Ac ?_
       iterate 5 refine ls F W Aa (Ad F Aa).q fun a w F W => ?_
       refine ls F W Aa (CE (v := Value.agg #[.int .i64 x10, .int .i64 x6, .int .i64 x14, .int .i64 x12]) Vr F Aa Aa Aa).q fun a w F W => ?_
       refine E9 (z := Value.agg #[.int .i64 0, .int .i64 0, .int .i64 0, .int .i64 0]) (cs := [.int .i64 x10, .int .i64 x6, .int .i64 x14, .int .i64 x12]) A4 ([(x10, x6, x14, x12)] : List (Int × Int × Int × Int)) F W Aa En S7 Aa Aa Aa Aa Aa Aa (Ep.repL _ _ ([(x10, x6, x14, x12)] : List (Int × Int × Int × Int))) fun v15 a w F W => ?_
       obtain ⟨x17, h17, H⟩ := Ak H
       refine Fb (r := A4) (i := 1) F W Aa En Aa Aa Aa Aa (GD W 0 Aa) h17 Aa fun v16 a w F W => ?_
       have W : Stw ⟨Y, [], w0⟩ [(b1, [.int .i64 p0.1, v1, v2])] [row v16 70 A4 x17, row v15 70 A4 ([(x10, x6, x14, x12)] : List (Int × Int × Int × Int)), row v10 3 (Rp.int .i64) x8] w := W
       refine ls F W Aa (Af F Aa).q fun a w F W => ?_
       refine Ae (AM (Ab ?_))
       have W := W.frontZ (i := 2) Aa Aa
       have W := W.frontZ (i := 1) Aa Aa
       have W := W.sub (M' := [(b1, [.int .i64 p0.1, v1, v2])]) (Z' := [row v16 70 A4 x17, row v10 3 (Rp.int .i64) x8]) (List.Sublist.refl _) (List.Sublist.cons_cons _ (List.Sublist.cons_cons _ (List.nil_sublist _)))
       exact ⟨_, (v16), H, F.re ⟨rfl, Aa, Aa, Aa, Aa, Aa, Aa, Aa, Aa, Aa, Aa, Aa, trivial⟩, W⟩
      have H := AO (Bn hb) H
      rw [hb] at F
      clear hb
      refine Aq (AM (Ab ?_))
      have W := W.frontZ (i := 1) Aa Aa
      have W := W.frontZ (i := 1) Aa Aa
      exact ⟨_, (v11), H, F.re ⟨rfl, Aa, Aa, Aa, Aa, Aa, Aa, Aa, Aa, Aa, Aa, Aa, trivial⟩, W⟩
     rintro a w ⟨x11, v12, hj, F, W⟩
     have hj := AQ hj
     subst hj
     have H := K6
     clear G6 K6
     refine Ac ?_
     refine ls F W Aa (Bp F Aa Aa Aa).q fun a w F W => ?_
     refine ls F W Aa (Ad F Aa).q fun a w F W => ?_
     refine Ae (Ab ?_)
     have W := W.frontZ (i := 1) Aa Aa
     have W := W.frontZ (i := 1) Aa Aa
     exact ⟨_, H, (v12), F.re ⟨rfl, Aa, Aa, Aa, Aa, Aa, Aa, Aa, Aa, Aa, Aa, Aa, trivial⟩, W⟩
    have H := AO (Bn hb) H
    rw [hb] at F
    clear hb
    refine A5 ?_
    iterate 2 refine Bk ?_
    refine A6 (AM (Ab ?_))
    have W := W.sub (M' := [(b1, [.int .i64 p0.1, v1, v2])]) (Z' := [row v11 70 A4 x9]) (List.Sublist.refl _) (List.Sublist.cons_cons _ (List.nil_sublist _))
    have H := L5 _ H
    exact ⟨_, (v11), H, F.re ⟨rfl, Aa, Aa, Aa, Aa, Aa, Aa, Aa, trivial⟩, W⟩
   rintro a w ⟨x7, v9, hj, F, W⟩
   have hj := AQ hj
   subst hj
   have H := K4
   clear G4 K4
   refine Ac ?_
   refine ls F W Aa (Bp F Aa Aa Aa).q fun a w F W => ?_
   refine ls F W Aa (Ad F Aa).q fun a w F W => ?_
   refine Ae (Ab ?_)
   exact ⟨_, H, (v9), F.re ⟨rfl, Aa, Aa, Aa, Aa, Aa, Aa, Aa, trivial⟩, W⟩
  have H := AO (Bn hb) H
  rw [hb] at F
  clear hb
  refine A5 ?_
  iterate 2 refine Bk ?_
  refine A6 (Ab ?_)
  have H := L3 _ H
  exact ⟨_, (v8), H, F.re ⟨rfl, Aa, Aa, trivial⟩, W⟩
 rintro a w ⟨x4, v7, hj, F, W⟩
 have hj := AQ hj
 subst hj
 have H := K2
 clear G2 K2
 refine Ah (Ac ?_)
 refine ls F W Aa (Ad F Aa).q fun a w F W => ?_
 obtain ⟨x18, h18, H⟩ := Ak H
 refine Bo (Ml := []) (Zl := [row v7 70 A4 x4]) (M := [(b1, [.int .i64 p0.1, v1, v2])]) (Z := []) (β := Unit) (rv := fun x => .tuple #[]) (MM := fun x => []) (ZZ := fun x => [row v7 70 A4 x18]) F W V5 Aa Aa (fun hL => Fp _ _ w (v7) x4 _ h18 hL) fun x a w F W => ?_
 have W : Stw ⟨Y, [], w0⟩ [(b1, [.int .i64 p0.1, v1, v2])] [row v7 70 A4 x18] w := W
 refine Ae (Ab (Ah (Ac ?_)))
 refine ls F W Aa (Ad F Aa).q fun a w F W => ?_
 iterate 2 refine ls F W Aa (Af F Aa).q fun a w F W => ?_
 refine Ae (Ab (AF ?_))
 have H := AQ H
 subst H
 refine EU (.inl Aa) F W Aa (AD F Aa) (AD F Aa) ?_
 have W := W.sub (M' := []) (Z' := [row v7 70 A4 x18]) (List.nil_sublist _) (List.Sublist.refl _)
 exact ⟨(v7), Aa, W⟩
def Cs (p0 : Int) (p1 : Int) : Bool := (bif (BN p0) then (!(BN p1) || decide (p0 < p1)) else decide (p0 < p1))
theorem ET (Y : Nat → Prop) (w0 : World)  (p0 : Int) (p1 : Int) (r : Bool) (H : Cs p0 p1 = r)  :
    Calls Try.prog 85 #[.int .i64 p0, .int .i64 p1] w0 fun e w' => e = .returned (.bool r) ∧ Below w0.heap.size w0 w' := by
 refine enter Try.func85 Aa Try.ntmps85 Aa fun a F => ?_
 have W := Stw.start Y w0
 unfold Cs at H
 refine Ah (Ac ?_)
 refine ls F W Aa (Af F Aa).q fun a w F W => ?_
 refine Ae (Ab ?_)
 refine AK (fun a w => Fr 17 [] [(4, .bool (bif (BN p0) then (!(BN p1) || decide (p0 < p1)) else decide (p0 < p1)))] a ∧ Stw ⟨Y, [], w0⟩ [] [] w) ?_ ?_
 ·
  refine Ac ?_
  refine ls F W Aa (Ad F Aa).q fun a w F W => ?_
  refine ls F W Aa (BR (v := Value.bool (BN p0)) F TM Aa (fun w W => F7 any w p0 _ Aa)) fun a w F W => ?_
  refine ls F W Aa (Ad F Aa).q fun a w F W => ?_
  rcases Bool.eq_false_or_eq_true (BN p0) with hb0 | hb0
  ·
   rw [hb0] at F
   refine AR F W (Ag F Aa Aa Aa Aa) Aa (An Aa) (Ad F Aa).q fun a w F W => ?_
   refine IQ (Ag F Aa Aa Aa Aa) ?_
   refine ls F W Aa (BR (v := Value.bool (BN p1)) F TM Aa (fun w W => F7 any w p1 _ Aa)) fun a w F W => ?_
   refine AR F W (Ag F Aa Aa Aa Aa) Aa (An Aa) (ED F Aa).q fun a w F W => ?_
   refine ls F W Aa (Av F Aa Aa Aa).q fun a w F W => ?_
   refine ls F W Aa (Ad F Aa).q fun a w F W => ?_
   rcases Bool.eq_false_or_eq_true (!(BN p1)) with hb1 | hb1
   ·
    rw [hb1] at F
    iterate 3 refine C1 F Aa Aa Aa Aa Aa Aa Aa fun a F => ?_
    refine ls F W Aa (Av F Aa Aa Aa).q fun a w F W => ?_
    refine ls F W Aa (Af F Aa).q fun a w F W => ?_
    refine Ae (Ab ?_)
    exact ⟨F.re ⟨(by show some (Value.bool true) = some (Value.bool (bif (BN p0) then (!(BN p1) || decide (p0 < p1)) else decide (p0 < p1))); try rw [hb1]; try rw [hb0]; all_goals simp only [Bool.not_true, Bool.not_false, Bool.true_and, Bool.false_and, Bool.true_or, Bool.false_or, Bool.and_true, Bool.or_false, cond_true, cond_false]), trivial⟩, W⟩
   rw [hb1] at F
   iterate 2 refine AR F W (Ag F Aa Aa Aa Aa) Aa (An Aa) (Ad F Aa).q fun a w F W => ?_
   refine AR F W (Ag F Aa Aa Aa Aa) Aa (An Aa) (BI F Aa Aa).q fun a w F W => ?_
   refine ls F W Aa (Ax F Aa Aa Aa).q fun a w F W => ?_
   refine ls F W Aa (Af F Aa).q fun a w F W => ?_
   refine Ae (Ab ?_)
   exact ⟨F.re ⟨(by show some (Value.bool (decide (p0 < p1))) = some (Value.bool (bif (BN p0) then (!(BN p1) || decide (p0 < p1)) else decide (p0 < p1))); try rw [hb1]; try rw [hb0]; all_goals simp only [Bool.not_true, Bool.not_false, Bool.true_and, Bool.false_and, Bool.true_or, Bool.false_or, Bool.and_true, Bool.or_false, cond_true, cond_false]), trivial⟩, W⟩
  rw [hb0] at F
  iterate 3 refine C1 F Aa Aa Aa Aa Aa Aa Aa fun a F => ?_
  refine ls F W Aa (Ax F Aa Aa Aa).q fun a w F W => ?_
  refine ls F W Aa (Ad F Aa).q fun a w F W => ?_
  iterate 2 refine AR F W (Ag F Aa Aa Aa Aa) Aa (An Aa) (Ad F Aa).q fun a w F W => ?_
  refine AR F W (Ag F Aa Aa Aa Aa) Aa (An Aa) (BI F Aa Aa).q fun a w F W => ?_
  refine ls F W Aa (Ax F Aa Aa Aa).q fun a w F W => ?_
  refine ls F W Aa (Af F Aa).q fun a w F W => ?_
  refine Ae (Ab ?_)
  exact ⟨F.re ⟨(by show some (Value.bool (decide (p0 < p1))) = some (Value.bool (bif (BN p0) then (!(BN p1) || decide (p0 < p1)) else decide (p0 < p1))); try rw [hb0]; all_goals simp only [Bool.not_true, Bool.not_false, Bool.true_and, Bool.false_and, Bool.true_or, Bool.false_or, Bool.and_true, Bool.or_false, cond_true, cond_false]), trivial⟩, W⟩
 rintro a w ⟨F, W⟩
 refine AF ?_
 subst H
 refine Bj (.inl Aa) F W Aa (AD F Aa) ?_
 exact ⟨rfl, W.done⟩
theorem SW : Has Try.prog 85 := ⟨fun args w => Al Try.func85 rfl (by decide) args w⟩
noncomputable def A7 (p1 : Int) : (List Int × Int) → Option ((List Int × Int) ⊕ (List Int))
  | (x4, x5) => (if p1 < x5 then (ix x4 x5).bind fun x7 => (ix x4 (Az (x5 - 1))).bind fun x8 => some (Cs x7 x8) else some false).bind fun x6 => (if x6 = true then (ix x4 (Az (x5 - 1))).bind fun x9 => (ix x4 x5).bind fun x10 => (ix x4 x5).bind fun x11 => (ix (AE x4 x5 x9) (Az (x5 - 1))).bind fun x12 => some (.inl ((AE (AE x4 x5 x9) (Az (x5 - 1)) x10), Az (x5 - 1))) else some (.inr x4))
noncomputable def Bz (p1 : Int) (p2 : Int) : (List Int × Int) → Option ((List Int × Int) ⊕ (List Int))
  | (x1, x2) => (if x2 < p2 then (AH (A7 p1) (x1, x2)).bind fun x3 => some (.inl (x3, Az (x2 + 1))) else some (.inr x1))
noncomputable def BO (p0 : List Int) (p1 : Int) (p2 : Int) : Option (List Int) := AH (Bz p1 p2) (p0, Az (p1 + 1))
theorem Gq (Y : Nat → Prop) (X : List Nat) (w0 : World) (v1 : Value) (p0 : List Int) (p1 : Int) (p2 : Int) (r : List Int) (H : BO p0 p1 p2 = some r) (hL : Stw ⟨Y, X, w0⟩ [] [row v1 3 (Rp.int .i64) p0] w0) :
    Calls Try.prog 79 #[v1, .int .i64 p1, .int .i64 p2] w0 fun e w' => ∃ x : Unit, e = .returned (.tuple #[]) ∧ Stw ⟨Y, X, w0⟩ [] [row v1 3 (Rp.int .i64) r] w' := by
 refine enter Try.func79 Aa Try.ntmps79 Aa fun a F => ?_
 have W := hL
 unfold BO at H
 refine Ah (Ac ?_)
 refine ls F W Aa (Ad F Aa).q fun a w F W => ?_
 refine ls F W Aa (Bp F Aa Aa Aa).q fun a w F W => ?_
 refine ls F W Aa (Af F Aa).q fun a w F W => ?_
 refine Ae (Ab (As ?_))
 refine Bh H (fun s a w => Fr 49 [] [(0, v1), (1, .int .i64 p1), (2, .int .i64 p2), (6, .int .i64 s.2)] a ∧ Stw ⟨Y, X, w0⟩ [] [row v1 3 (Rp.int .i64) s.1] w) ⟨F.re ⟨rfl, Aa, Aa, Aa, trivial⟩, W⟩ fun s o a w H L1 hR => ?_
 obtain ⟨x1, x2⟩ := s
 obtain ⟨F, W⟩ := hR
 have F : Fr 49 [] [(0, v1), (1, .int .i64 p1), (2, .int .i64 p2), (6, .int .i64 x2)] a := F
 have W : Stw ⟨Y, X, w0⟩ [] [row v1 3 (Rp.int .i64) x1] w := W
 rw [Bz] at H
 refine Ah (Ah (Ac ?_))
 iterate 2 refine ls F W Aa (Ad F Aa).q fun a w F W => ?_
 refine ls F W Aa (BI F Aa Aa).q fun a w F W => ?_
 refine Ae (Ab ?_)
 refine Ay F Aa (fun hb => ?_) fun hb => ?_
 ·
  have H := AP (Bm hb) H
  rw [hb] at F
  clear hb
  refine Aq (Ab ?_)
  obtain ⟨o2, G2, K2⟩ := Ak H
  refine AK (fun a w => ∃ x3 : List Int, some (x3) = some o2 ∧ Fr 49 [] [(0, v1), (1, .int .i64 p1), (2, .int .i64 p2), (6, .int .i64 x2)] a ∧ Stw ⟨Y, X, w0⟩ [] [row v1 3 (Rp.int .i64) x3] w) ?_ ?_
  ·
   have H := G2
   clear G2 K2
   refine As (Ah (Ac ?_))
   refine ls F W Aa (Ad F Aa).q fun a w F W => ?_
   refine ls F W Aa (Af F Aa).q fun a w F W => ?_
   refine Ae (Ab (As ?_))
   refine Bh H (fun s a w => Fr 49 [] [(0, v1), (1, .int .i64 p1), (2, .int .i64 p2), (6, .int .i64 x2), (7, .int .i64 s.2)] a ∧ Stw ⟨Y, X, w0⟩ [] [row v1 3 (Rp.int .i64) s.1] w) ⟨F.re ⟨rfl, Aa, Aa, Aa, Aa, trivial⟩, W⟩ fun s o a w H L3 hR => ?_
   obtain ⟨x4, x5⟩ := s
   obtain ⟨F, W⟩ := hR
   have F : Fr 49 [] [(0, v1), (1, .int .i64 p1), (2, .int .i64 p2), (6, .int .i64 x2), (7, .int .i64 x5)] a := F
   have W : Stw ⟨Y, X, w0⟩ [] [row v1 3 (Rp.int .i64) x4] w := W
   rw [A7] at H
   refine Ah ?_
   obtain ⟨o4, G4, K4⟩ := Ak H
   refine AK (fun a w => ∃ x6 : Bool, some (x6) = some o4 ∧ Fr 49 [] [(0, v1), (1, .int .i64 p1), (2, .int .i64 p2), (6, .int .i64 x2), (7, .int .i64 x5), (30, .bool x6)] a ∧ Stw ⟨Y, X, w0⟩ [] [row v1 3 (Rp.int .i64) x4] w) ?_ ?_
   ·
    have H := G4
    clear G4 K4
    refine BS W MO (by kernel_rfl) ?_
    iterate 2 refine qs F Aa (Ad F Aa).q fun a F => ?_
    refine qs F Aa (FZ F Aa Aa).q fun a F => ?_
    refine qs F Aa (Ad F Aa).q fun a F => ?_
    rcases Bool.eq_false_or_eq_true (decide (p1 < x5)) with hb | hb
    ·
     have H := AP (Bm hb) H
     rw [hb] at F
     clear hb
     iterate 2 refine BM F (Ag F Aa Aa Aa Aa) Aa (An Aa) (Ad F Aa).q fun a F => ?_
     obtain ⟨x7, h1, H⟩ := Ak H
     refine BM F (Ag F Aa Aa Aa Aa) Aa (An Aa) (AC (r := (Rp.int .i64)) EH F Aa Aa (Aj 0 Aa) h1).q fun a F => ?_
     refine BM F (Ag F Aa Aa Aa Aa) Aa (An Aa) (Ao (y := Value.int .i64 x7) (j := 0) (i := x5) F Aa Aa (Aj 0 Aa) h1 Fl.int.to T3 Aa).q fun a F => ?_
     iterate 2 refine BM F (Ag F Aa Aa Aa Aa) Aa (An Aa) (Ad F Aa).q fun a F => ?_
     refine BM F (Ag F Aa Aa Aa Aa) Aa (An Aa) (B9 F Aa Aa Aa).q fun a F => ?_
     obtain ⟨x8, h2, H⟩ := Ak H
     refine BM F (Ag F Aa Aa Aa Aa) Aa (An Aa) (AC (r := (Rp.int .i64)) EH F Aa Aa (Aj 0 Aa) h2).q fun a F => ?_
     refine BM F (Ag F Aa Aa Aa Aa) Aa (An Aa) (Ao (y := Value.int .i64 x8) (j := 0) (i := Az (x5 - 1)) F Aa Aa (Aj 0 Aa) h2 Fl.int.to T3 Aa).q fun a F => ?_
     refine BM F (Ag F Aa Aa Aa Aa) Aa (An Aa) (BR (v := Value.bool (Cs x7 x8)) F SW Aa (fun w W => ET any w x7 x8 _ Aa)) fun a F => ?_
     refine qs F Aa (Av F Aa Aa Aa).q fun a F => ?_
     refine A0 fun w W => ?_
     refine Ab ?_
     exact ⟨_, H, F.re ⟨rfl, Aa, Aa, Aa, Aa, Aa, trivial⟩, W⟩
    have H := AO (Bn hb) H
    rw [hb] at F
    clear hb
    iterate 10 refine D7 F (CJ F Aa Aa Aa Aa Aa) Aa Aa fun a F => ?_
    refine qs F Aa (Ax F Aa Aa Aa).q fun a F => ?_
    refine A0 fun w W => ?_
    refine Ab ?_
    exact ⟨_, H, F.re ⟨rfl, Aa, Aa, Aa, Aa, Aa, trivial⟩, W⟩
   rintro a w ⟨x6, hj, F, W⟩
   have hj := AQ hj
   subst hj
   have H := K4
   clear G4 K4
   refine Ay F Aa (fun hb => ?_) fun hb => ?_
   ·
    have H := AP hb H
    rw [hb] at F
    clear hb
    refine Aq (Ab (Ah (As ?_)))
    refine El [(true, 0), (true, 1), (true, 2), (true, 3), (true, 4), (true, 5), (true, 6), (true, 7), (true, 8), (true, 9), (true, 10), (true, 11), (true, 12), (true, 13), (true, 14), (false, 15), (true, 16), (false, 17)] (CN ⟨Y, X, w0⟩ [] [(some 15, row v1 3 (Rp.int .i64) x4)]) (fun ch a d v w h => by cases d <;> exact h) MO (by kernel_rfl) W (fun w W => ⟨_, _, W, Aw, (all_cons (fun _ => (.head _)) Aw)⟩) fun w W => ?_
    iterate 4 refine Bd (R := []) F Aa Aa (yC fun M Z hN hZ => Ad F Aa) Aa Aa fun a F => ?_
    refine Bd (R := []) F Aa Aa (yC fun M Z hN hZ => B9 F Aa Aa Aa) Aa Aa fun a F => ?_
    iterate 2 refine Bd (R := []) F Aa Aa (yC fun M Z hN hZ => Ad F Aa) Aa Aa fun a F => ?_
    refine Bd (R := []) F Aa Aa (yC fun M Z hN hZ => B9 F Aa Aa Aa) Aa Aa fun a F => ?_
    obtain ⟨x9, h3, H⟩ := Ak H
    refine Bd (R := []) F Aa Aa (yC fun M Z hN hZ => Bi (r := (Rp.int .i64)) EH F Aa Aa (CC W (Aj 0 Aa)) h3) Aa Aa fun a F => ?_
    refine Bd (R := [15]) F Aa Aa (yC fun M Z hN hZ => Ao (y := Value.int .i64 x9) (j := 0) (i := Az (x5 - 1)) F Aa Aa (Ck (hZ ((some 15), row v1 3 (Rp.int .i64) x4) (.head _) Aa)) h3 Fl.int.to T3 Aa) (by kernel_rfl) Aa fun a F => ?_
    iterate 2 refine Bd (R := []) F Aa Aa (yC fun M Z hN hZ => Ad F Aa) Aa Aa fun a F => ?_
    obtain ⟨x10, h4, H⟩ := Ak H
    refine Bd (R := []) F Aa Aa (yC fun M Z hN hZ => Bi (r := (Rp.int .i64)) EH F Aa Aa (CC W (Aj 0 Aa)) h4) Aa Aa fun a F => ?_
    refine Bd (R := [15]) F Aa Aa (yC fun M Z hN hZ => Ao (y := Value.int .i64 x10) (j := 0) (i := x5) F Aa Aa (Ck (hZ ((some 15), row v1 3 (Rp.int .i64) x4) (.head _) Aa)) h4 Fl.int.to T3 Aa) (by kernel_rfl) Aa fun a F => ?_
    obtain ⟨x11, h5, H⟩ := Ak H
    refine Bd (R := []) F Aa Aa (yC fun M Z hN hZ => Bi (r := (Rp.int .i64)) EH F Aa Aa (CC W (Aj 0 Aa)) h5) Aa Aa fun a F => ?_
    refine Fh Aa ?_
    refine A8 (i := x5) (j := 0) (vs := [.int .i64 x9]) (x' := x9) F W Aa Aa Aa (k := 0) Aa Aa h5 T3 Aa Aa Aa Aa (fun A cs _ => Fl.int.sto (by rfl) _ _ _) fun w W => ?_
    refine Cr (N2 := []) (NZ2 := []) (N3 := []) (NZ3 := [(some 15, row v1 3 (Rp.int .i64) x4)]) W Aa Aa Aw (all_cons (fun h => Be (by kernel_rfl) h) Aw) ?_
    obtain ⟨x12, h6, H⟩ := Ak H
    refine Bd (R := []) F Aa Aa (yC fun M Z hN hZ => Bi (r := (Rp.int .i64)) EH F Aa Aa (CC W (Aj 0 Aa)) h6) Aa Aa fun a F => ?_
    refine Fh Aa ?_
    refine A8 (i := Az (x5 - 1)) (j := 0) (vs := [.int .i64 x10]) (x' := x10) F W Aa Aa Aa (k := 0) Aa Aa h6 T3 Aa Aa Aa Aa (fun A cs _ => Fl.int.sto (by rfl) _ _ _) fun w W => ?_
    refine Cr (N2 := []) (NZ2 := []) (N3 := []) (NZ3 := [(some 15, row v1 3 (Rp.int .i64) x4)]) W Aa Aa Aw (all_cons (fun h => Be (by kernel_rfl) h) Aw) ?_
    refine FC (AM (Ab (Ac ?_)))
    refine ls F W Aa (Ad F Aa).q fun a w F W => ?_
    refine ls F W Aa (B9 F Aa Aa Aa).q fun a w F W => ?_
    refine ls F W Aa (Af F Aa).q fun a w F W => ?_
    refine Ae (Ab ?_)
    exact ⟨_, H, F.re ⟨rfl, Aa, Aa, Aa, Aa, trivial⟩, W⟩
   have H := AO (by rw [hb]; decide) H
   rw [hb] at F
   clear hb
   refine A5 ?_
   iterate 2 refine Bk ?_
   refine A6 (AM (Ab ?_))
   have H := L3 _ H
   exact ⟨_, H, F.re ⟨rfl, Aa, Aa, Aa, trivial⟩, W⟩
  rintro a w ⟨x3, hj, F, W⟩
  have hj := AQ hj
  subst hj
  have H := K2
  clear G2 K2
  refine Ac ?_
  refine ls F W Aa (Ad F Aa).q fun a w F W => ?_
  refine ls F W Aa (Bp F Aa Aa Aa).q fun a w F W => ?_
  refine ls F W Aa (Af F Aa).q fun a w F W => ?_
  refine Ae (Ab ?_)
  exact ⟨_, H, F.re ⟨rfl, Aa, Aa, Aa, trivial⟩, W⟩
 have H := AO (Bn hb) H
 rw [hb] at F
 clear hb
 refine A5 ?_
 iterate 2 refine Bk ?_
 refine A6 ?_
 have H := L1 _ H
 have H := AQ H
 subst H
 refine He (.inr Aa) F Aa ?_
 exact ⟨(), Aa, W⟩
theorem UZ : Has Try.prog 79 := ⟨fun args w => Al Try.func79 rfl (by decide) args w⟩
noncomputable def CA (p0 : List Int) (p1 : Int) (p2 : Int) (p3 : Int) : Option (Int × Int × Int) := (ix p0 p2).bind fun x1 => (ix p0 p1).bind fun x2 => (if (Cs x1 x2) = true then some (p2, p1, Az (p3 + 1)) else some (p1, p2, p3))
theorem Eg (Y : Nat → Prop) (X : List Nat) (w0 : World) (v1 : Value) (q_p3 : Nat) (p0 : List Int) (p1 : Int) (p2 : Int) (p3 : Int) (r : Int × Int × Int) (H : CA p0 p1 p2 p3 = some r) (h_v1 : Sl w0 (NX X) (Rp.int .i64) v1 p0) (hL : Stw ⟨Y, X, w0⟩ [(q_p3, [.int .i64 p3])] [] w0) :
    Calls Try.prog 93 #[v1, .int .i64 p1, .int .i64 p2, .pointer (some ⟨q_p3, 0, none⟩)] w0 fun e w' => ∃ x : Unit, e = .returned (.tuple #[.int .i64 r.1, .int .i64 r.2.1]) ∧ Stw ⟨Y, X, w0⟩ [(q_p3, [.int .i64 r.2.2])] [] w' := by
 refine enter Try.func93 Aa Try.ntmps93 Aa fun a F => ?_
 have W := hL
 unfold CA at H
 refine Ah (Ac ?_)
 iterate 2 refine ls F W Aa (Af F Aa).q fun a w F W => ?_
 refine Ae (Ab ?_)
 iterate 2 refine Ah ?_
 refine BS W MO (by kernel_rfl) ?_
 iterate 2 refine qs F Aa (Ad F Aa).q fun a F => ?_
 obtain ⟨x1, h1, H⟩ := Ak H
 refine qs F Aa (AC (r := (Rp.int .i64)) EH F Aa Aa (Ap h_v1) h1).q fun a F => ?_
 refine qs F Aa (Ao (y := Value.int .i64 x1) (j := 0) (i := p2) F Aa Aa (Ap h_v1) h1 Fl.int.to T3 Aa).q fun a F => ?_
 iterate 2 refine qs F Aa (Ad F Aa).q fun a F => ?_
 obtain ⟨x2, h2, H⟩ := Ak H
 refine qs F Aa (AC (r := (Rp.int .i64)) EH F Aa Aa (Ap h_v1) h2).q fun a F => ?_
 refine qs F Aa (Ao (y := Value.int .i64 x2) (j := 0) (i := p1) F Aa Aa (Ap h_v1) h2 Fl.int.to T3 Aa).q fun a F => ?_
 refine qs F Aa (BR (v := Value.bool (Cs x1 x2)) F SW Aa (fun w W => ET any w x1 x2 _ Aa)) fun a F => ?_
 refine A0 fun w W => ?_
 refine Ab ?_
 refine Ay F Aa (fun hb => ?_) fun hb => ?_
 ·
  have H := AP hb H
  rw [hb] at F
  clear hb
  refine Ah (Ac ?_)
  refine ls F W Aa (Ad F Aa).q fun a w F W => ?_
  refine ls F W Aa (Dm F Aa).q fun a w F W => ?_
  refine ls F W Aa (AB (v := Value.int .i64 p3) 0 F Aa Aa T3 Aa).q fun a w F W => ?_
  refine ls F W Aa (Bp F Aa Aa Aa).q fun a w F W => ?_
  refine ls F W Aa (Dm F Aa).q fun a w F W => ?_
  refine BW (vs := [.int .i64 (Az (p3 + 1))]) (M' := [(q_p3, [.int .i64 (Az (p3 + 1))])]) 0 F W Aa Aa Aa T3 Aa Aa Aa Aa Aa fun w W => ?_
  refine Ae (Ab (Ah (Ac ?_)))
  iterate 2 refine ls F W Aa (Ad F Aa).q fun a w F W => ?_
  iterate 2 refine ls F W Aa (Af F Aa).q fun a w F W => ?_
  refine Ae (Ab (AF (AN ?_)))
  have H := AQ H
  subst H
  refine EU (.inl Aa) F W Aa (AD F Aa) (AD F Aa) ?_
  exact ⟨(), Aa, W⟩
 have H := AO (by rw [hb]; decide) H
 rw [hb] at F
 clear hb
 refine Aq (Ab (Ah (Ac ?_)))
 iterate 2 refine ls F W Aa (Ad F Aa).q fun a w F W => ?_
 iterate 2 refine ls F W Aa (Af F Aa).q fun a w F W => ?_
 refine Ae (Ab (AF ?_))
 have H := AQ H
 subst H
 refine EU (.inl Aa) F W Aa (AD F Aa) (AD F Aa) ?_
 exact ⟨(), Aa, W⟩
theorem TS : Has Try.prog 93 := ⟨fun args w => Al Try.func93 rfl (by decide) args w⟩
noncomputable def Cz (p0 : List Int) (p1 : Int) (p2 : Int) (p3 : Int) (p4 : Int) : Option (Int × Int) := (CA p0 p1 p2 p4).bind fun x1 => (CA p0 x1.2.1 p3 x1.2.2).bind fun x2 => (CA p0 x1.1 x2.1 x2.2.2).bind fun x3 => some (x3.2.1, x3.2.2)
theorem Fy (Y : Nat → Prop) (X : List Nat) (w0 : World) (v1 : Value) (q_p4 : Nat) (p0 : List Int) (p1 : Int) (p2 : Int) (p3 : Int) (p4 : Int) (r : Int × Int) (H : Cz p0 p1 p2 p3 p4 = some r) (h_v1 : Sl w0 (NX X) (Rp.int .i64) v1 p0) (hL : Stw ⟨Y, X, w0⟩ [(q_p4, [.int .i64 p4])] [] w0) :
    Calls Try.prog 92 #[v1, .int .i64 p1, .int .i64 p2, .int .i64 p3, .pointer (some ⟨q_p4, 0, none⟩)] w0 fun e w' => ∃ x : Unit, e = .returned (.int .i64 r.1) ∧ Stw ⟨Y, X, w0⟩ [(q_p4, [.int .i64 r.2])] [] w' := by
 refine enter Try.func92 Aa Try.ntmps92 Aa fun a F => ?_
 have W := hL
 unfold Cz at H
 refine Ah (Ac ?_)
 refine ls F W Aa (Af F Aa).q fun a w F W => ?_
 refine Ae (Ab (Ah (Ac ?_)))
 iterate 4 refine ls F W Aa (Ad F Aa).q fun a w F W => ?_
 obtain ⟨x1, h1, H⟩ := Ak H
 refine Bo (Ml := [(q_p4, [.int .i64 p4])]) (Zl := []) (M := []) (Z := []) (β := Unit) (rv := fun x => .tuple #[.int .i64 x1.1, .int .i64 x1.2.1]) (MM := fun x => [(q_p4, [.int .i64 x1.2.2])]) (ZZ := fun x => []) F W TS Aa Aa (fun hL => Eg _ _ w (v1) q_p4 p0 p1 p2 p4 _ h1 (W.roX h_v1 (fun g hg => EN hg)) hL) fun x a w F W => ?_
 have W : Stw ⟨Y, X, w0⟩ [(q_p4, [.int .i64 x1.2.2])] [] w := W
 refine ls F W Aa (Ad F Aa).q fun a w F W => ?_
 refine ls F W Aa (BK (v := Value.int .i64 x1.1) F Aa Aa).q fun a w F W => ?_
 refine ls F W Aa (BK (v := Value.int .i64 x1.2.1) F Aa Aa).q fun a w F W => ?_
 iterate 2 refine ls F W Aa (Af F Aa).q fun a w F W => ?_
 refine Ae (Ab (Ah (Ac ?_)))
 iterate 4 refine ls F W Aa (Ad F Aa).q fun a w F W => ?_
 obtain ⟨x2, h2, H⟩ := Ak H
 refine Bo (Ml := [(q_p4, [.int .i64 x1.2.2])]) (Zl := []) (M := []) (Z := []) (β := Unit) (rv := fun x => .tuple #[.int .i64 x2.1, .int .i64 x2.2.1]) (MM := fun x => [(q_p4, [.int .i64 x2.2.2])]) (ZZ := fun x => []) F W TS Aa Aa (fun hL => Eg _ _ w (v1) q_p4 p0 x1.2.1 p3 x1.2.2 _ h2 (W.roX h_v1 (fun g hg => EN hg)) hL) fun x a w F W => ?_
 have W : Stw ⟨Y, X, w0⟩ [(q_p4, [.int .i64 x2.2.2])] [] w := W
 refine ls F W Aa (Ad F Aa).q fun a w F W => ?_
 refine ls F W Aa (BK (v := Value.int .i64 x2.1) F Aa Aa).q fun a w F W => ?_
 refine ls F W Aa (BK (v := Value.int .i64 x2.2.1) F Aa Aa).q fun a w F W => ?_
 iterate 2 refine ls F W Aa (Af F Aa).q fun a w F W => ?_
 refine Ae (Ab (Ah (Ac ?_)))
 iterate 4 refine ls F W Aa (Ad F Aa).q fun a w F W => ?_
 obtain ⟨x3, h3, H⟩ := Ak H
 refine Bo (Ml := [(q_p4, [.int .i64 x2.2.2])]) (Zl := []) (M := []) (Z := []) (β := Unit) (rv := fun x => .tuple #[.int .i64 x3.1, .int .i64 x3.2.1]) (MM := fun x => [(q_p4, [.int .i64 x3.2.2])]) (ZZ := fun x => []) F W TS Aa Aa (fun hL => Eg _ _ w (v1) q_p4 p0 x1.1 x2.1 x2.2.2 _ h3 (W.roX h_v1 (fun g hg => EN hg)) hL) fun x a w F W => ?_
 have W : Stw ⟨Y, X, w0⟩ [(q_p4, [.int .i64 x3.2.2])] [] w := W
 refine ls F W Aa (Ad F Aa).q fun a w F W => ?_
 refine ls F W Aa (BK (v := Value.int .i64 x3.1) F Aa Aa).q fun a w F W => ?_
 refine ls F W Aa (BK (v := Value.int .i64 x3.2.1) F Aa Aa).q fun a w F W => ?_
 iterate 2 refine ls F W Aa (Af F Aa).q fun a w F W => ?_
 refine Ae (Ab (Ah (Ac ?_)))
 refine ls F W Aa (Ad F Aa).q fun a w F W => ?_
 refine ls F W Aa (Af F Aa).q fun a w F W => ?_
 refine Ae (Ab (AF ?_))
 have H := AQ H
 subst H
 refine Bj (.inl Aa) F W Aa (AD F Aa) ?_
 exact ⟨(), Aa, W⟩
theorem UI : Has Try.prog 92 := ⟨fun args w => Al Try.func92 rfl (by decide) args w⟩
noncomputable def BL (p0 : List Int) (p1 : Int) (p2 : Int) : Option (Int × Int) := (Cz p0 (Az (p1 - 1)) p1 (Az (p1 + 1)) p2).bind fun x1 => some (x1.1, x1.2)
theorem Dd (Y : Nat → Prop) (X : List Nat) (w0 : World) (v1 : Value) (q_p2 : Nat) (p0 : List Int) (p1 : Int) (p2 : Int) (r : Int × Int) (H : BL p0 p1 p2 = some r) (h_v1 : Sl w0 (NX X) (Rp.int .i64) v1 p0) (hL : Stw ⟨Y, X, w0⟩ [(q_p2, [.int .i64 p2])] [] w0) :
    Calls Try.prog 91 #[v1, .int .i64 p1, .pointer (some ⟨q_p2, 0, none⟩)] w0 fun e w' => ∃ x : Unit, e = .returned (.int .i64 r.1) ∧ Stw ⟨Y, X, w0⟩ [(q_p2, [.int .i64 r.2])] [] w' := by
 refine enter Try.func91 Aa Try.ntmps91 Aa fun a F => ?_
 have W := hL
 unfold BL at H
 refine Ah (Ac ?_)
 refine ls F W Aa (Af F Aa).q fun a w F W => ?_
 refine Ae (Ab (Ah (Ac ?_)))
 iterate 2 refine ls F W Aa (Ad F Aa).q fun a w F W => ?_
 refine ls F W Aa (B9 F Aa Aa Aa).q fun a w F W => ?_
 iterate 2 refine ls F W Aa (Ad F Aa).q fun a w F W => ?_
 refine ls F W Aa (Bp F Aa Aa Aa).q fun a w F W => ?_
 refine ls F W Aa (Ad F Aa).q fun a w F W => ?_
 obtain ⟨x1, h1, H⟩ := Ak H
 refine Bo (Ml := [(q_p2, [.int .i64 p2])]) (Zl := []) (M := []) (Z := []) (β := Unit) (rv := fun x => .int .i64 x1.1) (MM := fun x => [(q_p2, [.int .i64 x1.2])]) (ZZ := fun x => []) F W UI Aa Aa (fun hL => Fy _ _ w (v1) q_p2 p0 (Az (p1 - 1)) p1 (Az (p1 + 1)) p2 _ h1 (W.roX h_v1 (fun g hg => EN hg)) hL) fun x a w F W => ?_
 have W : Stw ⟨Y, X, w0⟩ [(q_p2, [.int .i64 x1.2])] [] w := W
 refine ls F W Aa (Af F Aa).q fun a w F W => ?_
 refine Ae (Ab (AF ?_))
 have H := AQ H
 subst H
 refine Bj (.inl Aa) F W Aa (AD F Aa) ?_
 exact ⟨(), Aa, W⟩
theorem Uq : Has Try.prog 91 := ⟨fun args w => Al Try.func91 rfl (by decide) args w⟩
noncomputable def Cg (p0 : List Int) (p1 : Int) (p2 : Int) : Option (Int × Int) := (if 8 ≤ (Az (p2 - p1)) then (if 50 ≤ (Az (p2 - p1)) then (BL p0 (Az (p1 + (Az ((Az (Int.tdiv (Az (p2 - p1)) 4)) * 1)))) 0).bind fun x7 => (BL p0 (Az (p1 + (Az ((Az (Int.tdiv (Az (p2 - p1)) 4)) * 2)))) x7.2).bind fun x8 => (BL p0 (Az (p1 + (Az ((Az (Int.tdiv (Az (p2 - p1)) 4)) * 3)))) x8.2).bind fun x9 => some (x7.1, x8.1, x9.1, x9.2) else some (Az (p1 + (Az ((Az (Int.tdiv (Az (p2 - p1)) 4)) * 1))), Az (p1 + (Az ((Az (Int.tdiv (Az (p2 - p1)) 4)) * 2))), Az (p1 + (Az ((Az (Int.tdiv (Az (p2 - p1)) 4)) * 3))), 0)).bind fun (x3, x4, x5, x6) => (Cz p0 x3 x4 x5 x6).bind fun x10 => some (x10.1, x10.2) else some (Az (p1 + (Az ((Az (Int.tdiv (Az (p2 - p1)) 4)) * 2))), 0)).bind fun (x1, x2) => (if x2 = 0 then some (x1, 1) else (if x2 = 12 then some (x1, 2) else some (x1, 0)))
theorem GI (Y : Nat → Prop) (w0 : World) (v1 : Value) (p0 : List Int) (p1 : Int) (p2 : Int) (r : Int × Int) (H : Cg p0 p1 p2 = some r) (h_v1 : Sl w0 (NX []) (Rp.int .i64) v1 p0) :
    Calls Try.prog 82 #[v1, .int .i64 p1, .int .i64 p2] w0 fun e w' => e = .returned (.tuple #[.int .i64 r.1, .int .i64 r.2]) ∧ Below w0.heap.size w0 w' := by
 refine enter Try.func82 Aa Try.ntmps82 Aa fun a F => ?_
 have W := Stw.start Y w0
 unfold Cg at H
 refine Ah (Ac ?_)
 iterate 2 refine ls F W Aa (Af F Aa).q fun a w F W => ?_
 refine Ae (Ab (Ah (Ac ?_)))
 iterate 2 refine ls F W Aa (Ad F Aa).q fun a w F W => ?_
 refine ls F W Aa (B9 F Aa Aa Aa).q fun a w F W => ?_
 refine ls F W Aa (Af F Aa).q fun a w F W => ?_
 refine Ae (Ab (Ah (Ac ?_)))
 refine CB (cs := [.int .i64 0]) F W Aa Z3 Aa fun b1 a w F W => ?_
 refine Ae (Ab (Ah (Ac ?_)))
 iterate 2 refine ls F W Aa (Ad F Aa).q fun a w F W => ?_
 refine ls F W Aa (JS F Aa Aa (by decide) Aa).q fun a w F W => ?_
 refine ls F W Aa (Jr F Aa Aa Aa).q fun a w F W => ?_
 refine ls F W Aa (Bp F Aa Aa Aa).q fun a w F W => ?_
 refine ls F W Aa (Af F Aa).q fun a w F W => ?_
 refine Ae (Ab (Ah (Ac ?_)))
 iterate 2 refine ls F W Aa (Ad F Aa).q fun a w F W => ?_
 refine ls F W Aa (JS F Aa Aa (by decide) Aa).q fun a w F W => ?_
 refine ls F W Aa (Jr F Aa Aa Aa).q fun a w F W => ?_
 refine ls F W Aa (Bp F Aa Aa Aa).q fun a w F W => ?_
 refine ls F W Aa (Af F Aa).q fun a w F W => ?_
 refine Ae (Ab (Ah (Ac ?_)))
 iterate 2 refine ls F W Aa (Ad F Aa).q fun a w F W => ?_
 refine ls F W Aa (JS F Aa Aa (by decide) Aa).q fun a w F W => ?_
 refine ls F W Aa (Jr F Aa Aa Aa).q fun a w F W => ?_
 refine ls F W Aa (Bp F Aa Aa Aa).q fun a w F W => ?_
 refine ls F W Aa (Af F Aa).q fun a w F W => ?_
 refine Ae (Ab ?_)
 obtain ⟨o1, G1, K1⟩ := Ak H
 refine AK (fun a w => ∃ x1 : Int, ∃ x2 : Int, some ((x1, x2)) = some o1 ∧ Fr 57 [] [(6, .int .i64 0), (7, .int .i64 0), (9, .pointer (some ⟨b1, 0, none⟩)), (11, .int .i64 x1)] a ∧ Stw ⟨Y, [], w0⟩ [(b1, [.int .i64 x2])] [] w) ?_ ?_
 ·
  have H := G1
  clear G1 K1
  refine Ah (Ac ?_)
  refine ls F W Aa (Ad F Aa).q fun a w F W => ?_
  refine ls F W Aa (Ds F Aa Aa).q fun a w F W => ?_
  refine Ae (Ab ?_)
  refine Ay F Aa (fun hb => ?_) fun hb => ?_
  ·
   have H := AP (Bm hb) H
   rw [hb] at F
   clear hb
   obtain ⟨o2, G2, K2⟩ := Ak H
   refine AK (fun a w => ∃ x3 : Int, ∃ x4 : Int, ∃ x5 : Int, ∃ x6 : Int, some ((x3, x4, x5, x6)) = some o2 ∧ Fr 57 [] [(0, v1), (6, .int .i64 0), (7, .int .i64 0), (9, .pointer (some ⟨b1, 0, none⟩)), (10, .int .i64 x3), (11, .int .i64 x4), (12, .int .i64 x5)] a ∧ Stw ⟨Y, [], w0⟩ [(b1, [.int .i64 x6])] [] w) ?_ ?_
   ·
    have H := G2
    clear G2 K2
    refine Ah (Ac ?_)
    refine ls F W Aa (Ad F Aa).q fun a w F W => ?_
    refine ls F W Aa (Ds F Aa Aa).q fun a w F W => ?_
    refine Ae (Ab ?_)
    refine Ay F Aa (fun hb => ?_) fun hb => ?_
    ·
     have H := AP (Bm hb) H
     rw [hb] at F
     clear hb
     refine Ah (Ac ?_)
     iterate 2 refine ls F W Aa (Ad F Aa).q fun a w F W => ?_
     obtain ⟨x7, h1, H⟩ := Ak H
     refine Bo (Ml := [(b1, [.int .i64 0])]) (Zl := []) (M := []) (Z := []) (β := Unit) (rv := fun x => .int .i64 x7.1) (MM := fun x => [(b1, [.int .i64 x7.2])]) (ZZ := fun x => []) F W Uq Aa Aa (fun hL => Dd _ _ w (v1) b1 p0 (Az (p1 + (Az ((Az (Int.tdiv (Az (p2 - p1)) 4)) * 1)))) 0 _ h1 (W.roX h_v1 (fun g hg => EN hg)) hL) fun x a w F W => ?_
     have W : Stw ⟨Y, [], w0⟩ [(b1, [.int .i64 x7.2])] [] w := W
     refine ls F W Aa (Af F Aa).q fun a w F W => ?_
     refine Ae (Ab (Ah (Ac ?_)))
     iterate 2 refine ls F W Aa (Ad F Aa).q fun a w F W => ?_
     obtain ⟨x8, h2, H⟩ := Ak H
     refine Bo (Ml := [(b1, [.int .i64 x7.2])]) (Zl := []) (M := []) (Z := []) (β := Unit) (rv := fun x => .int .i64 x8.1) (MM := fun x => [(b1, [.int .i64 x8.2])]) (ZZ := fun x => []) F W Uq Aa Aa (fun hL => Dd _ _ w (v1) b1 p0 (Az (p1 + (Az ((Az (Int.tdiv (Az (p2 - p1)) 4)) * 2)))) x7.2 _ h2 (W.roX h_v1 (fun g hg => EN hg)) hL) fun x a w F W => ?_
     have W : Stw ⟨Y, [], w0⟩ [(b1, [.int .i64 x8.2])] [] w := W
     refine ls F W Aa (Af F Aa).q fun a w F W => ?_
     refine Ae (Ab (Ac ?_))
     iterate 2 refine ls F W Aa (Ad F Aa).q fun a w F W => ?_
     obtain ⟨x9, h3, H⟩ := Ak H
     refine Bo (Ml := [(b1, [.int .i64 x8.2])]) (Zl := []) (M := []) (Z := []) (β := Unit) (rv := fun x => .int .i64 x9.1) (MM := fun x => [(b1, [.int .i64 x9.2])]) (ZZ := fun x => []) F W Uq Aa Aa (fun hL => Dd _ _ w (v1) b1 p0 (Az (p1 + (Az ((Az (Int.tdiv (Az (p2 - p1)) 4)) * 3)))) x8.2 _ h3 (W.roX h_v1 (fun g hg => EN hg)) hL) fun x a w F W => ?_
     have W : Stw ⟨Y, [], w0⟩ [(b1, [.int .i64 x9.2])] [] w := W
     refine ls F W Aa (Af F Aa).q fun a w F W => ?_
     refine Ae (Ab ?_)
     exact ⟨_, _, _, _, H, F.re ⟨rfl, Aa, Aa, Aa, Aa, Aa, Aa, trivial⟩, W⟩
    have H := AO (Bn hb) H
    rw [hb] at F
    clear hb
    refine Aq (Ab ?_)
    exact ⟨_, _, _, _, H, F.re ⟨rfl, Aa, Aa, Aa, Aa, Aa, Aa, trivial⟩, W⟩
   rintro a w ⟨x3, x4, x5, x6, hj, F, W⟩
   have hj := AQ hj
   subst hj
   have H := K2
   clear G2 K2
   refine Ac ?_
   iterate 4 refine ls F W Aa (Ad F Aa).q fun a w F W => ?_
   obtain ⟨x10, h4, H⟩ := Ak H
   refine Bo (Ml := [(b1, [.int .i64 x6])]) (Zl := []) (M := []) (Z := []) (β := Unit) (rv := fun x => .int .i64 x10.1) (MM := fun x => [(b1, [.int .i64 x10.2])]) (ZZ := fun x => []) F W UI Aa Aa (fun hL => Fy _ _ w (v1) b1 p0 x3 x4 x5 x6 _ h4 (W.roX h_v1 (fun g hg => EN hg)) hL) fun x a w F W => ?_
   have W : Stw ⟨Y, [], w0⟩ [(b1, [.int .i64 x10.2])] [] w := W
   refine ls F W Aa (Af F Aa).q fun a w F W => ?_
   refine Ae (Ab ?_)
   exact ⟨_, _, H, F.re ⟨rfl, Aa, Aa, Aa, trivial⟩, W⟩
  have H := AO (Bn hb) H
  rw [hb] at F
  clear hb
  refine Aq (Ab ?_)
  exact ⟨_, _, H, F.re ⟨rfl, Aa, Aa, Aa, trivial⟩, W⟩
 rintro a w ⟨x1, x2, hj, F, W⟩
 have hj := AQ hj
 subst hj
 have H := K1
 clear G1 K1
 refine Ah (Ac ?_)
 refine ls F W Aa (AB (v := Value.int .i64 x2) 0 F Aa Aa T3 Aa).q fun a w F W => ?_
 refine Ae (Ab (As (Ah (Ac ?_))))
 refine ls F W Aa (Dl F Aa Aa).q fun a w F W => ?_
 refine ls F W Aa (Af F Aa).q fun a w F W => ?_
 refine Ae (Ab ?_)
 refine Ay F Aa (fun hb => ?_) fun hb => ?_
 ·
  have H := AP (Bm hb) H
  rw [hb] at F
  clear hb
  refine Ah (Ac ?_)
  refine ls F W Aa (Ad F Aa).q fun a w F W => ?_
  iterate 2 refine ls F W Aa (Af F Aa).q fun a w F W => ?_
  refine Ae (Ab (AF (A3 ?_)))
  have H := AQ H
  subst H
  refine EU (.inl Aa) F W Aa (AD F Aa) (AD F Aa) ?_
  exact ⟨rfl, W.done⟩
 have H := AO (Bn hb) H
 rw [hb] at F
 clear hb
 refine Ah (Ac ?_)
 refine ls F W Aa (Dl F Aa Aa).q fun a w F W => ?_
 refine ls F W Aa (Af F Aa).q fun a w F W => ?_
 refine Ae (Ab ?_)
 refine Ay F Aa (fun hb => ?_) fun hb => ?_
 ·
  have H := AP (Bm hb) H
  rw [hb] at F
  clear hb
  refine Ah (Ac ?_)
  refine ls F W Aa (Ad F Aa).q fun a w F W => ?_
  iterate 2 refine ls F W Aa (Af F Aa).q fun a w F W => ?_
  refine Ae (Ab (AF (A3 ?_)))
  have H := AQ H
  subst H
  refine EU (.inl Aa) F W Aa (AD F Aa) (AD F Aa) ?_
  exact ⟨rfl, W.done⟩
 have H := AO (Bn hb) H
 rw [hb] at F
 clear hb
 refine Ah (Ac ?_)
 refine ls F W Aa (Ad F Aa).q fun a w F W => ?_
 iterate 2 refine ls F W Aa (Af F Aa).q fun a w F W => ?_
 refine Ae (Ab (AF (A3 ?_)))
 have H := AQ H
 subst H
 refine EU (.inl Aa) F W Aa (AD F Aa) (AD F Aa) ?_
 exact ⟨rfl, W.done⟩
end Go.Proofs.Ytghpabmmdenaoaa
