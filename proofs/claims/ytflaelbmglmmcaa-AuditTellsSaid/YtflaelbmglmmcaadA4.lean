/- The functions of layer 42, FF. Conditions: none. -/
import Derived.Test.YtflaelbmglmmcaadA3
namespace Go.Proofs.Ytflaelbmglmmcaa
open Go Go.RowKit
set_option linter.unusedVariables false
set_option linter.unusedSimpArgs false
set_option maxRecDepth 20000
theorem NG : type_of% Try.underlying32 := Try.underlying32
theorem IH : type_of% Try.underlying39 := Try.underlying39
theorem H7 : Has Try.prog 7 := ⟨fun args w => Al Try.func7 rfl (by decide) args w⟩
theorem RP : Bt Try.prog 39 [.int .i64 0, .int .i64 0, .int .i64 0] [(0, 1), (1, 1), (2, 1)] := ⟨⟨.agg #[.int .i64 0, .int .i64 0, .int .i64 0], by kernel_rfl, rfl⟩, ⟨_, IH, fun w => by kernel_rfl⟩⟩
theorem QR : (Try.prog.info? 39).bind (·.zero) = some (.agg #[.int .i64 0, .int .i64 0, .int .i64 0]) := by kernel_rfl
theorem QN : Ty Try.prog 39 true 3 := ⟨by kernel_rfl, by kernel_rfl⟩
abbrev E9 : Rp (Int × Int × Int) := (Rp.pair (Rp.int .i64) (Rp.pair (Rp.int .i64) (Rp.int .i64)))
def Sh (a : Int × Int × Int) : List Value := [.int .i64 a.1, .int .i64 a.2.1, .int .i64 a.2.2]
theorem OS : Fl E9 Sh := (Fl.pair Fl.int (Fl.pair Fl.int Fl.int))
theorem Oe : Et Try.prog 32 39 3 24 := Et.of NG (by kernel_rfl) (by kernel_rfl) (by kernel_rfl) (by decide)
noncomputable def C9 (p0 : List (Int × Int × Int × Int × Int × Int)) (x3 : Int) (x6 : Int × Int × Int × Int × Int × Int) : (Int × Int) → Option ((Int × Int) ⊕ Int)
  | (x9, x10) => (if x3 < x9 then ((((ix p0 x9).bind fun x14 => (if x14.2.2.1 = x6.2.2.1 then (ix p0 x9).bind fun x15 => some (decide (x15.1 = 9)) else some false)).bind fun x13 => (if x13 = true then (ix p0 x3).bind fun x16 => some x16.2.2.2.2.2 else some x10)).bind fun x12 => ((ix p0 x9).bind fun x18 => (if x18.2.2.1 = x6.2.2.1 then (ix p0 x9).bind fun x19 => some (decide (x19.1 = 10)) else some false)).bind fun x17 => (if x17 = true then (ix p0 x9).bind fun x20 => some x20.2.1 else some x12)).bind fun x11 => some (.inl (Dz (x9 - 1), x11)) else some (.inr x10))
noncomputable def DA (p0 : List (Int × Int × Int × Int × Int × Int)) : ((List (Int × Int × Int)) × Int) → Option (((List (Int × Int × Int)) × Int) ⊕ (List (Int × Int × Int)))
  | (x2, x3) => (if x3 < (p0.length : Int) then ((ix p0 x3).bind fun x5 => (if x5.1 ≠ 8 then some x2 else (ix p0 x3).bind fun x6 => (ix p0 x3).bind fun x7 => (AM (C9 p0 x3 x6) (Dz ((p0.length : Int) - 1), 1125899906842624)).bind fun x8 => (FR x2 ([(x6.2.2.1, x7.2.2.2.2.1, x8)] : List (Int × Int × Int))).bind fun x21 => some x21)).bind fun x4 => some (.inl (x4, Dz (x3 + 1))) else some (.inr x2))
noncomputable def Eb (p0 : List (Int × Int × Int × Int × Int × Int)) : Option (List (Int × Int × Int)) := (AM (DA p0) ([], 0)).bind fun x1 => some x1
theorem Gs (Y : Nat → Prop) (w0 : World) (v1 : Value) (p0 : List (Int × Int × Int × Int × Int × Int)) (r : (List (Int × Int × Int))) (H : Eb p0 = some r) (h_v1 : Sl w0 (NX []) Ej v1 p0) :
    Calls Try.prog 10 #[v1] w0 fun e w' => ∃ x : Value, e = .returned (x) ∧ Stw ⟨Y, [], w0⟩ [] [row (x) 39 E9 r] w' := by
 refine enter Try.func10 Aa Try.ntmps10 Aa fun a F => ?_
 have W := Stw.start Y w0
 unfold Eb at H
 refine Ai (Ac ?_)
 refine ls F W Aa (Ah F Aa).q fun a w F W => ?_
 refine Ad (Ab (Ai (Ac ?_)))
 refine ls F W Aa (Ah F Aa).q fun a w F W => ?_
 refine Ad (Ab ?_)
 obtain ⟨o1, G1, K1⟩ := An H
 refine AB (fun a w => ∃ x1 : List (Int × Int × Int), ∃ v2 : Value, some (x1) = some o1 ∧ Fr 87 [] [(2, .slice none 0 0), (3, v2)] a ∧ Stw ⟨Y, [], w0⟩ [] [row v2 39 E9 x1] w) ?_ ?_
 ·
  have H := G1
  clear G1 K1
  refine Ai (Ac ?_)
  refine ls F W Aa (Ah F Aa).q fun a w F W => ?_
  refine Ad (Ab (Au ?_))
  have W := W.nilRow 39 E9
  refine Bf H (fun s a w => ∃ v3 : Value, Fr 87 [] [(0, v1), (2, .slice none 0 0), (3, v3), (4, .int .i64 s.2)] a ∧ Stw ⟨Y, [], w0⟩ [] [row v3 39 E9 s.1] w) ⟨(Value.slice none 0 0), F.re ⟨rfl, Aa, Aa, Aa, trivial⟩, W⟩ fun s o a w H L2 hR => ?_
  obtain ⟨x2, x3⟩ := s
  obtain ⟨v3, F, W⟩ := hR
  have F : Fr 87 [] [(0, v1), (2, .slice none 0 0), (3, v3), (4, .int .i64 x3)] a := F
  have W : Stw ⟨Y, [], w0⟩ [] [row v3 39 E9 x2] w := W
  rw [DA] at H
  refine Ai (Ai (Ac ?_))
  iterate 2 refine ls F W Aa (Ag F Aa).q fun a w F W => ?_
  refine ls F W Aa (A6 (r := Ej) (l := p0) JE Aa F Aa (Aj h_v1)).q fun a w F W => ?_
  refine ls F W Aa (Bi F Aa Aa).q fun a w F W => ?_
  refine Ad (Ab ?_)
  refine Ax F Aa (fun hb => ?_) fun hb => ?_
  ·
   have H := AK (Bd hb) H
   rw [hb] at F
   clear hb
   refine Ap (Ab ?_)
   obtain ⟨o3, G3, K3⟩ := An H
   refine AB (fun a w => ∃ x4 : List (Int × Int × Int), ∃ v4 : Value, some (x4) = some o3 ∧ Fr 87 [] [(0, v1), (2, .slice none 0 0), (3, v4), (4, .int .i64 x3)] a ∧ Stw ⟨Y, [], w0⟩ [] [row v4 39 E9 x4] w) ?_ ?_
   ·
    have H := G3
    clear G3 K3
    refine Au (Ai (Ai (Ac ?_)))
    iterate 2 refine ls F W Aa (Ag F Aa).q fun a w F W => ?_
    obtain ⟨x5, h1, H⟩ := An H
    refine ls F W Aa (Az (r := Ej) JK F Aa Aa (Aj h_v1) h1).q fun a w F W => ?_
    refine ls F W Aa (Af Cf Aa Aa Aa T3 F Aa (Cb v1 + (x3).toNat * 6) Aa).q fun a w F W => ?_
    refine ls F W Aa (Aq (y := Value.int .i64 x5.1) (j := 0) (i := x3) F Aa Aa (Aj h_v1) h1 JJ.to T3 Aa).q fun a w F W => ?_
    refine ls F W Aa (Dx F Aa Aa).q fun a w F W => ?_
    refine Ad (Ab ?_)
    refine Ax F Aa (fun hb => ?_) fun hb => ?_
    ·
     have H := AK (Bd hb) H
     rw [hb] at F
     clear hb
     refine A8 (Bk (A9 (Ab ?_)))
     exact ⟨_, (v3), H, F.re ⟨rfl, Aa, Aa, Aa, trivial⟩, W⟩
    have H := AL (Bc hb) H
    rw [hb] at F
    clear hb
    refine Ap (Ab (Ai ?_))
    refine Mi 12 [] [0, 1, 2, 3, 4, 5, 6, 7, 8, 9, 10, 11] (fun ch a d v w h => by cases d <;> exact h) W MO (by kernel_rfl) ?_
    refine Nr ?_
    iterate 2 refine hs F Aa Aa Aa (Ag F Aa).q fun a F => ?_
    obtain ⟨x6, h2, H⟩ := An H
    refine hs F Aa Aa Aa (Az (r := Ej) JK F Aa Aa (Aj h_v1) h2).q fun a F => ?_
    refine hs F Aa Aa Aa (Af Cf Aa Aa Aa T3 F Aa (Cb v1 + (x3).toNat * 6 + 2) Aa).q fun a F => ?_
    refine hs F Aa Aa Aa (Aq (y := Value.int .i64 x6.2.2.1) (j := 2) (i := x3) F Aa Aa (Aj h_v1) h2 JJ.to T3 Aa).q fun a F => ?_
    iterate 2 refine hs F Aa Aa Aa (Ag F Aa).q fun a F => ?_
    obtain ⟨x7, h3, H⟩ := An H
    refine hs F Aa Aa Aa (Az (r := Ej) JK F Aa Aa (Aj h_v1) h3).q fun a F => ?_
    refine hs F Aa Aa Aa (Af Cf Aa Aa Aa T3 F Aa (Cb v1 + (x3).toNat * 6 + 4) Aa).q fun a F => ?_
    refine hs F Aa Aa Aa (Aq (y := Value.int .i64 x7.2.2.2.2.1) (j := 4) (i := x3) F Aa Aa (Aj h_v1) h3 JJ.to T3 Aa).q fun a F => ?_
    refine hs F Aa Aa Aa (BH (v := Value.agg #[.int .i64 x6.2.2.1, .int .i64 x7.2.2.2.2.1, .int .i64 1125899906842624]) RP F Aa Aa Aa).q fun a F => ?_
    refine ha (cs := [.int .i64 0, .int .i64 0, .int .i64 0]) F Aa Aa QR Aa fun b1 a F => ?_
    refine OQ fun w W => ?_
    have W : Stw ⟨Y, [], w0⟩ [(b1, [.int .i64 0, .int .i64 0, .int .i64 0])] [row v3 39 E9 x2] w := W
    refine BJ (vs := [.int .i64 x6.2.2.1, .int .i64 x7.2.2.2.2.1, .int .i64 1125899906842624]) (M' := [(b1, [.int .i64 x6.2.2.1, .int .i64 x7.2.2.2.2.1, .int .i64 1125899906842624])]) 0 F W Aa Aa Aa QN Aa Aa Aa Aa Aa fun w W => ?_
    refine Ad (Ab ?_)
    obtain ⟨o4, G4, K4⟩ := An H
    refine AB (fun a w => ∃ x8 : Int, some (x8) = some o4 ∧ Fr 87 [] [(0, v1), (2, .slice none 0 0), (3, v3), (4, .int .i64 x3), (5, .pointer (some ⟨b1, 0, none⟩))] a ∧ Stw ⟨Y, [], w0⟩ [(b1, [.int .i64 x6.2.2.1, .int .i64 x7.2.2.2.2.1, .int .i64 x8])] [row v3 39 E9 x2] w) ?_ ?_
    ·
     have H := G4
     clear G4 K4
     refine Ai (Ac ?_)
     refine ls F W Aa (Ag F Aa).q fun a w F W => ?_
     refine ls F W Aa (A6 (r := Ej) (l := p0) JE Aa F Aa (Aj h_v1)).q fun a w F W => ?_
     refine ls F W Aa (HE F Aa Aa Aa).q fun a w F W => ?_
     refine ls F W Aa (Ah F Aa).q fun a w F W => ?_
     refine Ad (Ab (Au ?_))
     refine Bf H (fun s a w => Fr 87 [] [(0, v1), (2, .slice none 0 0), (3, v3), (4, .int .i64 x3), (5, .pointer (some ⟨b1, 0, none⟩)), (6, .int .i64 s.1)] a ∧ Stw ⟨Y, [], w0⟩ [(b1, [.int .i64 x6.2.2.1, .int .i64 x7.2.2.2.2.1, .int .i64 s.2])] [row v3 39 E9 x2] w) ⟨F.re ⟨rfl, Aa, Aa, Aa, Aa, Aa, trivial⟩, W⟩ fun s o a w H L5 hR => ?_
     obtain ⟨x9, x10⟩ := s
     obtain ⟨F, W⟩ := hR
     have F : Fr 87 [] [(0, v1), (2, .slice none 0 0), (3, v3), (4, .int .i64 x3), (5, .pointer (some ⟨b1, 0, none⟩)), (6, .int .i64 x9)] a := F
     have W : Stw ⟨Y, [], w0⟩ [(b1, [.int .i64 x6.2.2.1, .int .i64 x7.2.2.2.2.1, .int .i64 x10])] [row v3 39 E9 x2] w := W
     rw [C9] at H
     refine Ai (Ai (Ac ?_))
     iterate 2 refine ls F W Aa (Ag F Aa).q fun a w F W => ?_
     refine ls F W Aa (E6 F Aa Aa).q fun a w F W => ?_
     refine Ad (Ab ?_)
     refine Ax F Aa (fun hb => ?_) fun hb => ?_
     ·
      have H := AK (Bd hb) H
      rw [hb] at F
      clear hb
      refine Ap (Ab ?_)
      obtain ⟨o6, G6, K6⟩ := An H
      refine AB (fun a w => ∃ x11 : Int, some (x11) = some o6 ∧ Fr 87 [] [(0, v1), (2, .slice none 0 0), (3, v3), (4, .int .i64 x3), (5, .pointer (some ⟨b1, 0, none⟩)), (6, .int .i64 x9)] a ∧ Stw ⟨Y, [], w0⟩ [(b1, [.int .i64 x6.2.2.1, .int .i64 x7.2.2.2.2.1, .int .i64 x11])] [row v3 39 E9 x2] w) ?_ ?_
      ·
       have H := G6
       clear G6 K6
       refine Au ?_
       obtain ⟨o7, G7, K7⟩ := An H
       refine AB (fun a w => ∃ x12 : Int, some (x12) = some o7 ∧ Fr 87 [] [(0, v1), (2, .slice none 0 0), (3, v3), (4, .int .i64 x3), (5, .pointer (some ⟨b1, 0, none⟩)), (6, .int .i64 x9)] a ∧ Stw ⟨Y, [], w0⟩ [(b1, [.int .i64 x6.2.2.1, .int .i64 x7.2.2.2.2.1, .int .i64 x12])] [row v3 39 E9 x2] w) ?_ ?_
       ·
        have H := G7
        clear G7 K7
        obtain ⟨o8, G8, K8⟩ := An H
        refine AB (fun a w => ∃ x13 : Bool, some (x13) = some o8 ∧ Fr 87 [] [(0, v1), (2, .slice none 0 0), (3, v3), (4, .int .i64 x3), (5, .pointer (some ⟨b1, 0, none⟩)), (6, .int .i64 x9), (53, .bool x13)] a ∧ Stw ⟨Y, [], w0⟩ [(b1, [.int .i64 x6.2.2.1, .int .i64 x7.2.2.2.2.1, .int .i64 x10])] [row v3 39 E9 x2] w) ?_ ?_
        ·
         have H := G8
         clear G8 K8
         refine BE W MO (by kernel_rfl) ?_
         iterate 2 refine qs F Aa (Ag F Aa).q fun a F => ?_
         obtain ⟨x14, h4, H⟩ := An H
         refine qs F Aa (Az (r := Ej) JK F Aa Aa (Aj h_v1) h4).q fun a F => ?_
         refine qs F Aa (Af Cf Aa Aa Aa T3 F Aa (Cb v1 + (x9).toNat * 6 + 2) Aa).q fun a F => ?_
         refine qs F Aa (Aq (y := Value.int .i64 x14.2.2.1) (j := 2) (i := x9) F Aa Aa (Aj h_v1) h4 JJ.to T3 Aa).q fun a F => ?_
         refine qs F Aa (Af IH Aa Aa Aa T3 F Aa 0 Aa).q fun a F => ?_
         refine qs F Aa (Am (v := Value.int .i64 x6.2.2.1) 0 F Aa Aa T3 Aa).q fun a F => ?_
         refine qs F Aa (Bz F Aa Aa).q fun a F => ?_
         refine qs F Aa (Ag F Aa).q fun a F => ?_
         rcases Bool.eq_false_or_eq_true (decide (x14.2.2.1 = x6.2.2.1)) with hb | hb
         ·
          have H := AK (Bd hb) H
          rw [hb] at F
          clear hb
          iterate 2 refine Bu F (Ae F Aa Aa Aa Aa) Aa (Ak Aa) (Ag F Aa).q fun a F => ?_
          obtain ⟨x15, h5, H⟩ := An H
          refine Bu F (Ae F Aa Aa Aa Aa) Aa (Ak Aa) (Az (r := Ej) JK F Aa Aa (Aj h_v1) h5).q fun a F => ?_
          refine Bu F (Ae F Aa Aa Aa Aa) Aa (Ak Aa) (Af Cf Aa Aa Aa T3 F Aa (Cb v1 + (x9).toNat * 6) Aa).q fun a F => ?_
          refine Bu F (Ae F Aa Aa Aa Aa) Aa (Ak Aa) (Aq (y := Value.int .i64 x15.1) (j := 0) (i := x9) F Aa Aa (Aj h_v1) h5 JJ.to T3 Aa).q fun a F => ?_
          refine Bu F (Ae F Aa Aa Aa Aa) Aa (Ak Aa) (Bz F Aa Aa).q fun a F => ?_
          refine qs F Aa (Ao F Aa Aa Aa).q fun a F => ?_
          refine AX fun w W => ?_
          refine Ab ?_
          exact ⟨_, H, F.re ⟨rfl, Aa, Aa, Aa, Aa, Aa, Aa, trivial⟩, W⟩
         have H := AL (Bc hb) H
         rw [hb] at F
         clear hb
         iterate 6 refine Dn F (CD F Aa Aa Aa Aa Aa) Aa Aa fun a F => ?_
         refine qs F Aa (Av F Aa Aa Aa).q fun a F => ?_
         refine AX fun w W => ?_
         refine Ab ?_
         exact ⟨_, H, F.re ⟨rfl, Aa, Aa, Aa, Aa, Aa, Aa, trivial⟩, W⟩
        rintro a w ⟨x13, hj, F, W⟩
        have hj := AN hj
        subst hj
        have H := K8
        clear G8 K8
        refine Ax F Aa (fun hb => ?_) fun hb => ?_
        ·
         have H := AK hb H
         rw [hb] at F
         clear hb
         refine Ac ?_
         iterate 2 refine ls F W Aa (Ag F Aa).q fun a w F W => ?_
         obtain ⟨x16, h6, H⟩ := An H
         refine ls F W Aa (Az (r := Ej) JK F Aa Aa (Aj h_v1) h6).q fun a w F W => ?_
         refine ls F W Aa (Af Cf Aa Aa Aa T3 F Aa (Cb v1 + (x3).toNat * 6 + 5) Aa).q fun a w F W => ?_
         refine ls F W Aa (Aq (y := Value.int .i64 x16.2.2.2.2.2) (j := 5) (i := x3) F Aa Aa (Aj h_v1) h6 JJ.to T3 Aa).q fun a w F W => ?_
         refine ls F W Aa (Af IH Aa Aa Aa T3 F Aa 2 Aa).q fun a w F W => ?_
         refine BJ (vs := [.int .i64 x16.2.2.2.2.2]) (M' := [(b1, [.int .i64 x6.2.2.1, .int .i64 x7.2.2.2.2.1, .int .i64 x16.2.2.2.2.2])]) 0 F W Aa Aa Aa T3 Aa Aa Aa Aa Aa fun w W => ?_
         refine Ad (Ab ?_)
         exact ⟨_, H, F.re ⟨rfl, Aa, Aa, Aa, Aa, Aa, trivial⟩, W⟩
        have H := AL (by rw [hb]; decide) H
        rw [hb] at F
        clear hb
        refine Ap (Ab ?_)
        exact ⟨_, H, F.re ⟨rfl, Aa, Aa, Aa, Aa, Aa, trivial⟩, W⟩
       rintro a w ⟨x12, hj, F, W⟩
       have hj := AN hj
       subst hj
       have H := K7
       clear G7 K7
       obtain ⟨o9, G9, K9⟩ := An H
       refine AB (fun a w => ∃ x17 : Bool, some (x17) = some o9 ∧ Fr 87 [] [(0, v1), (2, .slice none 0 0), (3, v3), (4, .int .i64 x3), (5, .pointer (some ⟨b1, 0, none⟩)), (6, .int .i64 x9), (75, .bool x17)] a ∧ Stw ⟨Y, [], w0⟩ [(b1, [.int .i64 x6.2.2.1, .int .i64 x7.2.2.2.2.1, .int .i64 x12])] [row v3 39 E9 x2] w) ?_ ?_
       ·
        have H := G9
        clear G9 K9
        refine BE W MO (by kernel_rfl) ?_
        iterate 2 refine qs F Aa (Ag F Aa).q fun a F => ?_
        obtain ⟨x18, h7, H⟩ := An H
        refine qs F Aa (Az (r := Ej) JK F Aa Aa (Aj h_v1) h7).q fun a F => ?_
        refine qs F Aa (Af Cf Aa Aa Aa T3 F Aa (Cb v1 + (x9).toNat * 6 + 2) Aa).q fun a F => ?_
        refine qs F Aa (Aq (y := Value.int .i64 x18.2.2.1) (j := 2) (i := x9) F Aa Aa (Aj h_v1) h7 JJ.to T3 Aa).q fun a F => ?_
        refine qs F Aa (Af IH Aa Aa Aa T3 F Aa 0 Aa).q fun a F => ?_
        refine qs F Aa (Am (v := Value.int .i64 x6.2.2.1) 0 F Aa Aa T3 Aa).q fun a F => ?_
        refine qs F Aa (Bz F Aa Aa).q fun a F => ?_
        refine qs F Aa (Ag F Aa).q fun a F => ?_
        rcases Bool.eq_false_or_eq_true (decide (x18.2.2.1 = x6.2.2.1)) with hb | hb
        ·
         have H := AK (Bd hb) H
         rw [hb] at F
         clear hb
         iterate 2 refine Bu F (Ae F Aa Aa Aa Aa) Aa (Ak Aa) (Ag F Aa).q fun a F => ?_
         obtain ⟨x19, h8, H⟩ := An H
         refine Bu F (Ae F Aa Aa Aa Aa) Aa (Ak Aa) (Az (r := Ej) JK F Aa Aa (Aj h_v1) h8).q fun a F => ?_
         refine Bu F (Ae F Aa Aa Aa Aa) Aa (Ak Aa) (Af Cf Aa Aa Aa T3 F Aa (Cb v1 + (x9).toNat * 6) Aa).q fun a F => ?_
         refine Bu F (Ae F Aa Aa Aa Aa) Aa (Ak Aa) (Aq (y := Value.int .i64 x19.1) (j := 0) (i := x9) F Aa Aa (Aj h_v1) h8 JJ.to T3 Aa).q fun a F => ?_
         refine Bu F (Ae F Aa Aa Aa Aa) Aa (Ak Aa) (Bz F Aa Aa).q fun a F => ?_
         refine qs F Aa (Ao F Aa Aa Aa).q fun a F => ?_
         refine AX fun w W => ?_
         refine Ab ?_
         exact ⟨_, H, F.re ⟨rfl, Aa, Aa, Aa, Aa, Aa, Aa, trivial⟩, W⟩
        have H := AL (Bc hb) H
        rw [hb] at F
        clear hb
        iterate 6 refine Dn F (CD F Aa Aa Aa Aa Aa) Aa Aa fun a F => ?_
        refine qs F Aa (Av F Aa Aa Aa).q fun a F => ?_
        refine AX fun w W => ?_
        refine Ab ?_
        exact ⟨_, H, F.re ⟨rfl, Aa, Aa, Aa, Aa, Aa, Aa, trivial⟩, W⟩
       rintro a w ⟨x17, hj, F, W⟩
       have hj := AN hj
       subst hj
       have H := K9
       clear G9 K9
       refine Ax F Aa (fun hb => ?_) fun hb => ?_
       ·
        have H := AK hb H
        rw [hb] at F
        clear hb
        refine Ac ?_
        iterate 2 refine ls F W Aa (Ag F Aa).q fun a w F W => ?_
        obtain ⟨x20, h9, H⟩ := An H
        refine ls F W Aa (Az (r := Ej) JK F Aa Aa (Aj h_v1) h9).q fun a w F W => ?_
        refine ls F W Aa (Af Cf Aa Aa Aa T3 F Aa (Cb v1 + (x9).toNat * 6 + 1) Aa).q fun a w F W => ?_
        refine ls F W Aa (Aq (y := Value.int .i64 x20.2.1) (j := 1) (i := x9) F Aa Aa (Aj h_v1) h9 JJ.to T3 Aa).q fun a w F W => ?_
        refine ls F W Aa (Af IH Aa Aa Aa T3 F Aa 2 Aa).q fun a w F W => ?_
        refine BJ (vs := [.int .i64 x20.2.1]) (M' := [(b1, [.int .i64 x6.2.2.1, .int .i64 x7.2.2.2.2.1, .int .i64 x20.2.1])]) 0 F W Aa Aa Aa T3 Aa Aa Aa Aa Aa fun w W => ?_
        refine Ad (AF (Ab ?_))
        exact ⟨_, H, F.re ⟨rfl, Aa, Aa, Aa, Aa, Aa, trivial⟩, W⟩
       have H := AL (by rw [hb]; decide) H
       rw [hb] at F
       clear hb
       refine Ap (AF (Ab ?_))
       exact ⟨_, H, F.re ⟨rfl, Aa, Aa, Aa, Aa, Aa, trivial⟩, W⟩
      rintro a w ⟨x11, hj, F, W⟩
      have hj := AN hj
      subst hj
      have H := K6
      clear G6 K6
      refine Ac ?_
      refine ls F W Aa (Ag F Aa).q fun a w F W => ?_
      refine ls F W Aa (HE F Aa Aa Aa).q fun a w F W => ?_
      refine ls F W Aa (Ah F Aa).q fun a w F W => ?_
      refine Ad (Ab ?_)
      exact ⟨_, H, F.re ⟨rfl, Aa, Aa, Aa, Aa, Aa, trivial⟩, W⟩
     have H := AL (Bc hb) H
     rw [hb] at F
     clear hb
     refine A8 ?_
     iterate 2 refine Bk ?_
     refine A9 (Ab ?_)
     have H := L5 _ H
     exact ⟨_, H, F.re ⟨rfl, Aa, Aa, Aa, Aa, trivial⟩, W⟩
    rintro a w ⟨x8, hj, F, W⟩
    have hj := AN hj
    subst hj
    have H := K4
    clear G4 K4
    refine Ac ?_
    refine ls F W Aa (Ag F Aa).q fun a w F W => ?_
    refine ls F W Aa (Am (v := Value.agg #[.int .i64 x6.2.2.1, .int .i64 x7.2.2.2.2.1, .int .i64 x8]) 0 F Aa Aa QN Aa).q fun a w F W => ?_
    refine Da (z := Value.agg #[.int .i64 0, .int .i64 0, .int .i64 0]) (cs := [.int .i64 x6.2.2.1, .int .i64 x7.2.2.2.2.1, .int .i64 x8]) E9 ([(x6.2.2.1, x7.2.2.2.2.1, x8)] : List (Int × Int × Int)) F W Aa Oe QR Aa Aa Aa Aa Aa Aa (OS.repL _ _ ([(x6.2.2.1, x7.2.2.2.2.1, x8)] : List (Int × Int × Int))) fun v5 a w F W => ?_
    obtain ⟨x21, h10, H⟩ := An H
    refine Cg (r := E9) (i := 1) F W Aa Oe Aa Aa Aa Aa (CE W 0 Aa) h10 Aa fun v6 a w F W => ?_
    have W : Stw ⟨Y, [], w0⟩ [(b1, [.int .i64 x6.2.2.1, .int .i64 x7.2.2.2.2.1, .int .i64 x8])] [row v6 39 E9 x21, row v5 39 E9 ([(x6.2.2.1, x7.2.2.2.2.1, x8)] : List (Int × Int × Int))] w := W
    refine ls F W Aa (Ah F Aa).q fun a w F W => ?_
    refine Ad (AF (Ab ?_))
    have W := W.sub (M' := []) (Z' := [row v6 39 E9 x21]) (List.nil_sublist _) (List.Sublist.cons_cons _ (List.nil_sublist _))
    exact ⟨_, (v6), H, F.re ⟨rfl, Aa, Aa, Aa, trivial⟩, W⟩
   rintro a w ⟨x4, v4, hj, F, W⟩
   have hj := AN hj
   subst hj
   have H := K3
   clear G3 K3
   refine Ac ?_
   refine ls F W Aa (Ag F Aa).q fun a w F W => ?_
   refine ls F W Aa (BS F Aa Aa Aa).q fun a w F W => ?_
   refine ls F W Aa (Ah F Aa).q fun a w F W => ?_
   refine Ad (Ab ?_)
   exact ⟨_, H, (v4), F.re ⟨rfl, Aa, Aa, Aa, trivial⟩, W⟩
  have H := AL (Bc hb) H
  rw [hb] at F
  clear hb
  refine A8 ?_
  iterate 2 refine Bk ?_
  refine A9 (Ab ?_)
  have H := L2 _ H
  exact ⟨_, (v3), H, F.re ⟨rfl, Aa, trivial⟩, W⟩
 rintro a w ⟨x1, v2, hj, F, W⟩
 have hj := AN hj
 subst hj
 have H := K1
 clear G1 K1
 refine Ai (Ac ?_)
 refine ls F W Aa (Ag F Aa).q fun a w F W => ?_
 refine ls F W Aa (Ah F Aa).q fun a w F W => ?_
 refine Ad (Ab (AA ?_))
 have H := AN H
 subst H
 refine AW (.inl Aa) F W Aa (As F Aa) ?_
 exact ⟨(v2), Aa, W⟩
theorem Qg : Has Try.prog 10 := ⟨fun args w => Al Try.func10 rfl (by decide) args w⟩
noncomputable def DL (p1 : Int) (x1 : (List (Int × Int × Int))) : Int → Option (Int ⊕ (Unit ⊕ Bool))
  | x2 => (if x2 < (x1.length : Int) then ((ix x1 x2).bind fun x4 => (if x4.2.1 ≤ p1 then (ix x1 x2).bind fun x5 => some (decide (p1 ≤ x5.2.2)) else some false)).bind fun x3 => (if x3 = true then some (.inr (.inr true)) else some (.inl (Dz (x2 + 1)))) else some (.inr (.inl ())))
noncomputable def DJ (p0 : List (Int × Int × Int × Int × Int × Int)) (p1 : Int) : Option Bool := (Eb p0).bind fun x1 => D6 (AM (DL p1 x1) 0) fun _ => some false
theorem Hk (Y : Nat → Prop) (w0 : World) (v1 : Value) (p0 : List (Int × Int × Int × Int × Int × Int)) (p1 : Int) (r : Bool) (H : DJ p0 p1 = some r) (h_v1 : Sl w0 (NX []) Ej v1 p0) :
    Calls Try.prog 12 #[v1, .int .i64 p1] w0 fun e w' => e = .returned (.bool r) ∧ Below w0.heap.size w0 w' := by
 refine enter Try.func12 Aa Try.ntmps12 Aa fun a F => ?_
 have W := Stw.start Y w0
 unfold DJ at H
 refine Ai (Ac ?_)
 refine ls F W Aa (Ah F Aa).q fun a w F W => ?_
 refine Ad (Ab (Ai (Ac ?_)))
 refine ls F W Aa (Ag F Aa).q fun a w F W => ?_
 obtain ⟨x1, h1, H⟩ := An H
 refine BW (Ml := []) (Zl := []) (M := []) (Z := []) (β := Value) (rv := fun x => x) (MM := fun x => []) (ZZ := fun x => [row x 39 E9 x1]) F W Qg Aa Aa (fun hL => Gs _ w (v1) p0 _ h1 ((Aj h_v1) w W).nx) fun x a w F W => ?_
 obtain ⟨v2, rfl⟩ : ∃ y, y = x := ⟨x, rfl⟩
 have W : Stw ⟨Y, [], w0⟩ [] [row v2 39 E9 x1] w := W
 refine ls F W Aa (Ah F Aa).q fun a w F W => ?_
 refine Ad (Ab ?_)
 obtain ⟨o1, G1, K1, L1⟩ := H4 H
 refine AB (fun a w => some (Sum.inl ()) = some o1 ∧ Fr 31 [] [(4, .bool false)] a ∧ Stw ⟨Y, [], w0⟩ [] [] w) ?_ ?_
 ·
  have H := G1
  clear G1 K1
  refine Ai (Ac ?_)
  refine ls F W Aa (Ah F Aa).q fun a w F W => ?_
  refine Ad (Ab (Au ?_))
  refine Bf H (fun s a w => Fr 31 [] [(1, .int .i64 p1), (4, .bool false), (5, v2), (6, .int .i64 s)] a ∧ Stw ⟨Y, [], w0⟩ [] [row v2 39 E9 x1] w) ⟨F.re ⟨rfl, Aa, Aa, Aa, trivial⟩, W⟩ fun s o a w H L2 hR => ?_
  obtain ⟨x2, rfl⟩ : ∃ x, x = s := ⟨s, rfl⟩
  obtain ⟨F, W⟩ := hR
  have F : Fr 31 [] [(1, .int .i64 p1), (4, .bool false), (5, v2), (6, .int .i64 x2)] a := F
  have W : Stw ⟨Y, [], w0⟩ [] [row v2 39 E9 x1] w := W
  rw [DL] at H
  refine Ai (Ai (Ac ?_))
  iterate 2 refine ls F W Aa (Ag F Aa).q fun a w F W => ?_
  refine ls F W Aa (A6 (r := E9) (l := x1) NG Aa F Aa (AE 0 Aa)).q fun a w F W => ?_
  refine ls F W Aa (Bi F Aa Aa).q fun a w F W => ?_
  refine Ad (Ab ?_)
  refine Ax F Aa (fun hb => ?_) fun hb => ?_
  ·
   have H := AK (Bd hb) H
   rw [hb] at F
   clear hb
   refine Ap (Ab (Ai (Au ?_)))
   obtain ⟨o3, G3, K3⟩ := An H
   refine AB (fun a w => ∃ x3 : Bool, some (x3) = some o3 ∧ Fr 31 [] [(1, .int .i64 p1), (4, .bool false), (5, v2), (6, .int .i64 x2), (30, .bool x3)] a ∧ Stw ⟨Y, [], w0⟩ [] [row v2 39 E9 x1] w) ?_ ?_
   ·
    have H := G3
    clear G3 K3
    refine Ac ?_
    iterate 2 refine ls F W Aa (Ag F Aa).q fun a w F W => ?_
    obtain ⟨x4, h2, H⟩ := An H
    refine ls F W Aa (Az (r := E9) Oe F Aa Aa (AE 0 Aa) h2).q fun a w F W => ?_
    refine ls F W Aa (Af IH Aa Aa Aa T3 F Aa (Cb v2 + (x2).toNat * 3 + 1) Aa).q fun a w F W => ?_
    refine ls F W Aa (Aq (y := Value.int .i64 x4.2.1) (j := 1) (i := x2) F Aa Aa (AE 0 Aa) h2 OS.to T3 Aa).q fun a w F W => ?_
    refine ls F W Aa (Ag F Aa).q fun a w F W => ?_
    refine ls F W Aa (Is F Aa Aa).q fun a w F W => ?_
    refine ls F W Aa (Ag F Aa).q fun a w F W => ?_
    rcases Bool.eq_false_or_eq_true (decide (x4.2.1 ≤ p1)) with hb | hb
    ·
     have H := AK (Bd hb) H
     rw [hb] at F
     clear hb
     iterate 2 refine Ay F W (Ae F Aa Aa Aa Aa) Aa (Ak Aa) (Ag F Aa).q fun a w F W => ?_
     obtain ⟨x5, h3, H⟩ := An H
     refine Ay F W (Ae F Aa Aa Aa Aa) Aa (Ak Aa) (Az (r := E9) Oe F Aa Aa (AE 0 Aa) h3).q fun a w F W => ?_
     refine Ay F W (Ae F Aa Aa Aa Aa) Aa (Ak Aa) (Af IH Aa Aa Aa T3 F Aa (Cb v2 + (x2).toNat * 3 + 2) Aa).q fun a w F W => ?_
     refine Ay F W (Ae F Aa Aa Aa Aa) Aa (Ak Aa) (Aq (y := Value.int .i64 x5.2.2) (j := 2) (i := x2) F Aa Aa (AE 0 Aa) h3 OS.to T3 Aa).q fun a w F W => ?_
     refine Ay F W (Ae F Aa Aa Aa Aa) Aa (Ak Aa) (Ag F Aa).q fun a w F W => ?_
     refine Ay F W (Ae F Aa Aa Aa Aa) Aa (Ak Aa) (DH F Aa Aa).q fun a w F W => ?_
     refine ls F W Aa (Ao F Aa Aa Aa).q fun a w F W => ?_
     refine Ad (Ab ?_)
     exact ⟨_, H, F.re ⟨rfl, Aa, Aa, Aa, Aa, trivial⟩, W⟩
    have H := AL (Bc hb) H
    rw [hb] at F
    clear hb
    iterate 7 refine B4 F Aa Aa Aa Aa Aa Aa Aa fun a F => ?_
    refine ls F W Aa (Av F Aa Aa Aa).q fun a w F W => ?_
    refine Ad (Ab ?_)
    exact ⟨_, H, F.re ⟨rfl, Aa, Aa, Aa, Aa, trivial⟩, W⟩
   rintro a w ⟨x3, hj, F, W⟩
   have hj := AN hj
   subst hj
   have H := K3
   clear G3 K3
   refine Ax F Aa (fun hb => ?_) fun hb => ?_
   ·
    have H := AK hb H
    rw [hb] at F
    clear hb
    refine Ai (Ac ?_)
    refine ls F W Aa (Ah F Aa).q fun a w F W => ?_
    refine Ad (Ab (AA (AH ?_)))
    iterate 2 refine AD ?_
    refine AH (AD ?_)
    have H := L2 _ H
    have H := L1 _ H
    have H := AN H
    subst H
    refine AW (.inl Aa) F W Aa (As F Aa) ?_
    exact ⟨rfl, W.done⟩
   have H := AL (by rw [hb]; decide) H
   rw [hb] at F
   clear hb
   refine Ap (AF (Ab (Ac ?_)))
   refine ls F W Aa (Ag F Aa).q fun a w F W => ?_
   refine ls F W Aa (BS F Aa Aa Aa).q fun a w F W => ?_
   refine ls F W Aa (Ah F Aa).q fun a w F W => ?_
   refine Ad (Ab ?_)
   exact ⟨_, H, F.re ⟨rfl, Aa, Aa, Aa, trivial⟩, W⟩
  have H := AL (Bc hb) H
  rw [hb] at F
  clear hb
  refine A8 ?_
  iterate 2 refine Bk ?_
  refine A9 (Ab ?_)
  have W := W.sub (M' := []) (Z' := []) (List.Sublist.refl _) (List.nil_sublist _)
  have H := L2 _ H
  exact ⟨H, F.re ⟨rfl, trivial⟩, W⟩
 rintro a w ⟨hj, F, W⟩
 have H := K1 _ hj
 clear hj G1 K1 L1
 refine Ai (Ac ?_)
 refine ls F W Aa (Ah F Aa).q fun a w F W => ?_
 refine Ad (Ab (AA ?_))
 have H := AN H
 subst H
 refine AW (.inl Aa) F W Aa (As F Aa) ?_
 exact ⟨rfl, W.done⟩
theorem QG : Has Try.prog 12 := ⟨fun args w => Al Try.func12 rfl (by decide) args w⟩
noncomputable def CQ (p0 : List (Int × Int × Int × Int × Int × Int)) (p1 : Int) (x1 : (List (Int × Int × Int))) (x4 : Int) : (Int × Int) → Option ((Int × Int) ⊕ Int)
  | (x6, x7) => (if x7 < (x1.length : Int) then (((ix p0 x4).bind fun x10 => (if x10.1 = 9 then (ix x1 x7).bind fun x11 => (ix p0 x4).bind fun x12 => (if x11.1 = x12.2.2.1 then (ix x1 x7).bind fun x13 => some (decide (x13.2.2 < p1)) else some false) else some false)).bind fun x9 => (if x9 = true then (ix p0 x4).bind fun x14 => some x14.2.2.2.2.1 else some x6)).bind fun x8 => some (.inl (x8, Dz (x7 + 1))) else some (.inr x6))
noncomputable def Dh (p0 : List (Int × Int × Int × Int × Int × Int)) (p1 : Int) (x1 : (List (Int × Int × Int))) : (Int × Int) → Option ((Int × Int) ⊕ Int)
  | (x3, x4) => (if x4 < (p0.length : Int) then (AM (CQ p0 p1 x1 x4) (x3, 0)).bind fun x5 => some (.inl (x5, Dz (x4 + 1))) else some (.inr x3))
noncomputable def DO (p0 : List (Int × Int × Int × Int × Int × Int)) (p1 : Int) : Option Int := (Eb p0).bind fun x1 => (AM (Dh p0 p1 x1) (0, 0)).bind fun x2 => some x2
theorem He (Y : Nat → Prop) (w0 : World) (v1 : Value) (p0 : List (Int × Int × Int × Int × Int × Int)) (p1 : Int) (r : Int) (H : DO p0 p1 = some r) (h_v1 : Sl w0 (NX []) Ej v1 p0) :
    Calls Try.prog 14 #[v1, .int .i64 p1] w0 fun e w' => e = .returned (.int .i64 r) ∧ Below w0.heap.size w0 w' := by
 refine enter Try.func14 Aa Try.ntmps14 Aa fun a F => ?_
 have W := Stw.start Y w0
 unfold DO at H
 refine Ai (Ac ?_)
 refine ls F W Aa (Ah F Aa).q fun a w F W => ?_
 refine Ad (Ab (Ai (Ac ?_)))
 refine ls F W Aa (Ag F Aa).q fun a w F W => ?_
 obtain ⟨x1, h1, H⟩ := An H
 refine BW (Ml := []) (Zl := []) (M := []) (Z := []) (β := Value) (rv := fun x => x) (MM := fun x => []) (ZZ := fun x => [row x 39 E9 x1]) F W Qg Aa Aa (fun hL => Gs _ w (v1) p0 _ h1 ((Aj h_v1) w W).nx) fun x a w F W => ?_
 obtain ⟨v2, rfl⟩ : ∃ y, y = x := ⟨x, rfl⟩
 have W : Stw ⟨Y, [], w0⟩ [] [row v2 39 E9 x1] w := W
 refine ls F W Aa (Ah F Aa).q fun a w F W => ?_
 refine Ad (Ab (Ai (Ac ?_)))
 refine ls F W Aa (Ah F Aa).q fun a w F W => ?_
 refine Ad (Ab ?_)
 obtain ⟨o1, G1, K1⟩ := An H
 refine AB (fun a w => ∃ x2 : Int, some (x2) = some o1 ∧ Fr 57 [] [(4, .int .i64 0), (6, .int .i64 x2)] a ∧ Stw ⟨Y, [], w0⟩ [] [] w) ?_ ?_
 ·
  have H := G1
  clear G1 K1
  refine Ai (Ac ?_)
  refine ls F W Aa (Ah F Aa).q fun a w F W => ?_
  refine Ad (Ab (Au ?_))
  refine Bf H (fun s a w => Fr 57 [] [(0, v1), (1, .int .i64 p1), (4, .int .i64 0), (5, v2), (6, .int .i64 s.1), (7, .int .i64 s.2)] a ∧ Stw ⟨Y, [], w0⟩ [] [row v2 39 E9 x1] w) ⟨F.re ⟨rfl, Aa, Aa, Aa, Aa, Aa, trivial⟩, W⟩ fun s o a w H L2 hR => ?_
  obtain ⟨x3, x4⟩ := s
  obtain ⟨F, W⟩ := hR
  have F : Fr 57 [] [(0, v1), (1, .int .i64 p1), (4, .int .i64 0), (5, v2), (6, .int .i64 x3), (7, .int .i64 x4)] a := F
  have W : Stw ⟨Y, [], w0⟩ [] [row v2 39 E9 x1] w := W
  rw [Dh] at H
  refine Ai (Ai (Ac ?_))
  iterate 2 refine ls F W Aa (Ag F Aa).q fun a w F W => ?_
  refine ls F W Aa (A6 (r := Ej) (l := p0) JE Aa F Aa (Aj h_v1)).q fun a w F W => ?_
  refine ls F W Aa (Bi F Aa Aa).q fun a w F W => ?_
  refine Ad (Ab ?_)
  refine Ax F Aa (fun hb => ?_) fun hb => ?_
  ·
   have H := AK (Bd hb) H
   rw [hb] at F
   clear hb
   refine Ap (Ab ?_)
   obtain ⟨o3, G3, K3⟩ := An H
   refine AB (fun a w => ∃ x5 : Int, some (x5) = some o3 ∧ Fr 57 [] [(0, v1), (1, .int .i64 p1), (4, .int .i64 0), (5, v2), (6, .int .i64 x5), (7, .int .i64 x4)] a ∧ Stw ⟨Y, [], w0⟩ [] [row v2 39 E9 x1] w) ?_ ?_
   ·
    have H := G3
    clear G3 K3
    refine Au (Ai (Ac ?_))
    refine ls F W Aa (Ah F Aa).q fun a w F W => ?_
    refine Ad (Ab (Au ?_))
    refine Bf H (fun s a w => Fr 57 [] [(0, v1), (1, .int .i64 p1), (4, .int .i64 0), (5, v2), (6, .int .i64 s.1), (7, .int .i64 x4), (8, .int .i64 s.2)] a ∧ Stw ⟨Y, [], w0⟩ [] [row v2 39 E9 x1] w) ⟨F.re ⟨rfl, Aa, Aa, Aa, Aa, Aa, Aa, trivial⟩, W⟩ fun s o a w H L4 hR => ?_
    obtain ⟨x6, x7⟩ := s
    obtain ⟨F, W⟩ := hR
    have F : Fr 57 [] [(0, v1), (1, .int .i64 p1), (4, .int .i64 0), (5, v2), (6, .int .i64 x6), (7, .int .i64 x4), (8, .int .i64 x7)] a := F
    have W : Stw ⟨Y, [], w0⟩ [] [row v2 39 E9 x1] w := W
    rw [CQ] at H
    refine Ai (Ai (Ac ?_))
    iterate 2 refine ls F W Aa (Ag F Aa).q fun a w F W => ?_
    refine ls F W Aa (A6 (r := E9) (l := x1) NG Aa F Aa (AE 0 Aa)).q fun a w F W => ?_
    refine ls F W Aa (Bi F Aa Aa).q fun a w F W => ?_
    refine Ad (Ab ?_)
    refine Ax F Aa (fun hb => ?_) fun hb => ?_
    ·
     have H := AK (Bd hb) H
     rw [hb] at F
     clear hb
     refine Ap (Ab ?_)
     obtain ⟨o5, G5, K5⟩ := An H
     refine AB (fun a w => ∃ x8 : Int, some (x8) = some o5 ∧ Fr 57 [] [(0, v1), (1, .int .i64 p1), (4, .int .i64 0), (5, v2), (6, .int .i64 x8), (7, .int .i64 x4), (8, .int .i64 x7)] a ∧ Stw ⟨Y, [], w0⟩ [] [row v2 39 E9 x1] w) ?_ ?_
     ·
      have H := G5
      clear G5 K5
      refine Au ?_
      obtain ⟨o6, G6, K6⟩ := An H
      refine AB (fun a w => ∃ x9 : Bool, some (x9) = some o6 ∧ Fr 57 [] [(0, v1), (1, .int .i64 p1), (4, .int .i64 0), (5, v2), (6, .int .i64 x6), (7, .int .i64 x4), (8, .int .i64 x7), (50, .bool x9)] a ∧ Stw ⟨Y, [], w0⟩ [] [row v2 39 E9 x1] w) ?_ ?_
      ·
       have H := G6
       clear G6 K6
       refine BE W MO (by kernel_rfl) ?_
       iterate 2 refine qs F Aa (Ag F Aa).q fun a F => ?_
       obtain ⟨x10, h2, H⟩ := An H
       refine qs F Aa (Az (r := Ej) JK F Aa Aa (Aj h_v1) h2).q fun a F => ?_
       refine qs F Aa (Af Cf Aa Aa Aa T3 F Aa (Cb v1 + (x4).toNat * 6) Aa).q fun a F => ?_
       refine qs F Aa (Aq (y := Value.int .i64 x10.1) (j := 0) (i := x4) F Aa Aa (Aj h_v1) h2 JJ.to T3 Aa).q fun a F => ?_
       refine qs F Aa (Bz F Aa Aa).q fun a F => ?_
       refine qs F Aa (Ag F Aa).q fun a F => ?_
       rcases Bool.eq_false_or_eq_true (decide (x10.1 = 9)) with hb | hb
       ·
        have H := AK (Bd hb) H
        rw [hb] at F
        clear hb
        iterate 2 refine Bu F (Ae F Aa Aa Aa Aa) Aa (Ak Aa) (Ag F Aa).q fun a F => ?_
        obtain ⟨x11, h3, H⟩ := An H
        refine Bu F (Ae F Aa Aa Aa Aa) Aa (Ak Aa) (Az (r := E9) Oe F Aa Aa (AE 0 Aa) h3).q fun a F => ?_
        refine Bu F (Ae F Aa Aa Aa Aa) Aa (Ak Aa) (Af IH Aa Aa Aa T3 F Aa (Cb v2 + (x7).toNat * 3) Aa).q fun a F => ?_
        refine Bu F (Ae F Aa Aa Aa Aa) Aa (Ak Aa) (Aq (y := Value.int .i64 x11.1) (j := 0) (i := x7) F Aa Aa (AE 0 Aa) h3 OS.to T3 Aa).q fun a F => ?_
        iterate 2 refine Bu F (Ae F Aa Aa Aa Aa) Aa (Ak Aa) (Ag F Aa).q fun a F => ?_
        obtain ⟨x12, h4, H⟩ := An H
        refine Bu F (Ae F Aa Aa Aa Aa) Aa (Ak Aa) (Az (r := Ej) JK F Aa Aa (Aj h_v1) h4).q fun a F => ?_
        refine Bu F (Ae F Aa Aa Aa Aa) Aa (Ak Aa) (Af Cf Aa Aa Aa T3 F Aa (Cb v1 + (x4).toNat * 6 + 2) Aa).q fun a F => ?_
        refine Bu F (Ae F Aa Aa Aa Aa) Aa (Ak Aa) (Aq (y := Value.int .i64 x12.2.2.1) (j := 2) (i := x4) F Aa Aa (Aj h_v1) h4 JJ.to T3 Aa).q fun a F => ?_
        refine Bu F (Ae F Aa Aa Aa Aa) Aa (Ak Aa) (Bz F Aa Aa).q fun a F => ?_
        refine qs F Aa (Ao F Aa Aa Aa).q fun a F => ?_
        refine qs F Aa (Ag F Aa).q fun a F => ?_
        rcases Bool.eq_false_or_eq_true (decide (x11.1 = x12.2.2.1)) with hb | hb
        ·
         have H := AK (Bd hb) H
         rw [hb] at F
         clear hb
         iterate 2 refine Bu F (Ae F Aa Aa Aa Aa) Aa (Ak Aa) (Ag F Aa).q fun a F => ?_
         obtain ⟨x13, h5, H⟩ := An H
         refine Bu F (Ae F Aa Aa Aa Aa) Aa (Ak Aa) (Az (r := E9) Oe F Aa Aa (AE 0 Aa) h5).q fun a F => ?_
         refine Bu F (Ae F Aa Aa Aa Aa) Aa (Ak Aa) (Af IH Aa Aa Aa T3 F Aa (Cb v2 + (x7).toNat * 3 + 2) Aa).q fun a F => ?_
         refine Bu F (Ae F Aa Aa Aa Aa) Aa (Ak Aa) (Aq (y := Value.int .i64 x13.2.2) (j := 2) (i := x7) F Aa Aa (AE 0 Aa) h5 OS.to T3 Aa).q fun a F => ?_
         refine Bu F (Ae F Aa Aa Aa Aa) Aa (Ak Aa) (Ag F Aa).q fun a F => ?_
         refine Bu F (Ae F Aa Aa Aa Aa) Aa (Ak Aa) (Bi F Aa Aa).q fun a F => ?_
         refine qs F Aa (Ao F Aa Aa Aa).q fun a F => ?_
         refine AX fun w W => ?_
         refine Ab ?_
         exact ⟨_, H, F.re ⟨rfl, Aa, Aa, Aa, Aa, Aa, Aa, Aa, trivial⟩, W⟩
        have H := AL (Bc hb) H
        rw [hb] at F
        clear hb
        iterate 7 refine Dn F (CD F Aa Aa Aa Aa Aa) Aa Aa fun a F => ?_
        refine qs F Aa (Av F Aa Aa Aa).q fun a F => ?_
        refine AX fun w W => ?_
        refine Ab ?_
        exact ⟨_, H, F.re ⟨rfl, Aa, Aa, Aa, Aa, Aa, Aa, Aa, trivial⟩, W⟩
       have H := AL (Bc hb) H
       rw [hb] at F
       clear hb
       iterate 11 refine Dn F (CD F Aa Aa Aa Aa Aa) Aa Aa fun a F => ?_
       refine qs F Aa (Av F Aa Aa Aa).q fun a F => ?_
       refine qs F Aa (Ag F Aa).q fun a F => ?_
       iterate 7 refine Dn F (CD F Aa Aa Aa Aa Aa) Aa Aa fun a F => ?_
       refine qs F Aa (Av F Aa Aa Aa).q fun a F => ?_
       refine AX fun w W => ?_
       refine Ab ?_
       exact ⟨_, H, F.re ⟨rfl, Aa, Aa, Aa, Aa, Aa, Aa, Aa, trivial⟩, W⟩
      rintro a w ⟨x9, hj, F, W⟩
      have hj := AN hj
      subst hj
      have H := K6
      clear G6 K6
      refine Ax F Aa (fun hb => ?_) fun hb => ?_
      ·
       have H := AK hb H
       rw [hb] at F
       clear hb
       refine Ac ?_
       iterate 2 refine ls F W Aa (Ag F Aa).q fun a w F W => ?_
       obtain ⟨x14, h6, H⟩ := An H
       refine ls F W Aa (Az (r := Ej) JK F Aa Aa (Aj h_v1) h6).q fun a w F W => ?_
       refine ls F W Aa (Af Cf Aa Aa Aa T3 F Aa (Cb v1 + (x4).toNat * 6 + 4) Aa).q fun a w F W => ?_
       refine ls F W Aa (Aq (y := Value.int .i64 x14.2.2.2.2.1) (j := 4) (i := x4) F Aa Aa (Aj h_v1) h6 JJ.to T3 Aa).q fun a w F W => ?_
       refine ls F W Aa (Ah F Aa).q fun a w F W => ?_
       refine Ad (AF (Ab ?_))
       exact ⟨_, H, F.re ⟨rfl, Aa, Aa, Aa, Aa, Aa, Aa, trivial⟩, W⟩
      have H := AL (by rw [hb]; decide) H
      rw [hb] at F
      clear hb
      refine Ap (AF (Ab ?_))
      exact ⟨_, H, F.re ⟨rfl, Aa, Aa, Aa, Aa, Aa, Aa, trivial⟩, W⟩
     rintro a w ⟨x8, hj, F, W⟩
     have hj := AN hj
     subst hj
     have H := K5
     clear G5 K5
     refine Ac ?_
     refine ls F W Aa (Ag F Aa).q fun a w F W => ?_
     refine ls F W Aa (BS F Aa Aa Aa).q fun a w F W => ?_
     refine ls F W Aa (Ah F Aa).q fun a w F W => ?_
     refine Ad (Ab ?_)
     exact ⟨_, H, F.re ⟨rfl, Aa, Aa, Aa, Aa, Aa, Aa, trivial⟩, W⟩
    have H := AL (Bc hb) H
    rw [hb] at F
    clear hb
    refine A8 ?_
    iterate 2 refine Bk ?_
    refine A9 (AF (Ab ?_))
    have H := L4 _ H
    exact ⟨_, H, F.re ⟨rfl, Aa, Aa, Aa, Aa, Aa, trivial⟩, W⟩
   rintro a w ⟨x5, hj, F, W⟩
   have hj := AN hj
   subst hj
   have H := K3
   clear G3 K3
   refine Ac ?_
   refine ls F W Aa (Ag F Aa).q fun a w F W => ?_
   refine ls F W Aa (BS F Aa Aa Aa).q fun a w F W => ?_
   refine ls F W Aa (Ah F Aa).q fun a w F W => ?_
   refine Ad (Ab ?_)
   exact ⟨_, H, F.re ⟨rfl, Aa, Aa, Aa, Aa, Aa, trivial⟩, W⟩
  have H := AL (Bc hb) H
  rw [hb] at F
  clear hb
  refine A8 ?_
  iterate 2 refine Bk ?_
  refine A9 (Ab ?_)
  have W := W.sub (M' := []) (Z' := []) (List.Sublist.refl _) (List.nil_sublist _)
  have H := L2 _ H
  exact ⟨_, H, F.re ⟨rfl, Aa, trivial⟩, W⟩
 rintro a w ⟨x2, hj, F, W⟩
 have hj := AN hj
 subst hj
 have H := K1
 clear G1 K1
 refine Ai (Ac ?_)
 refine ls F W Aa (Ag F Aa).q fun a w F W => ?_
 refine ls F W Aa (Ah F Aa).q fun a w F W => ?_
 refine Ad (Ab (AA ?_))
 have H := AN H
 subst H
 refine AW (.inl Aa) F W Aa (As F Aa) ?_
 exact ⟨rfl, W.done⟩
theorem Qx : type_of% Try.underlying74 := Try.underlying74
theorem QX : Has Try.prog 14 := ⟨fun args w => Al Try.func14 rfl (by decide) args w⟩
theorem Z9 : (Try.prog.info? 9).bind (·.zero) = some (.string (bs ([] : List UInt8))) := by kernel_rfl
theorem QE : Et Try.prog 74 9 1 16 := Et.of Qx (by kernel_rfl) (by kernel_rfl) (by kernel_rfl) (by decide)
theorem T9 : Ty Try.prog 9 false 1 := ⟨by kernel_rfl, by kernel_rfl⟩
noncomputable def GL (p0 : Int) : Option (List UInt8) := (if (decide (p0 < 1) || decide (4 < p0)) = true then some ([63] : List UInt8) else (ix ([([116, 119, 105, 99, 101] : List UInt8), ([108, 111, 115, 116] : List UInt8), ([97, 115, 116, 114, 97, 121] : List UInt8), ([111, 116, 104, 101, 114] : List UInt8)] : List (List UInt8)) (Dz (p0 - 1))).bind fun x1 => some x1)
theorem LT (Y : Nat → Prop) (w0 : World)  (p0 : Int) (r : List UInt8) (H : GL p0 = some r)  :
    Calls Try.prog 16 #[.int .i64 p0] w0 fun e w' => e = .returned (.string (bs r)) ∧ Below w0.heap.size w0 w' := by
 refine enter Try.func16 Aa Try.ntmps16 Aa fun a F => ?_
 have W := Stw.start Y w0
 unfold GL at H
 refine Ai (Ac ?_)
 refine ls F W Aa (Ah (v := Value.string (bs ([] : List UInt8))) F Aa).q fun a w F W => ?_
 refine Ad (Ab (Ai ?_))
 refine AB (fun a w => Fr 14 [] [(0, .int .i64 p0), (2, .string (bs ([] : List UInt8))), (8, .bool (decide (p0 < 1) || decide (4 < p0)))] a ∧ Stw ⟨Y, [], w0⟩ [] [] w) ?_ ?_
 ·
  refine Ac ?_
  refine ls F W Aa (Ag F Aa).q fun a w F W => ?_
  refine ls F W Aa (Bi F Aa Aa).q fun a w F W => ?_
  refine ls F W Aa (Ag F Aa).q fun a w F W => ?_
  rcases Bool.eq_false_or_eq_true (decide (p0 < 1)) with hb0 | hb0
  ·
   rw [hb0] at F
   iterate 2 refine B4 F Aa Aa Aa Aa Aa Aa Aa fun a F => ?_
   refine ls F W Aa (Ao F Aa Aa Aa).q fun a w F W => ?_
   refine Ad (Ab ?_)
   exact ⟨F.re ⟨rfl, Aa, (by show some (Value.bool true) = some (Value.bool (decide (p0 < 1) || decide (4 < p0))); try rw [hb0]; all_goals simp only [Bool.not_true, Bool.not_false, Bool.true_and, Bool.false_and, Bool.true_or, Bool.false_or, Bool.and_true, Bool.or_false, cond_true, cond_false]), trivial⟩, W⟩
  rw [hb0] at F
  refine Ay F W (Ae F Aa Aa Aa Aa) Aa (Ak Aa) (Ag F Aa).q fun a w F W => ?_
  refine Ay F W (Ae F Aa Aa Aa Aa) Aa (Ak Aa) (E6 F Aa Aa).q fun a w F W => ?_
  refine ls F W Aa (Av F Aa Aa Aa).q fun a w F W => ?_
  refine Ad (Ab ?_)
  exact ⟨F.re ⟨rfl, Aa, (by show some (Value.bool (decide (4 < p0))) = some (Value.bool (decide (p0 < 1) || decide (4 < p0))); try rw [hb0]; all_goals simp only [Bool.not_true, Bool.not_false, Bool.true_and, Bool.false_and, Bool.true_or, Bool.false_or, Bool.and_true, Bool.or_false, cond_true, cond_false]), trivial⟩, W⟩
 rintro a w ⟨F, W⟩
 refine Ax F Aa (fun hb => ?_) fun hb => ?_
 ·
  have H := AK hb H
  rw [hb] at F
  clear hb
  refine Ai (Ac ?_)
  refine ls F W Aa (Ah (v := Value.string (bs ([63] : List UInt8))) F Aa).q fun a w F W => ?_
  refine Ad (Ab (AA (AD ?_)))
  have H := AN H
  subst H
  refine AW (.inl Aa) F W Aa (As F Aa) ?_
  exact ⟨rfl, W.done⟩
 have H := AL (by rw [hb]; decide) H
 rw [hb] at F
 clear hb
 refine Ap (Ab (Ai (Ac ?_)))
 refine Da (z := Value.string (bs ([] : List UInt8))) (cs := [.string (bs ([116, 119, 105, 99, 101] : List UInt8)), .string (bs ([108, 111, 115, 116] : List UInt8)), .string (bs ([97, 115, 116, 114, 97, 121] : List UInt8)), .string (bs ([111, 116, 104, 101, 114] : List UInt8))]) Rp.str ([([116, 119, 105, 99, 101] : List UInt8), ([108, 111, 115, 116] : List UInt8), ([97, 115, 116, 114, 97, 121] : List UInt8), ([111, 116, 104, 101, 114] : List UInt8)] : List (List UInt8)) F W Aa QE Z9 Aa Aa Aa Aa Aa Aa (Fl.str.repL _ _ ([([116, 119, 105, 99, 101] : List UInt8), ([108, 111, 115, 116] : List UInt8), ([97, 115, 116, 114, 97, 121] : List UInt8), ([111, 116, 104, 101, 114] : List UInt8)] : List (List UInt8))) fun v1 a w F W => ?_
 refine ls F W Aa (Ag F Aa).q fun a w F W => ?_
 refine ls F W Aa (HE F Aa Aa Aa).q fun a w F W => ?_
 obtain ⟨x1, h1, H⟩ := An H
 refine ls F W Aa (Az (r := Rp.str) QE F Aa Aa (AE 0 Aa) h1).q fun a w F W => ?_
 refine ls F W Aa (Aq (y := Value.string (bs x1)) (j := 0) (i := Dz (p0 - 1)) F Aa Aa (AE 0 Aa) h1 Fl.str.to T9 Aa).q fun a w F W => ?_
 refine ls F W Aa (Ah F Aa).q fun a w F W => ?_
 refine Ad (Ab (AA ?_))
 have H := AN H
 subst H
 refine AW (.inl Aa) F W Aa (As F Aa) ?_
 exact ⟨rfl, W.done⟩
theorem O9 : type_of% Try.underlying81 := Try.underlying81
theorem ER : type_of% Try.underlying83 := Try.underlying83
theorem Rs : Has Try.prog 16 := ⟨fun args w => Al Try.func16 rfl (by decide) args w⟩
theorem Ry : Bt Try.prog 83 [.int .i64 0, .int .i64 0, .int .i64 0, .int .i64 0, .slice none 0 0, .int .i64 0, .int .i64 0, .int .i64 0] [(0, 1), (1, 1), (2, 1), (3, 1), (4, 1), (5, 1), (6, 1), (7, 1)] := ⟨⟨.agg #[.int .i64 0, .int .i64 0, .int .i64 0, .int .i64 0, .slice none 0 0, .int .i64 0, .int .i64 0, .int .i64 0], by kernel_rfl, rfl⟩, ⟨_, ER, fun w => by kernel_rfl⟩⟩
theorem QJ : (Try.prog.info? 83).bind (·.zero) = some (.agg #[.int .i64 0, .int .i64 0, .int .i64 0, .int .i64 0, .slice none 0 0, .int .i64 0, .int .i64 0, .int .i64 0]) := by kernel_rfl
abbrev Cm : Dp (Int × Int × Int × Int × (Value × Nat × List Int) × Int × Int × Int) := (Dp.pair (Dp.fl 1 (fun a => [.int .i64 a]) (fun _ => rfl)) (Dp.pair (Dp.fl 1 (fun a => [.int .i64 a]) (fun _ => rfl)) (Dp.pair (Dp.fl 1 (fun a => [.int .i64 a]) (fun _ => rfl)) (Dp.pair (Dp.fl 1 (fun a => [.int .i64 a]) (fun _ => rfl)) (Dp.pair (Dp.sl 3 (Rp.int .i64)) (Dp.pair (Dp.fl 1 (fun a => [.int .i64 a]) (fun _ => rfl)) (Dp.pair (Dp.fl 1 (fun a => [.int .i64 a]) (fun _ => rfl)) (Dp.fl 1 (fun a => [.int .i64 a]) (fun _ => rfl)))))))))
abbrev CF (p : Int × Int × Int × Int × (Value × Nat × List Int) × Int × Int × Int) : Int × Int × Int × Int × (Nat × List Int) × Int × Int × Int := (p.1, p.2.1, p.2.2.1, p.2.2.2.1, p.2.2.2.2.1.2, p.2.2.2.2.2.1, p.2.2.2.2.2.2.1, p.2.2.2.2.2.2.2)
abbrev JI : Rp (Int × Int × Int × Int × List Int × Int × Int × Int) := (Rp.pair (Rp.int .i64) (Rp.pair (Rp.int .i64) (Rp.pair (Rp.int .i64) (Rp.pair (Rp.int .i64) (Rp.pair (Rp.slice (Rp.int .i64)) (Rp.pair (Rp.int .i64) (Rp.pair (Rp.int .i64) (Rp.int .i64))))))))
abbrev Nv : (Int × Int × Int × Int × (Nat × List Int) × Int × Int × Int) → Option (Int × Int × Int × Int × List Int × Int × Int × Int) := (fun (p : Int × Int × Int × Int × (Nat × List Int) × Int × Int × Int) => (some p.1).bind fun a => ((fun (p : Int × Int × Int × (Nat × List Int) × Int × Int × Int) => (some p.1).bind fun a => ((fun (p : Int × Int × (Nat × List Int) × Int × Int × Int) => (some p.1).bind fun a => ((fun (p : Int × (Nat × List Int) × Int × Int × Int) => (some p.1).bind fun a => ((fun (p : (Nat × List Int) × Int × Int × Int) => (P1 p.1).bind fun a => ((fun (p : Int × Int × Int) => (some p.1).bind fun a => ((fun (p : Int × Int) => (some p.1).bind fun a => (some p.2).bind fun b => some (a, b)) p.2).bind fun b => some (a, b)) p.2).bind fun b => some (a, b)) p.2).bind fun b => some (a, b)) p.2).bind fun b => some (a, b)) p.2).bind fun b => some (a, b)) p.2).bind fun b => some (a, b))
theorem Qi : Rst Cm JI CF Nv := (Rst.pair (Rst.flat Fl.int (fun _ => rfl) rfl) (Rst.pair (Rst.flat Fl.int (fun _ => rfl) rfl) (Rst.pair (Rst.flat Fl.int (fun _ => rfl) rfl) (Rst.pair (Rst.flat Fl.int (fun _ => rfl) rfl) (Rst.pair Rst.sl (Rst.pair (Rst.flat Fl.int (fun _ => rfl) rfl) (Rst.pair (Rst.flat Fl.int (fun _ => rfl) rfl) (Rst.flat Fl.int (fun _ => rfl) rfl))))))))
theorem N8 : Et Try.prog 81 83 8 80 := Et.of O9 (by kernel_rfl) (by kernel_rfl) (by kernel_rfl) (by decide)
noncomputable def EU (x5 : Int × Int × Int × Int × Int × Int) : ((List (Int × Int × Int × Int × (Nat × List Int) × Int × Int × Int)) × Int × Int) → Option (((List (Int × Int × Int × Int × (Nat × List Int) × Int × Int × Int)) × Int × Int) ⊕ ((List (Int × Int × Int × Int × (Nat × List Int) × Int × Int × Int)) × Int))
  | (x10, x11, x12) => (if x12 < (x10.length : Int) then (((ix x10 x12).bind fun x17 => (if x17.1 = x5.2.2.1 then (ix x10 x12).bind fun x18 => some (x10, decide (x18.2.2.2.2.2.1 = 0)) else some (x10, false))).bind fun (x15, x16) => (if x16 = true then some (x15, x12) else some (x15, x11))).bind fun (x13, x14) => some (.inl (x13, x14, Dz (x12 + 1))) else some (.inr (x10, x11)))
noncomputable def Fy (p0 : List (Int × Int × Int × Int × Int × Int)) : ((List (Int × Int × Int × Int × (Nat × List Int) × Int × Int × Int)) × Int) → Option (((List (Int × Int × Int × Int × (Nat × List Int) × Int × Int × Int)) × Int) ⊕ (List (Int × Int × Int × Int × (Nat × List Int) × Int × Int × Int)))
  | (x2, x3) => (if x3 < (p0.length : Int) then ((ix p0 x3).bind fun x5 => (if x5.1 = 1 then (FR x2 ([(x5.2.2.1, x5.2.2.2.2.1, x5.2.2.2.2.2, x5.2.1, (2, []), 0, 0, x5.2.1)] : List (Int × Int × Int × Int × (Nat × List Int) × Int × Int × Int))).bind fun x7 => some x7 else some x2).bind fun x6 => (AM (EU x5) (x6, (-1), 0)).bind fun (x8, x9) => (if (decide (x9 = (-1)) || (decide (x5.1 < 2) || decide (4 < x5.1))) = true then some x8 else (ix x8 x9).bind fun x19 => (ix x8 x9).bind fun x20 => (if x5.1 = 2 then (ix (Aw x8 x9 (x20.1, x20.2.1, x20.2.2.1, x20.2.2.2.1, x20.2.2.2.2.1, x20.2.2.2.2.2.1, x20.2.2.2.2.2.2.1, x5.2.1)) x9).bind fun x22 => (Mf x22.2.2.2.2.1.1).bind fun x23 => (FR x22.2.2.2.2.1.2 ([x5.2.2.2.1] : List Int)).bind fun x24 => (ix (Aw (Aw x8 x9 (x20.1, x20.2.1, x20.2.2.1, x20.2.2.2.1, x20.2.2.2.2.1, x20.2.2.2.2.2.1, x20.2.2.2.2.2.2.1, x5.2.1)) x9 (x22.1, x22.2.1, x22.2.2.1, x22.2.2.2.1, (0, []), x22.2.2.2.2.2.1, x22.2.2.2.2.2.2.1, x22.2.2.2.2.2.2.2)) x9).bind fun x25 => (ix (Aw (Aw x8 x9 (x20.1, x20.2.1, x20.2.2.1, x20.2.2.2.1, x20.2.2.2.2.1, x20.2.2.2.2.2.1, x20.2.2.2.2.2.2.1, x5.2.1)) x9 (x22.1, x22.2.1, x22.2.2.1, x22.2.2.2.1, (0, []), x22.2.2.2.2.2.1, x22.2.2.2.2.2.2.1, x22.2.2.2.2.2.2.2)) x9).bind fun x26 => some (Aw (Aw (Aw x8 x9 (x20.1, x20.2.1, x20.2.2.1, x20.2.2.2.1, x20.2.2.2.2.1, x20.2.2.2.2.2.1, x20.2.2.2.2.2.2.1, x5.2.1)) x9 (x22.1, x22.2.1, x22.2.2.1, x22.2.2.2.1, (0, []), x22.2.2.2.2.2.1, x22.2.2.2.2.2.2.1, x22.2.2.2.2.2.2.2)) x9 (x26.1, x26.2.1, x26.2.2.1, x26.2.2.2.1, (2, x24), x26.2.2.2.2.2.1, x26.2.2.2.2.2.2.1, x26.2.2.2.2.2.2.2)) else (ix (Aw x8 x9 (x20.1, x20.2.1, x20.2.2.1, x20.2.2.2.1, x20.2.2.2.2.1, x20.2.2.2.2.2.1, x20.2.2.2.2.2.2.1, x5.2.1)) x9).bind fun x27 => (ix (Aw x8 x9 (x20.1, x20.2.1, x20.2.2.1, x20.2.2.2.1, x20.2.2.2.2.1, x20.2.2.2.2.2.1, x20.2.2.2.2.2.2.1, x5.2.1)) x9).bind fun x28 => some (Aw (Aw x8 x9 (x20.1, x20.2.1, x20.2.2.1, x20.2.2.2.1, x20.2.2.2.2.1, x20.2.2.2.2.2.1, x20.2.2.2.2.2.2.1, x5.2.1)) x9 (x28.1, x28.2.1, x28.2.2.1, x28.2.2.2.1, x28.2.2.2.2.1, x5.1, x28.2.2.2.2.2.2.1, x28.2.2.2.2.2.2.2))).bind fun x21 => (if x5.1 = 3 then (ix x21 x9).bind fun x29 => (ix x21 x9).bind fun x30 => some (Aw x21 x9 (x30.1, x30.2.1, x30.2.2.1, x30.2.2.2.1, x30.2.2.2.2.1, x30.2.2.2.2.2.1, x5.2.2.2.2.1, x30.2.2.2.2.2.2.2)) else some x21))).bind fun x4 => some (.inl (x4, Dz (x3 + 1))) else some (.inr x2))
noncomputable def JA (p0 : List (Int × Int × Int × Int × Int × Int)) : Option (List (Int × Int × Int × Int × List Int × Int × Int × Int)) := (AM (Fy p0) ([], 0)).bind fun x1 => (FZ Nv x1).bind fun x31 => some x31
theorem NL (Y : Nat → Prop) (w0 : World) (v1 : Value) (p0 : List (Int × Int × Int × Int × Int × Int)) (r : (List (Int × Int × Int × Int × List Int × Int × Int × Int))) (H : JA p0 = some r) (h_v1 : Sl w0 (NX []) Ej v1 p0) :
    Calls Try.prog 32 #[v1] w0 fun e w' => ∃ x : Value, e = .returned (x) ∧ Stw ⟨Y, [], w0⟩ [] [row (x) 83 JI r] w' := by
 refine enter Try.func32 Aa Try.ntmps32 Aa fun a F => ?_
 have W := Stw.start Y w0
 unfold JA at H
 refine Ai (Ac ?_)
 refine ls F W Aa (Ah F Aa).q fun a w F W => ?_
 refine Ad (Ab (Ai (Ac ?_)))
 refine ls F W Aa (Ah F Aa).q fun a w F W => ?_
 refine Ad (Ab ?_)
 obtain ⟨o1, G1, K1⟩ := An H
 refine AB (fun a w => ∃ x1 : List (Int × Int × Int × Int × (Nat × List Int) × Int × Int × Int), ∃ v2 : Value, ∃ g_x1 : {x : List (Int × Int × Int × Int × (Value × Nat × List Int) × Int × Int × Int) // x.map CF = x1}, some (x1) = some o1 ∧ Fr 108 [] [(2, .slice none 0 0), (3, v2)] a ∧ Stw ⟨Y, [], w0⟩ [] [Be v2 83 Cm g_x1.1] w) ?_ ?_
 ·
  have H := G1
  clear G1 K1
  refine Ai (Ac ?_)
  refine ls F W Aa (Ah F Aa).q fun a w F W => ?_
  refine Ad (Ab (Au ?_))
  have W := W.dNil 83 Cm
  have h1 : List.map CF ([] : List (Int × Int × Int × Int × (Value × Nat × List Int) × Int × Int × Int)) = ([] : List (Int × Int × Int × Int × (Nat × List Int) × Int × Int × Int)) := Aa
  refine Bf H (fun s a w => ∃ v3 : Value, ∃ g_x2 : {x : List (Int × Int × Int × Int × (Value × Nat × List Int) × Int × Int × Int) // x.map CF = s.1}, Fr 108 [] [(0, v1), (2, .slice none 0 0), (3, v3), (4, .int .i64 s.2)] a ∧ Stw ⟨Y, [], w0⟩ [] [Be v3 83 Cm g_x2.1] w) ⟨(Value.slice none 0 0), ⟨([] : List (Int × Int × Int × Int × (Value × Nat × List Int) × Int × Int × Int)), h1⟩, F.re ⟨rfl, Aa, Aa, Aa, trivial⟩, W⟩ fun s o a w H L2 hR => ?_
  obtain ⟨x2, x3⟩ := s
  obtain ⟨v3, g_x2, F, W⟩ := hR
  have F : Fr 108 [] [(0, v1), (2, .slice none 0 0), (3, v3), (4, .int .i64 x3)] a := F
  have W : Stw ⟨Y, [], w0⟩ [] [Be v3 83 Cm g_x2.1] w := W
  rw [Fy] at H
  refine Ai (Ai (Ac ?_))
  iterate 2 refine ls F W Aa (Ag F Aa).q fun a w F W => ?_
  refine ls F W Aa (A6 (r := Ej) (l := p0) JE Aa F Aa (Aj h_v1)).q fun a w F W => ?_
  refine ls F W Aa (Bi F Aa Aa).q fun a w F W => ?_
  refine Ad (Ab ?_)
  refine Ax F Aa (fun hb => ?_) fun hb => ?_
  ·
   have H := AK (Bd hb) H
   rw [hb] at F
   clear hb
   refine Ap (Ab ?_)
   obtain ⟨o3, G3, K3⟩ := An H
   refine AB (fun a w => ∃ x4 : List (Int × Int × Int × Int × (Nat × List Int) × Int × Int × Int), ∃ v4 : Value, ∃ g_x4 : {x : List (Int × Int × Int × Int × (Value × Nat × List Int) × Int × Int × Int) // x.map CF = x4}, some (x4) = some o3 ∧ Fr 108 [] [(0, v1), (2, .slice none 0 0), (3, v4), (4, .int .i64 x3)] a ∧ Stw ⟨Y, [], w0⟩ [] [Be v4 83 Cm g_x4.1] w) ?_ ?_
   ·
    have H := G3
    clear G3 K3
    refine Au (Ai (Ac ?_))
    iterate 2 refine ls F W Aa (Ag F Aa).q fun a w F W => ?_
    obtain ⟨x5, h2, H⟩ := An H
    refine ls F W Aa (Az (r := Ej) JK F Aa Aa (Aj h_v1) h2).q fun a w F W => ?_
    refine ls F W Aa (Aq (y := Value.agg #[.int .i64 x5.1, .int .i64 x5.2.1, .int .i64 x5.2.2.1, .int .i64 x5.2.2.2.1, .int .i64 x5.2.2.2.2.1, .int .i64 x5.2.2.2.2.2]) (j := 0) (i := x3) F Aa Aa (Aj h_v1) h2 JJ.to Mu Aa).q fun a w F W => ?_
    refine BX (cs := [.int .i64 0, .int .i64 0, .int .i64 0, .int .i64 0, .int .i64 0, .int .i64 0]) F W Aa Px Aa fun b1 a w F W => ?_
    refine BJ (vs := [.int .i64 x5.1, .int .i64 x5.2.1, .int .i64 x5.2.2.1, .int .i64 x5.2.2.2.1, .int .i64 x5.2.2.2.2.1, .int .i64 x5.2.2.2.2.2]) (M' := [(b1, [.int .i64 x5.1, .int .i64 x5.2.1, .int .i64 x5.2.2.1, .int .i64 x5.2.2.2.1, .int .i64 x5.2.2.2.2.1, .int .i64 x5.2.2.2.2.2])]) 0 F W Aa Aa Aa Mu Aa Aa Aa Aa Aa fun w W => ?_
    refine Ad (Ab ?_)
    obtain ⟨o4, G4, K4⟩ := An H
    refine AB (fun a w => ∃ x6 : List (Int × Int × Int × Int × (Nat × List Int) × Int × Int × Int), ∃ v5 : Value, ∃ g_x6 : {x : List (Int × Int × Int × Int × (Value × Nat × List Int) × Int × Int × Int) // x.map CF = x6}, some (x6) = some o4 ∧ Fr 108 [] [(0, v1), (2, .slice none 0 0), (3, v5), (4, .int .i64 x3), (5, .pointer (some ⟨b1, 0, none⟩))] a ∧ Stw ⟨Y, [], w0⟩ [(b1, [.int .i64 x5.1, .int .i64 x5.2.1, .int .i64 x5.2.2.1, .int .i64 x5.2.2.2.1, .int .i64 x5.2.2.2.2.1, .int .i64 x5.2.2.2.2.2])] [Be v5 83 Cm g_x6.1] w) ?_ ?_
    ·
     have H := G4
     clear G4 K4
     refine Ai (Ac ?_)
     refine ls F W Aa (Af Cf Aa Aa Aa T3 F Aa 0 Aa).q fun a w F W => ?_
     refine ls F W Aa (Am (v := Value.int .i64 x5.1) 0 F Aa Aa T3 Aa).q fun a w F W => ?_
     refine ls F W Aa (Bz F Aa Aa).q fun a w F W => ?_
     refine Ad (Ab ?_)
     refine Ax F Aa (fun hb => ?_) fun hb => ?_
     ·
      have H := AK (Bd hb) H
      rw [hb] at F
      clear hb
      refine Ac ?_
      refine ls F W Aa (Ag F Aa).q fun a w F W => ?_
      refine ls F W Aa (Af Cf Aa Aa Aa T3 F Aa 2 Aa).q fun a w F W => ?_
      refine ls F W Aa (Am (v := Value.int .i64 x5.2.2.1) 0 F Aa Aa T3 Aa).q fun a w F W => ?_
      refine ls F W Aa (Af Cf Aa Aa Aa T3 F Aa 4 Aa).q fun a w F W => ?_
      refine ls F W Aa (Am (v := Value.int .i64 x5.2.2.2.2.1) 0 F Aa Aa T3 Aa).q fun a w F W => ?_
      refine ls F W Aa (Af Cf Aa Aa Aa T3 F Aa 5 Aa).q fun a w F W => ?_
      refine ls F W Aa (Am (v := Value.int .i64 x5.2.2.2.2.2) 0 F Aa Aa T3 Aa).q fun a w F W => ?_
      refine ls F W Aa (Af Cf Aa Aa Aa T3 F Aa 1 Aa).q fun a w F W => ?_
      refine ls F W Aa (Am (v := Value.int .i64 x5.2.1) 0 F Aa Aa T3 Aa).q fun a w F W => ?_
      refine ls F W Aa (Af Cf Aa Aa Aa T3 F Aa 1 Aa).q fun a w F W => ?_
      refine ls F W Aa (Am (v := Value.int .i64 x5.2.1) 0 F Aa Aa T3 Aa).q fun a w F W => ?_
      refine ls F W Aa (BH (v := Value.agg #[.int .i64 x5.2.2.1, .int .i64 x5.2.2.2.2.1, .int .i64 x5.2.2.2.2.2, .int .i64 x5.2.1, .slice none 0 0, .int .i64 0, .int .i64 0, .int .i64 x5.2.1]) Ry F Aa Aa Aa).q fun a w F W => ?_
      have W := W.addEmp
      have W := W.addEmp
      have W := W.pairZ (D := (Dp.fl 1 (fun a => [.int .i64 a]) (fun _ => rfl))) (E := (Dp.fl 1 (fun a => [.int .i64 a]) (fun _ => rfl))) (p := 0) (q := x5.2.1)
      have W := W.addEmp
      have W := W.pairZ (D := (Dp.fl 1 (fun a => [.int .i64 a]) (fun _ => rfl))) (E := (Dp.pair (Dp.fl 1 (fun a => [.int .i64 a]) (fun _ => rfl)) (Dp.fl 1 (fun a => [.int .i64 a]) (fun _ => rfl)))) (p := 0) (q := (0, x5.2.1))
      have W := W.nlZ (Nl.sl (e' := 3) (r := (Rp.int .i64)))
      have W := W.pairZ (D := (Dp.sl 3 (Rp.int .i64))) (E := (Dp.pair (Dp.fl 1 (fun a => [.int .i64 a]) (fun _ => rfl)) (Dp.pair (Dp.fl 1 (fun a => [.int .i64 a]) (fun _ => rfl)) (Dp.fl 1 (fun a => [.int .i64 a]) (fun _ => rfl))))) (p := (Value.slice none 0 0, 2, [])) (q := (0, 0, x5.2.1))
      have W := W.addEmp
      have W := W.pairZ (D := (Dp.fl 1 (fun a => [.int .i64 a]) (fun _ => rfl))) (E := (Dp.pair (Dp.sl 3 (Rp.int .i64)) (Dp.pair (Dp.fl 1 (fun a => [.int .i64 a]) (fun _ => rfl)) (Dp.pair (Dp.fl 1 (fun a => [.int .i64 a]) (fun _ => rfl)) (Dp.fl 1 (fun a => [.int .i64 a]) (fun _ => rfl)))))) (p := x5.2.1) (q := ((Value.slice none 0 0, 2, []), 0, 0, x5.2.1))
      have W := W.addEmp
      have W := W.pairZ (D := (Dp.fl 1 (fun a => [.int .i64 a]) (fun _ => rfl))) (E := (Dp.pair (Dp.fl 1 (fun a => [.int .i64 a]) (fun _ => rfl)) (Dp.pair (Dp.sl 3 (Rp.int .i64)) (Dp.pair (Dp.fl 1 (fun a => [.int .i64 a]) (fun _ => rfl)) (Dp.pair (Dp.fl 1 (fun a => [.int .i64 a]) (fun _ => rfl)) (Dp.fl 1 (fun a => [.int .i64 a]) (fun _ => rfl))))))) (p := x5.2.2.2.2.2) (q := (x5.2.1, (Value.slice none 0 0, 2, []), 0, 0, x5.2.1))
      have W := W.addEmp
      have W := W.pairZ (D := (Dp.fl 1 (fun a => [.int .i64 a]) (fun _ => rfl))) (E := (Dp.pair (Dp.fl 1 (fun a => [.int .i64 a]) (fun _ => rfl)) (Dp.pair (Dp.fl 1 (fun a => [.int .i64 a]) (fun _ => rfl)) (Dp.pair (Dp.sl 3 (Rp.int .i64)) (Dp.pair (Dp.fl 1 (fun a => [.int .i64 a]) (fun _ => rfl)) (Dp.pair (Dp.fl 1 (fun a => [.int .i64 a]) (fun _ => rfl)) (Dp.fl 1 (fun a => [.int .i64 a]) (fun _ => rfl)))))))) (p := x5.2.2.2.2.1) (q := (x5.2.2.2.2.2, x5.2.1, (Value.slice none 0 0, 2, []), 0, 0, x5.2.1))
      have W := W.addEmp
      have W := W.pairZ (D := (Dp.fl 1 (fun a => [.int .i64 a]) (fun _ => rfl))) (E := (Dp.pair (Dp.fl 1 (fun a => [.int .i64 a]) (fun _ => rfl)) (Dp.pair (Dp.fl 1 (fun a => [.int .i64 a]) (fun _ => rfl)) (Dp.pair (Dp.fl 1 (fun a => [.int .i64 a]) (fun _ => rfl)) (Dp.pair (Dp.sl 3 (Rp.int .i64)) (Dp.pair (Dp.fl 1 (fun a => [.int .i64 a]) (fun _ => rfl)) (Dp.pair (Dp.fl 1 (fun a => [.int .i64 a]) (fun _ => rfl)) (Dp.fl 1 (fun a => [.int .i64 a]) (fun _ => rfl))))))))) (p := x5.2.2.1) (q := (x5.2.2.2.2.1, x5.2.2.2.2.2, x5.2.1, (Value.slice none 0 0, 2, []), 0, 0, x5.2.1))
      refine Da (z := Value.agg #[.int .i64 0, .int .i64 0, .int .i64 0, .int .i64 0, .slice none 0 0, .int .i64 0, .int .i64 0, .int .i64 0]) (cs := [.int .i64 x5.2.2.1, .int .i64 x5.2.2.2.2.1, .int .i64 x5.2.2.2.2.2, .int .i64 x5.2.1, .slice none 0 0, .int .i64 0, .int .i64 0, .int .i64 x5.2.1]) Cm.hr ([(x5.2.2.1, x5.2.2.2.2.1, x5.2.2.2.2.2, x5.2.1, (Value.slice none 0 0, 2, []), 0, 0, x5.2.1)] : List (Int × Int × Int × Int × (Value × Nat × List Int) × Int × Int × Int)) F W Aa N8 QJ Aa Aa Aa (EV Aa Aa Aa Ge) Aa Aa ⟨[Value.int .i64 x5.2.2.1, Value.int .i64 x5.2.2.2.2.1, Value.int .i64 x5.2.2.2.2.2, Value.int .i64 x5.2.1, Value.slice none 0 0, Value.int .i64 0, Value.int .i64 0, Value.int .i64 x5.2.1], _, Aa, ⟨rfl, (A7 Aa (A7 Aa (A7 Aa (A7 Aa (A7 Aa (A7 Aa (A7 Aa (A7 Aa FX))))))))⟩, Aa⟩ fun v6 a w F W => ?_
      have W := Stw.dShutL (D := Cm) (lx := ([(x5.2.2.1, x5.2.2.2.2.1, x5.2.2.2.2.2, x5.2.1, (Value.slice none 0 0, 2, []), 0, 0, x5.2.1)] : List (Int × Int × Int × Int × (Value × Nat × List Int) × Int × Int × Int))) W
      have h3 : List.map CF ([(x5.2.2.1, x5.2.2.2.2.1, x5.2.2.2.2.2, x5.2.1, (Value.slice none 0 0, 2, []), 0, 0, x5.2.1)] : List (Int × Int × Int × Int × (Value × Nat × List Int) × Int × Int × Int)) = ([(x5.2.2.1, x5.2.2.2.2.1, x5.2.2.2.2.2, x5.2.1, (2, []), 0, 0, x5.2.1)] : List (Int × Int × Int × Int × (Nat × List Int) × Int × Int × Int)) := Aa
      have W : Stw ⟨Y, [], w0⟩ [(b1, [.int .i64 x5.1, .int .i64 x5.2.1, .int .i64 x5.2.2.1, .int .i64 x5.2.2.2.1, .int .i64 x5.2.2.2.2.1, .int .i64 x5.2.2.2.2.2])] [Be v6 83 Cm ([(x5.2.2.1, x5.2.2.2.2.1, x5.2.2.2.2.2, x5.2.1, (Value.slice none 0 0, 2, []), 0, 0, x5.2.1)] : List (Int × Int × Int × Int × (Value × Nat × List Int) × Int × Int × Int)), Be v3 83 Cm g_x2.1] w := W
      have W := W.frontZ (i := 1) Aa Aa
      obtain ⟨x7, h4, H⟩ := An H
      refine Jh (D := Cm) F W Aa N8 Aa Aa (KB (er := CF) g_x2.2 h3 h4).1 Aa fun v7 a w F W => ?_
      have h5 : List.map CF (g_x2.1 ++ ([(x5.2.2.1, x5.2.2.2.2.1, x5.2.2.2.2.2, x5.2.1, (Value.slice none 0 0, 2, []), 0, 0, x5.2.1)] : List (Int × Int × Int × Int × (Value × Nat × List Int) × Int × Int × Int))) = x7 := (KB (er := CF) g_x2.2 h3 h4).2
      have W : Stw ⟨Y, [], w0⟩ [(b1, [.int .i64 x5.1, .int .i64 x5.2.1, .int .i64 x5.2.2.1, .int .i64 x5.2.2.2.1, .int .i64 x5.2.2.2.2.1, .int .i64 x5.2.2.2.2.2])] [Be v7 83 Cm (g_x2.1 ++ ([(x5.2.2.1, x5.2.2.2.2.1, x5.2.2.2.2.2, x5.2.1, (Value.slice none 0 0, 2, []), 0, 0, x5.2.1)] : List (Int × Int × Int × Int × (Value × Nat × List Int) × Int × Int × Int)))] w := W
      refine ls F W Aa (Ah F Aa).q fun a w F W => ?_
      refine Ad (Ab ?_)
      exact ⟨_, (v7), ⟨(g_x2.1 ++ ([(x5.2.2.1, x5.2.2.2.2.1, x5.2.2.2.2.2, x5.2.1, (Value.slice none 0 0, 2, []), 0, 0, x5.2.1)] : List (Int × Int × Int × Int × (Value × Nat × List Int) × Int × Int × Int))), h5⟩, H, F.re ⟨rfl, Aa, Aa, Aa, Aa, trivial⟩, W⟩
     have H := AL (Bc hb) H
     rw [hb] at F
     clear hb
     refine Ap (Ab ?_)
     exact ⟨_, (v3), ⟨g_x2.1, g_x2.2⟩, H, F.re ⟨rfl, Aa, Aa, Aa, Aa, trivial⟩, W⟩
    rintro a w ⟨x6, v5, g_x6, hj, F, W⟩
    have hj := AN hj
    subst hj
    have H := K4
    clear G4 K4
    refine Ai (Ac ?_)
    refine ls F W Aa (Ah F Aa).q fun a w F W => ?_
    refine Ad (Ab ?_)
    obtain ⟨o5, G5, K5⟩ := An H
    refine AB (fun a w => ∃ x8 : List (Int × Int × Int × Int × (Nat × List Int) × Int × Int × Int), ∃ x9 : Int, ∃ g_x8 : {x : List (Int × Int × Int × Int × (Value × Nat × List Int) × Int × Int × Int) // x.map CF = x8}, some ((x8, x9)) = some o5 ∧ Fr 108 [] [(0, v1), (2, .slice none 0 0), (3, v5), (4, .int .i64 x3), (5, .pointer (some ⟨b1, 0, none⟩)), (6, .int .i64 x9)] a ∧ Stw ⟨Y, [], w0⟩ [(b1, [.int .i64 x5.1, .int .i64 x5.2.1, .int .i64 x5.2.2.1, .int .i64 x5.2.2.2.1, .int .i64 x5.2.2.2.2.1, .int .i64 x5.2.2.2.2.2])] [Be v5 83 Cm g_x8.1] w) ?_ ?_
    ·
     have H := G5
     clear G5 K5
     refine Ai (Ac ?_)
     refine ls F W Aa (Ah F Aa).q fun a w F W => ?_
     refine Ad (Ab (Au ?_))
     refine Bf H (fun s a w => ∃ g_x10 : {x : List (Int × Int × Int × Int × (Value × Nat × List Int) × Int × Int × Int) // x.map CF = s.1}, Fr 108 [] [(0, v1), (2, .slice none 0 0), (3, v5), (4, .int .i64 x3), (5, .pointer (some ⟨b1, 0, none⟩)), (6, .int .i64 s.2.1), (7, .int .i64 s.2.2)] a ∧ Stw ⟨Y, [], w0⟩ [(b1, [.int .i64 x5.1, .int .i64 x5.2.1, .int .i64 x5.2.2.1, .int .i64 x5.2.2.2.1, .int .i64 x5.2.2.2.2.1, .int .i64 x5.2.2.2.2.2])] [Be v5 83 Cm g_x10.1] w) ⟨⟨g_x6.1, g_x6.2⟩, F.re ⟨rfl, Aa, Aa, Aa, Aa, Aa, Aa, trivial⟩, W⟩ fun s o a w H L6 hR => ?_
     obtain ⟨x10, x11, x12⟩ := s
     obtain ⟨g_x10, F, W⟩ := hR
     have F : Fr 108 [] [(0, v1), (2, .slice none 0 0), (3, v5), (4, .int .i64 x3), (5, .pointer (some ⟨b1, 0, none⟩)), (6, .int .i64 x11), (7, .int .i64 x12)] a := F
     have W : Stw ⟨Y, [], w0⟩ [(b1, [.int .i64 x5.1, .int .i64 x5.2.1, .int .i64 x5.2.2.1, .int .i64 x5.2.2.2.1, .int .i64 x5.2.2.2.2.1, .int .i64 x5.2.2.2.2.2])] [Be v5 83 Cm g_x10.1] w := W
     rw [EU] at H
     refine Ai (Ai (Ac ?_))
     iterate 2 refine ls F W Aa (Ag F Aa).q fun a w F W => ?_
     refine ls F W Aa (My (er := CF) g_x10.2 O9 Aa F Aa (I5.hd (DW 0 Aa))).q fun a w F W => ?_
     refine ls F W Aa (Bi F Aa Aa).q fun a w F W => ?_
     refine Ad (Ab ?_)
     refine Ax F Aa (fun hb => ?_) fun hb => ?_
     ·
      have H := AK (Bd hb) H
      rw [hb] at F
      clear hb
      refine Ap (Ab ?_)
      obtain ⟨o7, G7, K7⟩ := An H
      refine AB (fun a w => ∃ x13 : List (Int × Int × Int × Int × (Nat × List Int) × Int × Int × Int), ∃ x14 : Int, ∃ g_x13 : {x : List (Int × Int × Int × Int × (Value × Nat × List Int) × Int × Int × Int) // x.map CF = x13}, some ((x13, x14)) = some o7 ∧ Fr 108 [] [(0, v1), (2, .slice none 0 0), (3, v5), (4, .int .i64 x3), (5, .pointer (some ⟨b1, 0, none⟩)), (6, .int .i64 x14), (7, .int .i64 x12)] a ∧ Stw ⟨Y, [], w0⟩ [(b1, [.int .i64 x5.1, .int .i64 x5.2.1, .int .i64 x5.2.2.1, .int .i64 x5.2.2.2.1, .int .i64 x5.2.2.2.2.1, .int .i64 x5.2.2.2.2.2])] [Be v5 83 Cm g_x13.1] w) ?_ ?_
      ·
       have H := G7
       clear G7 K7
       refine Au ?_
       obtain ⟨o8, G8, K8⟩ := An H
       refine AB (fun a w => ∃ x15 : List (Int × Int × Int × Int × (Nat × List Int) × Int × Int × Int), ∃ x16 : Bool, ∃ g_x15 : {x : List (Int × Int × Int × Int × (Value × Nat × List Int) × Int × Int × Int) // x.map CF = x15}, some ((x15, x16)) = some o8 ∧ Fr 108 [] [(0, v1), (2, .slice none 0 0), (3, v5), (4, .int .i64 x3), (5, .pointer (some ⟨b1, 0, none⟩)), (6, .int .i64 x11), (7, .int .i64 x12), (56, .bool x16)] a ∧ Stw ⟨Y, [], w0⟩ [(b1, [.int .i64 x5.1, .int .i64 x5.2.1, .int .i64 x5.2.2.1, .int .i64 x5.2.2.2.1, .int .i64 x5.2.2.2.2.1, .int .i64 x5.2.2.2.2.2])] [Be v5 83 Cm g_x15.1] w) ?_ ?_
       ·
        have H := G8
        clear G8 K8
        refine BE W MO (by kernel_rfl) ?_
        iterate 2 refine qs F Aa (Ag F Aa).q fun a F => ?_
        obtain ⟨x17, h6, H⟩ := An H
        obtain ⟨v8, h7, h8⟩ := Cx (er := CF) g_x10.2 h6
        refine qs F Aa (Az (r := Cm.hr) N8 F Aa Aa (I5.hd (DW 0 Aa)) h7).q fun a F => ?_
        refine qs F Aa (Af ER Aa Aa Aa T3 F Aa (Cb v5 + (x12).toNat * 8) Aa).q fun a F => ?_
        have h9 : Cm.cells v8 = [.int .i64 x17.1, .int .i64 x17.2.1, .int .i64 x17.2.2.1, .int .i64 x17.2.2.2.1, (v8.2.2.2.2.1.1), .int .i64 x17.2.2.2.2.2.1, .int .i64 x17.2.2.2.2.2.2.1, .int .i64 x17.2.2.2.2.2.2.2] := congrArg (fun q : Int × Int × Int × Int × (Nat × List Int) × Int × Int × Int => ([.int .i64 q.1, .int .i64 q.2.1, .int .i64 q.2.2.1, .int .i64 q.2.2.2.1, (v8.2.2.2.2.1.1), .int .i64 q.2.2.2.2.2.1, .int .i64 q.2.2.2.2.2.2.1, .int .i64 q.2.2.2.2.2.2.2] : List Value)) h8
        refine qs F Aa (Aq (y := Value.int .i64 x17.1) (j := 0) (i := x12) (enc := Cm.cells) F Aa Aa (I5.hd (DW 0 Aa)) h7 Cm.flat T3 (by rw [h9]; rfl)).q fun a F => ?_
        refine qs F Aa (Af Cf Aa Aa Aa T3 F Aa 2 Aa).q fun a F => ?_
        refine qs F Aa (Am (v := Value.int .i64 x5.2.2.1) 0 F Aa Aa T3 Aa).q fun a F => ?_
        refine qs F Aa (Bz F Aa Aa).q fun a F => ?_
        refine qs F Aa (Ag F Aa).q fun a F => ?_
        rcases Bool.eq_false_or_eq_true (decide (x17.1 = x5.2.2.1)) with hb | hb
        ·
         have H := AK (Bd hb) H
         rw [hb] at F
         clear hb
         iterate 2 refine Bu F (Ae F Aa Aa Aa Aa) Aa (Ak Aa) (Ag F Aa).q fun a F => ?_
         obtain ⟨x18, h10, H⟩ := An H
         obtain ⟨v9, h11, h12⟩ := Cx (er := CF) g_x10.2 h10
         refine Bu F (Ae F Aa Aa Aa Aa) Aa (Ak Aa) (Az (r := Cm.hr) N8 F Aa Aa (I5.hd (DW 0 Aa)) h11).q fun a F => ?_
         refine Bu F (Ae F Aa Aa Aa Aa) Aa (Ak Aa) (Af ER Aa Aa Aa T3 F Aa (Cb v5 + (x12).toNat * 8 + 5) Aa).q fun a F => ?_
         have h13 : Cm.cells v9 = [.int .i64 x18.1, .int .i64 x18.2.1, .int .i64 x18.2.2.1, .int .i64 x18.2.2.2.1, (v9.2.2.2.2.1.1), .int .i64 x18.2.2.2.2.2.1, .int .i64 x18.2.2.2.2.2.2.1, .int .i64 x18.2.2.2.2.2.2.2] := congrArg (fun q : Int × Int × Int × Int × (Nat × List Int) × Int × Int × Int => ([.int .i64 q.1, .int .i64 q.2.1, .int .i64 q.2.2.1, .int .i64 q.2.2.2.1, (v9.2.2.2.2.1.1), .int .i64 q.2.2.2.2.2.1, .int .i64 q.2.2.2.2.2.2.1, .int .i64 q.2.2.2.2.2.2.2] : List Value)) h12
         refine Bu F (Ae F Aa Aa Aa Aa) Aa (Ak Aa) (Aq (y := Value.int .i64 x18.2.2.2.2.2.1) (j := 5) (i := x12) (enc := Cm.cells) F Aa Aa (I5.hd (DW 0 Aa)) h11 Cm.flat T3 (by rw [h13]; rfl)).q fun a F => ?_
         refine Bu F (Ae F Aa Aa Aa Aa) Aa (Ak Aa) (Bz F Aa Aa).q fun a F => ?_
         refine qs F Aa (Ao F Aa Aa Aa).q fun a F => ?_
         refine AX fun w W => ?_
         refine Ab ?_
         exact ⟨_, _, ⟨g_x10.1, g_x10.2⟩, H, F.re ⟨rfl, Aa, Aa, Aa, Aa, Aa, Aa, Aa, trivial⟩, W⟩
        have H := AL (Bc hb) H
        rw [hb] at F
        clear hb
        iterate 6 refine Dn F (CD F Aa Aa Aa Aa Aa) Aa Aa fun a F => ?_
        refine qs F Aa (Av F Aa Aa Aa).q fun a F => ?_
        refine AX fun w W => ?_
        refine Ab ?_
        exact ⟨_, _, ⟨g_x10.1, g_x10.2⟩, H, F.re ⟨rfl, Aa, Aa, Aa, Aa, Aa, Aa, Aa, trivial⟩, W⟩
       rintro a w ⟨x15, x16, g_x15, hj, F, W⟩
       have hj := AN hj
       subst hj
       have H := K8
       clear G8 K8
       refine Ax F Aa (fun hb => ?_) fun hb => ?_
       ·
        have H := AK hb H
        rw [hb] at F
        clear hb
        refine Ac ?_
        refine ls F W Aa (Ag F Aa).q fun a w F W => ?_
        refine ls F W Aa (Ah F Aa).q fun a w F W => ?_
        refine Ad (AF (Ab ?_))
        exact ⟨_, _, ⟨g_x15.1, g_x15.2⟩, H, F.re ⟨rfl, Aa, Aa, Aa, Aa, Aa, Aa, trivial⟩, W⟩
       have H := AL (by rw [hb]; decide) H
       rw [hb] at F
       clear hb
       refine Ap (AF (Ab ?_))
       exact ⟨_, _, ⟨g_x15.1, g_x15.2⟩, H, F.re ⟨rfl, Aa, Aa, Aa, Aa, Aa, Aa, trivial⟩, W⟩
      rintro a w ⟨x13, x14, g_x13, hj, F, W⟩
      have hj := AN hj
      subst hj
      have H := K7
      clear G7 K7
      refine Ac ?_
      refine ls F W Aa (Ag F Aa).q fun a w F W => ?_
      refine ls F W Aa (BS F Aa Aa Aa).q fun a w F W => ?_
      refine ls F W Aa (Ah F Aa).q fun a w F W => ?_
      refine Ad (Ab ?_)
      exact ⟨_, H, ⟨g_x13.1, g_x13.2⟩, F.re ⟨rfl, Aa, Aa, Aa, Aa, Aa, Aa, trivial⟩, W⟩
     have H := AL (Bc hb) H
     rw [hb] at F
     clear hb
     refine A8 ?_
     iterate 2 refine Bk ?_
     refine A9 (Ab ?_)
     have H := L6 _ H
     exact ⟨_, _, ⟨g_x10.1, g_x10.2⟩, H, F.re ⟨rfl, Aa, Aa, Aa, Aa, Aa, trivial⟩, W⟩
    rintro a w ⟨x8, x9, g_x8, hj, F, W⟩
    have hj := AN hj
    subst hj
    have H := K5
    clear G5 K5
    refine Ai ?_
    refine AB (fun a w => Fr 108 [] [(0, v1), (2, .slice none 0 0), (3, v5), (4, .int .i64 x3), (5, .pointer (some ⟨b1, 0, none⟩)), (6, .int .i64 x9), (69, .bool (decide (x9 = (-1)) || (decide (x5.1 < 2) || decide (4 < x5.1))))] a ∧ Stw ⟨Y, [], w0⟩ [(b1, [.int .i64 x5.1, .int .i64 x5.2.1, .int .i64 x5.2.2.1, .int .i64 x5.2.2.2.1, .int .i64 x5.2.2.2.2.1, .int .i64 x5.2.2.2.2.2])] [Be v5 83 Cm g_x8.1] w) ?_ ?_
    ·
     refine Ac ?_
     refine ls F W Aa (Ag F Aa).q fun a w F W => ?_
     refine ls F W Aa (Bz F Aa Aa).q fun a w F W => ?_
     refine ls F W Aa (Ag F Aa).q fun a w F W => ?_
     rcases Bool.eq_false_or_eq_true (decide (x9 = (-1))) with hb0 | hb0
     ·
      rw [hb0] at F
      iterate 3 refine B4 F Aa Aa Aa Aa Aa Aa Aa fun a F => ?_
      refine ls F W Aa (Ao F Aa Aa Aa).q fun a w F W => ?_
      refine ls F W Aa (Ag F Aa).q fun a w F W => ?_
      iterate 3 refine B4 F Aa Aa Aa Aa Aa Aa Aa fun a F => ?_
      refine ls F W Aa (Ao F Aa Aa Aa).q fun a w F W => ?_
      refine Ad (Ab ?_)
      exact ⟨F.re ⟨rfl, Aa, Aa, Aa, Aa, Aa, (by show some (Value.bool true) = some (Value.bool (decide (x9 = (-1)) || (decide (x5.1 < 2) || decide (4 < x5.1)))); try rw [hb0]; all_goals simp only [Bool.not_true, Bool.not_false, Bool.true_and, Bool.false_and, Bool.true_or, Bool.false_or, Bool.and_true, Bool.or_false, cond_true, cond_false]), trivial⟩, W⟩
     rw [hb0] at F
     refine Ay F W (Ae F Aa Aa Aa Aa) Aa (Ak Aa) (Af Cf Aa Aa Aa T3 F Aa 0 Aa).q fun a w F W => ?_
     refine Ay F W (Ae F Aa Aa Aa Aa) Aa (Ak Aa) (Am (v := Value.int .i64 x5.1) 0 F Aa Aa T3 Aa).q fun a w F W => ?_
     refine Ay F W (Ae F Aa Aa Aa Aa) Aa (Ak Aa) (Bi F Aa Aa).q fun a w F W => ?_
     refine ls F W Aa (Av F Aa Aa Aa).q fun a w F W => ?_
     refine ls F W Aa (Ag F Aa).q fun a w F W => ?_
     rcases Bool.eq_false_or_eq_true (decide (x5.1 < 2)) with hb1 | hb1
     ·
      rw [hb1] at F
      iterate 3 refine B4 F Aa Aa Aa Aa Aa Aa Aa fun a F => ?_
      refine ls F W Aa (Ao F Aa Aa Aa).q fun a w F W => ?_
      refine Ad (Ab ?_)
      exact ⟨F.re ⟨rfl, Aa, Aa, Aa, Aa, Aa, (by show some (Value.bool true) = some (Value.bool (decide (x9 = (-1)) || (decide (x5.1 < 2) || decide (4 < x5.1)))); try rw [hb0]; try rw [hb1]; all_goals simp only [Bool.not_true, Bool.not_false, Bool.true_and, Bool.false_and, Bool.true_or, Bool.false_or, Bool.and_true, Bool.or_false, cond_true, cond_false]), trivial⟩, W⟩
     rw [hb1] at F
     refine Ay F W (Ae F Aa Aa Aa Aa) Aa (Ak Aa) (Af Cf Aa Aa Aa T3 F Aa 0 Aa).q fun a w F W => ?_
     refine Ay F W (Ae F Aa Aa Aa Aa) Aa (Ak Aa) (Am (v := Value.int .i64 x5.1) 0 F Aa Aa T3 Aa).q fun a w F W => ?_
     refine Ay F W (Ae F Aa Aa Aa Aa) Aa (Ak Aa) (E6 F Aa Aa).q fun a w F W => ?_
     refine ls F W Aa (Av F Aa Aa Aa).q fun a w F W => ?_
     refine Ad (Ab ?_)
     exact ⟨F.re ⟨rfl, Aa, Aa, Aa, Aa, Aa, (by show some (Value.bool (decide (4 < x5.1))) = some (Value.bool (decide (x9 = (-1)) || (decide (x5.1 < 2) || decide (4 < x5.1)))); try rw [hb0]; try rw [hb1]; all_goals simp only [Bool.not_true, Bool.not_false, Bool.true_and, Bool.false_and, Bool.true_or, Bool.false_or, Bool.and_true, Bool.or_false, cond_true, cond_false]), trivial⟩, W⟩
    rintro a w ⟨F, W⟩
    refine Ax F Aa (fun hb => ?_) fun hb => ?_
    ·
     have H := AK hb H
     rw [hb] at F
     clear hb
     refine A8 (Bk (A9 (Ab ?_)))
     have W := W.sub (M' := []) (Z' := [Be v5 83 Cm g_x8.1]) (List.nil_sublist _) (List.Sublist.refl _)
     exact ⟨_, (v5), ⟨g_x8.1, g_x8.2⟩, H, F.re ⟨rfl, Aa, Aa, Aa, trivial⟩, W⟩
    have H := AL (by rw [hb]; decide) H
    rw [hb] at F
    clear hb
    refine Ap (Ab (Ai (Ac ?_)))
    iterate 2 refine ls F W Aa (Ag F Aa).q fun a w F W => ?_
    refine ls F W Aa (Af Cf Aa Aa Aa T3 F Aa 1 Aa).q fun a w F W => ?_
    refine ls F W Aa (Am (v := Value.int .i64 x5.2.1) 0 F Aa Aa T3 Aa).q fun a w F W => ?_
    obtain ⟨x19, h14, H⟩ := An H
    obtain ⟨v10, h15, h16⟩ := Cx (er := CF) g_x8.2 h14
    refine ls F W Aa (Az (r := Cm.hr) N8 F Aa Aa (I5.hd (DW 0 Aa)) h15).q fun a w F W => ?_
    refine ls F W Aa (Af ER Aa Aa Aa T3 F Aa (Cb v5 + (x9).toNat * 8 + 7) Aa).q fun a w F W => ?_
    obtain ⟨x20, h17, H⟩ := An H
    obtain ⟨v11, h18, h19⟩ := Cx (er := CF) g_x8.2 h17
    refine ET (D := Cm) (i := x9) (j := 7) (vs := [.int .i64 x5.2.1]) (x' := (v11.1, v11.2.1, v11.2.2.1, v11.2.2.2.1, v11.2.2.2.2.1, v11.2.2.2.2.2.1, v11.2.2.2.2.2.2.1, x5.2.1)) F W Aa Aa Aa h18 T3 Aa Aa Aa Aa Aa Aa fun w W => ?_
    have h20 : List.map CF (Aw g_x8.1 x9 (v11.1, v11.2.1, v11.2.2.1, v11.2.2.2.1, v11.2.2.2.2.1, v11.2.2.2.2.2.1, v11.2.2.2.2.2.2.1, x5.2.1)) = (Aw x8 x9 (x20.1, x20.2.1, x20.2.2.1, x20.2.2.2.1, x20.2.2.2.2.1, x20.2.2.2.2.2.1, x20.2.2.2.2.2.2.1, x5.2.1)) := (F8 g_x8.2 (congrArg (fun q : Int × Int × Int × Int × (Nat × List Int) × Int × Int × Int => (q.1, q.2.1, q.2.2.1, q.2.2.2.1, q.2.2.2.2.1, q.2.2.2.2.2.1, q.2.2.2.2.2.2.1, x5.2.1)) h19))
    have W : Stw ⟨Y, [], w0⟩ [(b1, [.int .i64 x5.1, .int .i64 x5.2.1, .int .i64 x5.2.2.1, .int .i64 x5.2.2.2.1, .int .i64 x5.2.2.2.2.1, .int .i64 x5.2.2.2.2.2])] [Be v5 83 Cm (Aw g_x8.1 x9 (v11.1, v11.2.1, v11.2.2.1, v11.2.2.2.1, v11.2.2.2.2.1, v11.2.2.2.2.2.1, v11.2.2.2.2.2.2.1, x5.2.1))] w := W
    refine Ad (Ab ?_)
    obtain ⟨o9, G9, K9⟩ := An H
    refine AB (fun a w => ∃ x21 : List (Int × Int × Int × Int × (Nat × List Int) × Int × Int × Int), ∃ g_x21 : {x : List (Int × Int × Int × Int × (Value × Nat × List Int) × Int × Int × Int) // x.map CF = x21}, some (x21) = some o9 ∧ Fr 108 [] [(0, v1), (2, .slice none 0 0), (3, v5), (4, .int .i64 x3), (5, .pointer (some ⟨b1, 0, none⟩)), (6, .int .i64 x9)] a ∧ Stw ⟨Y, [], w0⟩ [(b1, [.int .i64 x5.1, .int .i64 x5.2.1, .int .i64 x5.2.2.1, .int .i64 x5.2.2.2.1, .int .i64 x5.2.2.2.2.1, .int .i64 x5.2.2.2.2.2])] [Be v5 83 Cm g_x21.1] w) ?_ ?_
    ·
     have H := G9
     clear G9 K9
     refine Ai (Ac ?_)
     refine ls F W Aa (Af Cf Aa Aa Aa T3 F Aa 0 Aa).q fun a w F W => ?_
     refine ls F W Aa (Am (v := Value.int .i64 x5.1) 0 F Aa Aa T3 Aa).q fun a w F W => ?_
     refine ls F W Aa (Bz F Aa Aa).q fun a w F W => ?_
     refine Ad (Ab ?_)
     refine Ax F Aa (fun hb => ?_) fun hb => ?_
     ·
      have H := AK (Bd hb) H
      rw [hb] at F
      clear hb
      refine FL [(true, 0), (true, 1), (true, 2), (true, 3), (true, 4), (true, 5), (true, 6), (true, 7), (true, 8), (false, 9), (false, 10), (true, 11), (true, 12), (false, 13)] (CN ⟨Y, [], w0⟩ [(some 9, b1, [.int .i64 x5.1, .int .i64 x5.2.1, .int .i64 x5.2.2.1, .int .i64 x5.2.2.2.1, .int .i64 x5.2.2.2.2.1, .int .i64 x5.2.2.2.2.2])] [(some 10, Be v5 83 Cm (Aw g_x8.1 x9 (v11.1, v11.2.1, v11.2.2.1, v11.2.2.2.1, v11.2.2.2.2.1, v11.2.2.2.2.2.1, v11.2.2.2.2.2.2.1, x5.2.1)))]) (fun ch a d v w h => by cases d <;> exact h) MO (by kernel_rfl) W (fun w W => ⟨_, _, W, (all_cons (fun _ => (.head _)) AQ), (all_cons (fun _ => (.head _)) AQ)⟩) fun w W => ?_
      iterate 4 refine BR (R := []) F Aa Aa (yC fun M Z hN hZ => Ag F Aa) Aa Aa fun a F => ?_
      obtain ⟨x22, h21, H⟩ := An H
      obtain ⟨v12, h22, h23⟩ := Cx (er := CF) h20 h21
      refine BR (R := []) F Aa Aa (yC fun M Z hN hZ => Ls (r := Cm.hr) N8 F Aa Aa (OT W (I5.hd (DW 0 Aa))) h22) Aa Aa fun a F => ?_
      refine BR (R := []) F Aa Aa (yC fun M Z hN hZ => Af ER Aa Aa Aa E1 F Aa (Cb v5 + (x9).toNat * 8 + 4) Aa) Aa Aa fun a F => ?_
      have h24 : Cm.cells v12 = [.int .i64 x22.1, .int .i64 x22.2.1, .int .i64 x22.2.2.1, .int .i64 x22.2.2.2.1, (v12.2.2.2.2.1.1), .int .i64 x22.2.2.2.2.2.1, .int .i64 x22.2.2.2.2.2.2.1, .int .i64 x22.2.2.2.2.2.2.2] := congrArg (fun q : Int × Int × Int × Int × (Nat × List Int) × Int × Int × Int => ([.int .i64 q.1, .int .i64 q.2.1, .int .i64 q.2.2.1, .int .i64 q.2.2.2.1, (v12.2.2.2.2.1.1), .int .i64 q.2.2.2.2.2.1, .int .i64 q.2.2.2.2.2.2.1, .int .i64 q.2.2.2.2.2.2.2] : List Value)) h23
      refine BR (R := [10]) F Aa Aa (yC fun M Z hN hZ => Aq (y := (v12.2.2.2.2.1.1)) (j := 4) (i := x9) (enc := Cm.cells) F Aa Aa (I5.hd (OU (hZ ((some 10), Be v5 83 Cm (Aw g_x8.1 x9 (v11.1, v11.2.1, v11.2.2.1, v11.2.2.2.1, v11.2.2.2.2.1, v11.2.2.2.2.2.1, v11.2.2.2.2.2.2.1, x5.2.1))) (.head _) Aa))) h22 Cm.flat E1 (by rw [h24]; rfl)) (by kernel_rfl) Aa fun a F => ?_
      refine BR (R := []) F Aa Aa (yC fun M Z hN hZ => Af Cf Aa Aa Aa T3 F Aa 3 Aa) Aa Aa fun a F => ?_
      refine BR (R := [9]) F Aa Aa (yC fun M Z hN hZ => Cl (cs := [.int .i64 x5.1, .int .i64 x5.2.1, .int .i64 x5.2.2.1, .int .i64 x5.2.2.2.1, .int .i64 x5.2.2.2.2.1, .int .i64 x5.2.2.2.2.2]) (v := Value.int .i64 x5.2.2.2.1) F Aa (hN ((some 9), b1, [.int .i64 x5.1, .int .i64 x5.2.1, .int .i64 x5.2.2.1, .int .i64 x5.2.2.2.1, .int .i64 x5.2.2.2.2.1, .int .i64 x5.2.2.2.2.2]) (.head _) Aa) T3 Aa) (by kernel_rfl) Aa fun a F => ?_
      refine FE Aa ?_
      refine Da (z := Value.int .i64 0) (cs := [.int .i64 x5.2.2.2.1]) (Rp.int .i64) ([x5.2.2.2.1] : List Int) F W Aa Hl Z3 Aa Aa Aa Aa Aa Aa (Fl.int.repL _ _ ([x5.2.2.2.1] : List Int)) fun v13 a w F W => ?_
      refine Ce (N2 := []) (NZ2 := []) (N3 := [(some 9, b1, [.int .i64 x5.1, .int .i64 x5.2.1, .int .i64 x5.2.2.1, .int .i64 x5.2.2.2.1, .int .i64 x5.2.2.2.2.1, .int .i64 x5.2.2.2.2.2])]) (NZ3 := [(some 10, Be v5 83 Cm (Aw g_x8.1 x9 (v11.1, v11.2.1, v11.2.2.1, v11.2.2.2.1, v11.2.2.2.2.1, v11.2.2.2.2.2.1, v11.2.2.2.2.2.2.1, x5.2.1)))]) W Aa Aa (all_cons (fun h => Ba (by kernel_rfl) h) AQ) (all_cons (fun _ => (.tail _ (.head _))) AQ) ?_
      refine FE Aa ?_
      obtain ⟨x23, h25, H⟩ := An H
      have W := W.frontZ (i := 1) Aa Aa
      have W := W.dTakeR h22 (Foc.snd (Foc.snd (Foc.snd (Foc.snd (Foc.fst Foc.here))))) ((congrArg (fun q : Int × Int × Int × Int × (Nat × List Int) × Int × Int × Int => q.2.2.2.2.1) h23).trans (Prod.ext (MG h25) Aa))
      have h26 : List.map CF (Aw (Aw g_x8.1 x9 (v11.1, v11.2.1, v11.2.2.1, v11.2.2.2.1, v11.2.2.2.2.1, v11.2.2.2.2.2.1, v11.2.2.2.2.2.2.1, x5.2.1)) x9 (v12.1, v12.2.1, v12.2.2.1, v12.2.2.2.1, ((v12.2.2.2.2.1.1), 0, []), v12.2.2.2.2.2.1, v12.2.2.2.2.2.2.1, v12.2.2.2.2.2.2.2)) = (Aw (Aw x8 x9 (x20.1, x20.2.1, x20.2.2.1, x20.2.2.2.1, x20.2.2.2.2.1, x20.2.2.2.2.2.1, x20.2.2.2.2.2.2.1, x5.2.1)) x9 (x22.1, x22.2.1, x22.2.2.1, x22.2.2.2.1, (0, []), x22.2.2.2.2.2.1, x22.2.2.2.2.2.2.1, x22.2.2.2.2.2.2.2)) := (F8 h20 (congrArg (fun q : Int × Int × Int × Int × (Nat × List Int) × Int × Int × Int => (q.1, q.2.1, q.2.2.1, q.2.2.2.1, (0, []), q.2.2.2.2.2.1, q.2.2.2.2.2.2.1, q.2.2.2.2.2.2.2)) h23))
      have W : Stw ⟨Y, [], w0⟩ [(b1, [.int .i64 x5.1, .int .i64 x5.2.1, .int .i64 x5.2.2.1, .int .i64 x5.2.2.2.1, .int .i64 x5.2.2.2.2.1, .int .i64 x5.2.2.2.2.2])] [row (v12.2.2.2.2.1.1) 3 (Rp.int .i64) x22.2.2.2.2.1.2, Be v5 83 Cm (Aw (Aw g_x8.1 x9 (v11.1, v11.2.1, v11.2.2.1, v11.2.2.2.1, v11.2.2.2.2.1, v11.2.2.2.2.2.1, v11.2.2.2.2.2.2.1, x5.2.1)) x9 (v12.1, v12.2.1, v12.2.2.1, v12.2.2.2.1, ((v12.2.2.2.2.1.1), 0, []), v12.2.2.2.2.2.1, v12.2.2.2.2.2.2.1, v12.2.2.2.2.2.2.2)), row v13 3 (Rp.int .i64) ([x5.2.2.2.1] : List Int)] w := W
      obtain ⟨x24, h27, H⟩ := An H
      refine Cg (r := (Rp.int .i64)) (i := 0) F W Aa Hl Aa Aa Aa Aa (CE W 2 Aa) h27 Aa fun v14 a w F W => ?_
      have W : Stw ⟨Y, [], w0⟩ [(b1, [.int .i64 x5.1, .int .i64 x5.2.1, .int .i64 x5.2.2.1, .int .i64 x5.2.2.2.1, .int .i64 x5.2.2.2.2.1, .int .i64 x5.2.2.2.2.2])] [row v14 3 (Rp.int .i64) x24, Be v5 83 Cm (Aw (Aw g_x8.1 x9 (v11.1, v11.2.1, v11.2.2.1, v11.2.2.2.1, v11.2.2.2.2.1, v11.2.2.2.2.2.1, v11.2.2.2.2.2.2.1, x5.2.1)) x9 (v12.1, v12.2.1, v12.2.2.1, v12.2.2.2.1, ((v12.2.2.2.2.1.1), 0, []), v12.2.2.2.2.2.1, v12.2.2.2.2.2.2.1, v12.2.2.2.2.2.2.2)), row v13 3 (Rp.int .i64) ([x5.2.2.2.1] : List Int)] w := W
      refine Ce (N2 := []) (NZ2 := []) (N3 := [(some 9, b1, [.int .i64 x5.1, .int .i64 x5.2.1, .int .i64 x5.2.2.1, .int .i64 x5.2.2.2.1, .int .i64 x5.2.2.2.2.1, .int .i64 x5.2.2.2.2.2])]) (NZ3 := [(some 10, Be v5 83 Cm (Aw g_x8.1 x9 (v11.1, v11.2.1, v11.2.2.1, v11.2.2.2.1, v11.2.2.2.2.1, v11.2.2.2.2.2.1, v11.2.2.2.2.2.2.1, x5.2.1)))]) W Aa Aa (all_cons (fun h => Ba (by kernel_rfl) h) AQ) (all_cons (fun h => Ba (by kernel_rfl) h) AQ) ?_
      obtain ⟨x25, h28, H⟩ := An H
      obtain ⟨v15, h29, h30⟩ := Cx (er := CF) h26 h28
      refine BR (R := []) F Aa Aa (yC fun M Z hN hZ => Ls (r := Cm.hr) N8 F Aa Aa (OT W (I5.hd (DW 1 Aa))) h29) Aa Aa fun a F => ?_
      refine BR (R := []) F Aa Aa (yC fun M Z hN hZ => Af ER Aa Aa Aa E1 F Aa (Cb v5 + (x9).toNat * 8 + 4) Aa) Aa Aa fun a F => ?_
      refine FE Aa ?_
      obtain ⟨x26, h31, H⟩ := An H
      obtain ⟨v16, h32, h33⟩ := Cx (er := CF) h26 h31
      have h34 : Value.oneCell' v14 = true := (W.one (k := 0) Aa)
      have W := W.frontZ (i := 1) Aa Aa
      have W := W.frontZ (i := 1) Aa Aa
      have W := W.toR
      refine Jr (D := Cm) (S := (Dp.sl 3 (Rp.int .i64))) (b := (v14, 2, x24)) (i := x9) (j := 4) (Foc.snd (Foc.snd (Foc.snd (Foc.snd (Foc.fst Foc.here))))) F W Aa Aa Aa h32 E1 (DB h34) Aa h34 Aa fun w W => ?_
      have h35 : List.map CF (Aw (Aw (Aw g_x8.1 x9 (v11.1, v11.2.1, v11.2.2.1, v11.2.2.2.1, v11.2.2.2.2.1, v11.2.2.2.2.2.1, v11.2.2.2.2.2.2.1, x5.2.1)) x9 (v12.1, v12.2.1, v12.2.2.1, v12.2.2.2.1, ((v12.2.2.2.2.1.1), 0, []), v12.2.2.2.2.2.1, v12.2.2.2.2.2.2.1, v12.2.2.2.2.2.2.2)) x9 (v16.1, v16.2.1, v16.2.2.1, v16.2.2.2.1, (v14, 2, x24), v16.2.2.2.2.2.1, v16.2.2.2.2.2.2.1, v16.2.2.2.2.2.2.2)) = (Aw (Aw (Aw x8 x9 (x20.1, x20.2.1, x20.2.2.1, x20.2.2.2.1, x20.2.2.2.2.1, x20.2.2.2.2.2.1, x20.2.2.2.2.2.2.1, x5.2.1)) x9 (x22.1, x22.2.1, x22.2.2.1, x22.2.2.2.1, (0, []), x22.2.2.2.2.2.1, x22.2.2.2.2.2.2.1, x22.2.2.2.2.2.2.2)) x9 (x26.1, x26.2.1, x26.2.2.1, x26.2.2.2.1, (2, x24), x26.2.2.2.2.2.1, x26.2.2.2.2.2.2.1, x26.2.2.2.2.2.2.2)) := (F8 h26 (congrArg (fun q : Int × Int × Int × Int × (Nat × List Int) × Int × Int × Int => (q.1, q.2.1, q.2.2.1, q.2.2.2.1, (2, x24), q.2.2.2.2.2.1, q.2.2.2.2.2.2.1, q.2.2.2.2.2.2.2)) h33))
      have W : Stw ⟨Y, [], w0⟩ [(b1, [.int .i64 x5.1, .int .i64 x5.2.1, .int .i64 x5.2.2.1, .int .i64 x5.2.2.2.1, .int .i64 x5.2.2.2.2.1, .int .i64 x5.2.2.2.2.2])] [Be v5 83 Cm (Aw (Aw (Aw g_x8.1 x9 (v11.1, v11.2.1, v11.2.2.1, v11.2.2.2.1, v11.2.2.2.2.1, v11.2.2.2.2.2.1, v11.2.2.2.2.2.2.1, x5.2.1)) x9 (v12.1, v12.2.1, v12.2.2.1, v12.2.2.2.1, ((v12.2.2.2.2.1.1), 0, []), v12.2.2.2.2.2.1, v12.2.2.2.2.2.2.1, v12.2.2.2.2.2.2.2)) x9 (v16.1, v16.2.1, v16.2.2.1, v16.2.2.2.1, (v14, 2, x24), v16.2.2.2.2.2.1, v16.2.2.2.2.2.2.1, v16.2.2.2.2.2.2.2)), row v13 3 (Rp.int .i64) ([x5.2.2.2.1] : List Int)] w := W
      refine Ce (N2 := []) (NZ2 := []) (N3 := [(some 9, b1, [.int .i64 x5.1, .int .i64 x5.2.1, .int .i64 x5.2.2.1, .int .i64 x5.2.2.2.1, .int .i64 x5.2.2.2.2.1, .int .i64 x5.2.2.2.2.2])]) (NZ3 := [(some 10, Be v5 83 Cm (Aw g_x8.1 x9 (v11.1, v11.2.1, v11.2.2.1, v11.2.2.2.1, v11.2.2.2.2.1, v11.2.2.2.2.2.1, v11.2.2.2.2.2.2.1, x5.2.1)))]) W Aa Aa (all_cons (fun h => Ba (by kernel_rfl) h) AQ) (all_cons (fun h => Ba (by kernel_rfl) h) AQ) ?_
      refine Hs (Ab ?_)
      have W := W.sub (M' := [(b1, [.int .i64 x5.1, .int .i64 x5.2.1, .int .i64 x5.2.2.1, .int .i64 x5.2.2.2.1, .int .i64 x5.2.2.2.2.1, .int .i64 x5.2.2.2.2.2])]) (Z' := [Be v5 83 Cm (Aw (Aw (Aw g_x8.1 x9 (v11.1, v11.2.1, v11.2.2.1, v11.2.2.2.1, v11.2.2.2.2.1, v11.2.2.2.2.2.1, v11.2.2.2.2.2.2.1, x5.2.1)) x9 (v12.1, v12.2.1, v12.2.2.1, v12.2.2.2.1, ((v12.2.2.2.2.1.1), 0, []), v12.2.2.2.2.2.1, v12.2.2.2.2.2.2.1, v12.2.2.2.2.2.2.2)) x9 (v16.1, v16.2.1, v16.2.2.1, v16.2.2.2.1, (v14, 2, x24), v16.2.2.2.2.2.1, v16.2.2.2.2.2.2.1, v16.2.2.2.2.2.2.2))]) (List.Sublist.refl _) (List.Sublist.cons_cons _ (List.nil_sublist _))
      exact ⟨_, ⟨(Aw (Aw (Aw g_x8.1 x9 (v11.1, v11.2.1, v11.2.2.1, v11.2.2.2.1, v11.2.2.2.2.1, v11.2.2.2.2.2.1, v11.2.2.2.2.2.2.1, x5.2.1)) x9 (v12.1, v12.2.1, v12.2.2.1, v12.2.2.2.1, ((v12.2.2.2.2.1.1), 0, []), v12.2.2.2.2.2.1, v12.2.2.2.2.2.2.1, v12.2.2.2.2.2.2.2)) x9 (v16.1, v16.2.1, v16.2.2.1, v16.2.2.2.1, (v14, 2, x24), v16.2.2.2.2.2.1, v16.2.2.2.2.2.2.1, v16.2.2.2.2.2.2.2)), h35⟩, H, F.re ⟨rfl, Aa, Aa, Aa, Aa, Aa, trivial⟩, W⟩
     have H := AL (Bc hb) H
     rw [hb] at F
     clear hb
     refine Ac ?_
     iterate 2 refine ls F W Aa (Ag F Aa).q fun a w F W => ?_
     refine ls F W Aa (Af Cf Aa Aa Aa T3 F Aa 0 Aa).q fun a w F W => ?_
     refine ls F W Aa (Am (v := Value.int .i64 x5.1) 0 F Aa Aa T3 Aa).q fun a w F W => ?_
     obtain ⟨x27, h36, H⟩ := An H
     obtain ⟨v17, h37, h38⟩ := Cx (er := CF) h20 h36
     refine ls F W Aa (Az (r := Cm.hr) N8 F Aa Aa (I5.hd (DW 0 Aa)) h37).q fun a w F W => ?_
     refine ls F W Aa (Af ER Aa Aa Aa T3 F Aa (Cb v5 + (x9).toNat * 8 + 5) Aa).q fun a w F W => ?_
     obtain ⟨x28, h39, H⟩ := An H
     obtain ⟨v18, h40, h41⟩ := Cx (er := CF) h20 h39
     refine ET (D := Cm) (i := x9) (j := 5) (vs := [.int .i64 x5.1]) (x' := (v18.1, v18.2.1, v18.2.2.1, v18.2.2.2.1, v18.2.2.2.2.1, x5.1, v18.2.2.2.2.2.2.1, v18.2.2.2.2.2.2.2)) F W Aa Aa Aa h40 T3 Aa Aa Aa Aa Aa Aa fun w W => ?_
     have h42 : List.map CF (Aw (Aw g_x8.1 x9 (v11.1, v11.2.1, v11.2.2.1, v11.2.2.2.1, v11.2.2.2.2.1, v11.2.2.2.2.2.1, v11.2.2.2.2.2.2.1, x5.2.1)) x9 (v18.1, v18.2.1, v18.2.2.1, v18.2.2.2.1, v18.2.2.2.2.1, x5.1, v18.2.2.2.2.2.2.1, v18.2.2.2.2.2.2.2)) = (Aw (Aw x8 x9 (x20.1, x20.2.1, x20.2.2.1, x20.2.2.2.1, x20.2.2.2.2.1, x20.2.2.2.2.2.1, x20.2.2.2.2.2.2.1, x5.2.1)) x9 (x28.1, x28.2.1, x28.2.2.1, x28.2.2.2.1, x28.2.2.2.2.1, x5.1, x28.2.2.2.2.2.2.1, x28.2.2.2.2.2.2.2)) := (F8 h20 (congrArg (fun q : Int × Int × Int × Int × (Nat × List Int) × Int × Int × Int => (q.1, q.2.1, q.2.2.1, q.2.2.2.1, q.2.2.2.2.1, x5.1, q.2.2.2.2.2.2.1, q.2.2.2.2.2.2.2)) h41))
     have W : Stw ⟨Y, [], w0⟩ [(b1, [.int .i64 x5.1, .int .i64 x5.2.1, .int .i64 x5.2.2.1, .int .i64 x5.2.2.2.1, .int .i64 x5.2.2.2.2.1, .int .i64 x5.2.2.2.2.2])] [Be v5 83 Cm (Aw (Aw g_x8.1 x9 (v11.1, v11.2.1, v11.2.2.1, v11.2.2.2.1, v11.2.2.2.2.1, v11.2.2.2.2.2.1, v11.2.2.2.2.2.2.1, x5.2.1)) x9 (v18.1, v18.2.1, v18.2.2.1, v18.2.2.2.1, v18.2.2.2.2.1, x5.1, v18.2.2.2.2.2.2.1, v18.2.2.2.2.2.2.2))] w := W
     refine Ad (Ab ?_)
     exact ⟨_, ⟨(Aw (Aw g_x8.1 x9 (v11.1, v11.2.1, v11.2.2.1, v11.2.2.2.1, v11.2.2.2.2.1, v11.2.2.2.2.2.1, v11.2.2.2.2.2.2.1, x5.2.1)) x9 (v18.1, v18.2.1, v18.2.2.1, v18.2.2.2.1, v18.2.2.2.2.1, x5.1, v18.2.2.2.2.2.2.1, v18.2.2.2.2.2.2.2)), h42⟩, H, F.re ⟨rfl, Aa, Aa, Aa, Aa, Aa, trivial⟩, W⟩
    rintro a w ⟨x21, g_x21, hj, F, W⟩
    have hj := AN hj
    subst hj
    have H := K9
    clear G9 K9
    refine Ai (Ac ?_)
    refine ls F W Aa (Af Cf Aa Aa Aa T3 F Aa 0 Aa).q fun a w F W => ?_
    refine ls F W Aa (Am (v := Value.int .i64 x5.1) 0 F Aa Aa T3 Aa).q fun a w F W => ?_
    refine ls F W Aa (Bz F Aa Aa).q fun a w F W => ?_
    refine Ad (Ab ?_)
    refine Ax F Aa (fun hb => ?_) fun hb => ?_
    ·
     have H := AK (Bd hb) H
     rw [hb] at F
     clear hb
     refine Ac ?_
     iterate 2 refine ls F W Aa (Ag F Aa).q fun a w F W => ?_
     refine ls F W Aa (Af Cf Aa Aa Aa T3 F Aa 4 Aa).q fun a w F W => ?_
     refine ls F W Aa (Am (v := Value.int .i64 x5.2.2.2.2.1) 0 F Aa Aa T3 Aa).q fun a w F W => ?_
     obtain ⟨x29, h43, H⟩ := An H
     obtain ⟨v19, h44, h45⟩ := Cx (er := CF) g_x21.2 h43
     refine ls F W Aa (Az (r := Cm.hr) N8 F Aa Aa (I5.hd (DW 0 Aa)) h44).q fun a w F W => ?_
     refine ls F W Aa (Af ER Aa Aa Aa T3 F Aa (Cb v5 + (x9).toNat * 8 + 6) Aa).q fun a w F W => ?_
     obtain ⟨x30, h46, H⟩ := An H
     obtain ⟨v20, h47, h48⟩ := Cx (er := CF) g_x21.2 h46
     refine ET (D := Cm) (i := x9) (j := 6) (vs := [.int .i64 x5.2.2.2.2.1]) (x' := (v20.1, v20.2.1, v20.2.2.1, v20.2.2.2.1, v20.2.2.2.2.1, v20.2.2.2.2.2.1, x5.2.2.2.2.1, v20.2.2.2.2.2.2.2)) F W Aa Aa Aa h47 T3 Aa Aa Aa Aa Aa Aa fun w W => ?_
     have h49 : List.map CF (Aw g_x21.1 x9 (v20.1, v20.2.1, v20.2.2.1, v20.2.2.2.1, v20.2.2.2.2.1, v20.2.2.2.2.2.1, x5.2.2.2.2.1, v20.2.2.2.2.2.2.2)) = (Aw x21 x9 (x30.1, x30.2.1, x30.2.2.1, x30.2.2.2.1, x30.2.2.2.2.1, x30.2.2.2.2.2.1, x5.2.2.2.2.1, x30.2.2.2.2.2.2.2)) := (F8 g_x21.2 (congrArg (fun q : Int × Int × Int × Int × (Nat × List Int) × Int × Int × Int => (q.1, q.2.1, q.2.2.1, q.2.2.2.1, q.2.2.2.2.1, q.2.2.2.2.2.1, x5.2.2.2.2.1, q.2.2.2.2.2.2.2)) h48))
     have W : Stw ⟨Y, [], w0⟩ [(b1, [.int .i64 x5.1, .int .i64 x5.2.1, .int .i64 x5.2.2.1, .int .i64 x5.2.2.2.1, .int .i64 x5.2.2.2.2.1, .int .i64 x5.2.2.2.2.2])] [Be v5 83 Cm (Aw g_x21.1 x9 (v20.1, v20.2.1, v20.2.2.1, v20.2.2.2.1, v20.2.2.2.2.1, v20.2.2.2.2.2.1, x5.2.2.2.2.1, v20.2.2.2.2.2.2.2))] w := W
     refine Ad (AF (Ab ?_))
     have W := W.sub (M' := []) (Z' := [Be v5 83 Cm (Aw g_x21.1 x9 (v20.1, v20.2.1, v20.2.2.1, v20.2.2.2.1, v20.2.2.2.2.1, v20.2.2.2.2.2.1, x5.2.2.2.2.1, v20.2.2.2.2.2.2.2))]) (List.nil_sublist _) (List.Sublist.refl _)
     exact ⟨_, (v5), ⟨(Aw g_x21.1 x9 (v20.1, v20.2.1, v20.2.2.1, v20.2.2.2.1, v20.2.2.2.2.1, v20.2.2.2.2.2.1, x5.2.2.2.2.1, v20.2.2.2.2.2.2.2)), h49⟩, H, F.re ⟨rfl, Aa, Aa, Aa, trivial⟩, W⟩
    have H := AL (Bc hb) H
    rw [hb] at F
    clear hb
    refine Ap (AF (Ab ?_))
    have W := W.sub (M' := []) (Z' := [Be v5 83 Cm g_x21.1]) (List.nil_sublist _) (List.Sublist.refl _)
    exact ⟨_, (v5), ⟨g_x21.1, g_x21.2⟩, H, F.re ⟨rfl, Aa, Aa, Aa, trivial⟩, W⟩
   rintro a w ⟨x4, v4, g_x4, hj, F, W⟩
   have hj := AN hj
   subst hj
   have H := K3
   clear G3 K3
   refine Ac ?_
   refine ls F W Aa (Ag F Aa).q fun a w F W => ?_
   refine ls F W Aa (BS F Aa Aa Aa).q fun a w F W => ?_
   refine ls F W Aa (Ah F Aa).q fun a w F W => ?_
   refine Ad (Ab ?_)
   exact ⟨_, H, (v4), ⟨g_x4.1, g_x4.2⟩, F.re ⟨rfl, Aa, Aa, Aa, trivial⟩, W⟩
  have H := AL (Bc hb) H
  rw [hb] at F
  clear hb
  refine A8 ?_
  iterate 2 refine Bk ?_
  refine A9 (Ab ?_)
  have H := L2 _ H
  exact ⟨_, (v3), ⟨g_x2.1, g_x2.2⟩, H, F.re ⟨rfl, Aa, trivial⟩, W⟩
 rintro a w ⟨x1, v2, g_x1, hj, F, W⟩
 have hj := AN hj
 subst hj
 have H := K1
 clear G1 K1
 refine Ai (Ac ?_)
 refine ls F W Aa (Ag F Aa).q fun a w F W => ?_
 refine ls F W Aa (Ah F Aa).q fun a w F W => ?_
 refine Ad (Ab (AA ?_))
 obtain ⟨x31, h50, H⟩ := An H
 have H := AN H
 subst H
 refine AW (.inl Aa) F W Aa (As F Aa) ?_
 have W := Stw.ddRest Qi g_x1.2 h50 W
 exact ⟨(v2), Aa, W⟩
theorem Sd : Has Try.prog 32 := ⟨fun args w => Al Try.func32 rfl (by decide) args w⟩
abbrev OH : Rp (Int × Int × Int × Int × (Value × List Int) × Int × Int × Int) := (Rp.pair (Rp.int .i64) (Rp.pair (Rp.int .i64) (Rp.pair (Rp.int .i64) (Rp.pair (Rp.int .i64) (Rp.pair (Rp.vsl (Rp.int .i64)) (Rp.pair (Rp.int .i64) (Rp.pair (Rp.int .i64) (Rp.int .i64))))))))
abbrev Qb (p : Int × Int × Int × Int × (Value × List Int) × Int × Int × Int) : Int × Int × Int × Int × List Int × Int × Int × Int := (p.1, p.2.1, p.2.2.1, p.2.2.2.1, p.2.2.2.2.1.2, p.2.2.2.2.2.1, p.2.2.2.2.2.2.1, p.2.2.2.2.2.2.2)
theorem Pd : Ex JI OH Qb := (Ex.pair Ex.rfl' (Ex.pair Ex.rfl' (Ex.pair Ex.rfl' (Ex.pair Ex.rfl' (Ex.pair Ex.sliceF (Ex.pair Ex.rfl' (Ex.pair Ex.rfl' Ex.rfl')))))))
abbrev Pe (a : Int × Int × Int × Int × (Value × List Int) × Int × Int × Int) : List Value := [.int .i64 a.1, .int .i64 a.2.1, .int .i64 a.2.2.1, .int .i64 a.2.2.2.1, a.2.2.2.2.1.1, .int .i64 a.2.2.2.2.2.1, .int .i64 a.2.2.2.2.2.2.1, .int .i64 a.2.2.2.2.2.2.2]
theorem Qs : Ec OH Pe := (Ec.pair Fl.int.to (Ec.pair Fl.int.to (Ec.pair Fl.int.to (Ec.pair Fl.int.to (Ec.pair Ec.vsl (Ec.pair Fl.int.to (Ec.pair Fl.int.to Fl.int.to)))))))
theorem Qt : Ty Try.prog 83 true 8 := ⟨by kernel_rfl, by kernel_rfl⟩
noncomputable def DV (p0 : List Int) (x1 : Int) : Int → Option (Int ⊕ (Unit ⊕ (Int ⊕ (Unit ⊕ Bool))))
  | x2 => (if x2 < x1 then (ix p0 x1).bind fun x3 => (ix p0 x2).bind fun x4 => (if x3 = x4 then some (.inr (.inr (.inr (.inr true)))) else some (.inl (Dz (x2 + 1)))) else some (.inr (.inl ())))
noncomputable def En (p0 : List Int) : Int → Option (Int ⊕ (Unit ⊕ Bool))
  | x1 => (if x1 < (p0.length : Int) then D6 (AM (DV p0 x1) 0) fun _ => some (.inl (Dz (x1 + 1))) else some (.inr (.inl ())))
noncomputable def Fw (p0 : List Int) : Option Bool := D6 (AM (En p0) 0) fun _ => some false
theorem KW (Y : Nat → Prop) (w0 : World) (v1 : Value) (p0 : List Int) (r : Bool) (H : Fw p0 = some r) (h_v1 : Sl w0 (NX []) (Rp.int .i64) v1 p0) :
    Calls Try.prog 33 #[v1] w0 fun e w' => e = .returned (.bool r) ∧ Below w0.heap.size w0 w' := by
 refine enter Try.func33 Aa Try.ntmps33 Aa fun a F => ?_
 have W := Stw.start Y w0
 unfold Fw at H
 refine Ai (Ac ?_)
 refine ls F W Aa (Ah F Aa).q fun a w F W => ?_
 refine Ad (Ab ?_)
 obtain ⟨o1, G1, K1, L1⟩ := H4 H
 refine AB (fun a w => some (Sum.inl ()) = some o1 ∧ Fr 25 [] [(2, .bool false)] a ∧ Stw ⟨Y, [], w0⟩ [] [] w) ?_ ?_
 ·
  have H := G1
  clear G1 K1
  refine Ai (Ac ?_)
  refine ls F W Aa (Ah F Aa).q fun a w F W => ?_
  refine Ad (Ab (Au ?_))
  refine Bf H (fun s a w => Fr 25 [] [(0, v1), (2, .bool false), (3, .int .i64 s)] a ∧ Stw ⟨Y, [], w0⟩ [] [] w) ⟨F.re ⟨rfl, Aa, Aa, trivial⟩, W⟩ fun s o a w H L2 hR => ?_
  obtain ⟨x1, rfl⟩ : ∃ x, x = s := ⟨s, rfl⟩
  obtain ⟨F, W⟩ := hR
  have F : Fr 25 [] [(0, v1), (2, .bool false), (3, .int .i64 x1)] a := F
  have W : Stw ⟨Y, [], w0⟩ [] [] w := W
  rw [En] at H
  refine Ai (Ai (Ac ?_))
  iterate 2 refine ls F W Aa (Ag F Aa).q fun a w F W => ?_
  refine ls F W Aa (A6 (r := (Rp.int .i64)) (l := p0) Fc Aa F Aa (Aj h_v1)).q fun a w F W => ?_
  refine ls F W Aa (Bi F Aa Aa).q fun a w F W => ?_
  refine Ad (Ab ?_)
  refine Ax F Aa (fun hb => ?_) fun hb => ?_
  ·
   have H := AK (Bd hb) H
   rw [hb] at F
   clear hb
   refine Ap (Ab ?_)
   obtain ⟨o3, G3, K3, L3⟩ := H4 H
   refine AB (fun a w => some (Sum.inl ()) = some o3 ∧ Fr 25 [] [(0, v1), (2, .bool false), (3, .int .i64 x1)] a ∧ Stw ⟨Y, [], w0⟩ [] [] w) ?_ ?_
   ·
    have H := G3
    clear G3 K3
    refine Au (Ai (Ac ?_))
    refine ls F W Aa (Ah F Aa).q fun a w F W => ?_
    refine Ad (Ab (Au ?_))
    refine Bf H (fun s a w => Fr 25 [] [(0, v1), (2, .bool false), (3, .int .i64 x1), (4, .int .i64 s)] a ∧ Stw ⟨Y, [], w0⟩ [] [] w) ⟨F.re ⟨rfl, Aa, Aa, Aa, trivial⟩, W⟩ fun s o a w H L4 hR => ?_
    obtain ⟨x2, rfl⟩ : ∃ x, x = s := ⟨s, rfl⟩
    obtain ⟨F, W⟩ := hR
    have F : Fr 25 [] [(0, v1), (2, .bool false), (3, .int .i64 x1), (4, .int .i64 x2)] a := F
    have W : Stw ⟨Y, [], w0⟩ [] [] w := W
    rw [DV] at H
    refine Ai (Ai (Ac ?_))
    iterate 2 refine ls F W Aa (Ag F Aa).q fun a w F W => ?_
    refine ls F W Aa (Bi F Aa Aa).q fun a w F W => ?_
    refine Ad (Ab ?_)
    refine Ax F Aa (fun hb => ?_) fun hb => ?_
    ·
     have H := AK (Bd hb) H
     rw [hb] at F
     clear hb
     refine Ap (Ab (Ai (Au (Ai ?_))))
     refine BE W MO (by kernel_rfl) ?_
     iterate 2 refine qs F Aa (Ag F Aa).q fun a F => ?_
     obtain ⟨x3, h1, H⟩ := An H
     refine qs F Aa (Az (r := (Rp.int .i64)) Hl F Aa Aa (Aj h_v1) h1).q fun a F => ?_
     refine qs F Aa (Aq (y := Value.int .i64 x3) (j := 0) (i := x1) F Aa Aa (Aj h_v1) h1 Fl.int.to T3 Aa).q fun a F => ?_
     iterate 2 refine qs F Aa (Ag F Aa).q fun a F => ?_
     obtain ⟨x4, h2, H⟩ := An H
     refine qs F Aa (Az (r := (Rp.int .i64)) Hl F Aa Aa (Aj h_v1) h2).q fun a F => ?_
     refine qs F Aa (Aq (y := Value.int .i64 x4) (j := 0) (i := x2) F Aa Aa (Aj h_v1) h2 Fl.int.to T3 Aa).q fun a F => ?_
     refine qs F Aa (Bz F Aa Aa).q fun a F => ?_
     refine AX fun w W => ?_
     refine Ab ?_
     refine Ax F Aa (fun hb => ?_) fun hb => ?_
     ·
      have H := AK (Bd hb) H
      rw [hb] at F
      clear hb
      refine Ai (Ac ?_)
      refine ls F W Aa (Ah F Aa).q fun a w F W => ?_
      refine Ad (Ab (AA (AH ?_)))
      iterate 2 refine AD ?_
      iterate 2 refine AH ?_
      iterate 2 refine AD ?_
      refine AH (AD ?_)
      have H := L4 _ H
      have H := L3 _ H
      have H := L2 _ H
      have H := L1 _ H
      have H := AN H
      subst H
      refine AW (.inl Aa) F W Aa (As F Aa) ?_
      exact ⟨rfl, W.done⟩
     have H := AL (Bc hb) H
     rw [hb] at F
     clear hb
     refine Ap (AF (Ab (Ac ?_)))
     refine ls F W Aa (Ag F Aa).q fun a w F W => ?_
     refine ls F W Aa (BS F Aa Aa Aa).q fun a w F W => ?_
     refine ls F W Aa (Ah F Aa).q fun a w F W => ?_
     refine Ad (Ab ?_)
     exact ⟨_, H, F.re ⟨rfl, Aa, Aa, Aa, trivial⟩, W⟩
    have H := AL (Bc hb) H
    rw [hb] at F
    clear hb
    refine A8 ?_
    iterate 2 refine Bk ?_
    refine A9 (AF (Ab ?_))
    have H := L4 _ H
    exact ⟨H, F.re ⟨rfl, Aa, Aa, trivial⟩, W⟩
   rintro a w ⟨hj, F, W⟩
   have H := K3 _ hj
   clear hj G3 K3 L3
   refine Ac ?_
   refine ls F W Aa (Ag F Aa).q fun a w F W => ?_
   refine ls F W Aa (BS F Aa Aa Aa).q fun a w F W => ?_
   refine ls F W Aa (Ah F Aa).q fun a w F W => ?_
   refine Ad (Ab ?_)
   exact ⟨_, H, F.re ⟨rfl, Aa, Aa, trivial⟩, W⟩
  have H := AL (Bc hb) H
  rw [hb] at F
  clear hb
  refine A8 ?_
  iterate 2 refine Bk ?_
  refine A9 (Ab ?_)
  have H := L2 _ H
  exact ⟨H, F.re ⟨rfl, trivial⟩, W⟩
 rintro a w ⟨hj, F, W⟩
 have H := K1 _ hj
 clear hj G1 K1 L1
 refine Ai (Ac ?_)
 refine ls F W Aa (Ah F Aa).q fun a w F W => ?_
 refine Ad (Ab (AA ?_))
 have H := AN H
 subst H
 refine AW (.inl Aa) F W Aa (As F Aa) ?_
 exact ⟨rfl, W.done⟩
end Go.Proofs.Ytflaelbmglmmcaa
