/- The functions of layer 23, HM. Conditions: none. -/
import Derived.Test.YthiejmoddfenlaagA1
namespace Go.Proofs.Ythiejmoddfenlaa
open Go Go.RowKit
set_option linter.unusedVariables false
set_option linter.unusedSimpArgs false
set_option maxRecDepth 20000
theorem SD : Has Try.prog 62 := ⟨fun args w => Am Try.func62 rfl (by decide) args w⟩
noncomputable def A3  : ((List (Int × Int × Int × Int)) × Int × Int) → Option (((List (Int × Int × Int × Int)) × Int × Int) ⊕ (List (Int × Int × Int × Int)))
  | (x1, x2, x3) => (if x2 < x3 then (ix x1 x3).bind fun x4 => (ix x1 x2).bind fun x5 => (ix x1 x2).bind fun x6 => (ix (Aw x1 x2 x4) x3).bind fun x7 => some (.inl ((Aw (Aw x1 x2 x4) x3 x5), AC (x2 + 1), AC (x3 - 1))) else some (.inr x1))
noncomputable def Bi (p0 : List (Int × Int × Int × Int)) (p1 : Int) (p2 : Int) : Option (List (Int × Int × Int × Int)) := AO (A3) (p0, p1, AC (p2 - 1))
theorem Fu (Y : Nat → Prop) (X : List Nat) (w0 : World) (v1 : Value) (p0 : List (Int × Int × Int × Int)) (p1 : Int) (p2 : Int) (r : (List (Int × Int × Int × Int))) (H : Bi p0 p1 p2 = some r) (hL : Stw ⟨Y, X, w0⟩ [] [row v1 62 Ba p0] w0) :
    Calls Try.prog 63 #[v1, .int .i64 p1, .int .i64 p2, .func (.func 26) #[] #[]] w0 fun e w' => ∃ x : Unit, e = .returned (.tuple #[]) ∧ Stw ⟨Y, X, w0⟩ [] [row v1 62 Ba r] w' := by
 refine enter Try.func63 Aa Try.ntmps63 Aa fun a F => ?_
 have W := hL
 unfold Bi at H
 refine Ah (Ac ?_)
 refine ls F W Aa (Ad F Aa).q fun a w F W => ?_
 refine ls F W Aa (Ag F Aa).q fun a w F W => ?_
 refine Ae (Ab (Ah (Ac ?_)))
 refine ls F W Aa (Ad F Aa).q fun a w F W => ?_
 refine ls F W Aa (Cm F Aa Aa Aa).q fun a w F W => ?_
 refine ls F W Aa (Ag F Aa).q fun a w F W => ?_
 refine Ae (Ab (Av ?_))
 refine Bk H (fun s a w => Fr 34 [] [(0, v1), (8, .int .i64 s.2.1), (9, .int .i64 s.2.2)] a ∧ Stw ⟨Y, X, w0⟩ [] [row v1 62 Ba s.1] w) ⟨F.re ⟨rfl, Aa, Aa, trivial⟩, W⟩ fun s o a w H L1 hR => ?_
 obtain ⟨x1, x2, x3⟩ := s
 obtain ⟨F, W⟩ := hR
 have F : Fr 34 [] [(0, v1), (8, .int .i64 x2), (9, .int .i64 x3)] a := F
 have W : Stw ⟨Y, X, w0⟩ [] [row v1 62 Ba x1] w := W
 rw [A3] at H
 refine Ah (Ah (Ac ?_))
 iterate 2 refine ls F W Aa (Ad F Aa).q fun a w F W => ?_
 refine ls F W Aa (BM F Aa Aa).q fun a w F W => ?_
 refine Ae (Ab ?_)
 refine AB F Aa (fun hb => ?_) fun hb => ?_
 ·
  have H := AR (Br hb) H
  rw [hb] at F
  clear hb
  refine Au (Ab (Av (Ah ?_)))
  refine H1 13 [2, 3] [0, 1, 4, 5, 6, 7, 8, 9, 10, 11, 12] (fun ch a d v w h => by cases d <;> exact h) W MO (by kernel_rfl) ?_
  iterate 2 refine hm F Aa Aa Aa fun a F => ?_
  refine Ja ?_
  iterate 4 refine hs F Aa Aa Aa (Ad F Aa).q fun a F => ?_
  obtain ⟨x4, h1, H⟩ := Al H
  refine hs F Aa Aa Aa (Ax (r := Ba) Ej F Aa Aa (An 0 Aa) h1).q fun a F => ?_
  refine hs F Aa Aa Aa (Ap (y := Value.agg #[.int .i64 x4.1, .int .i64 x4.2.1, .int .i64 x4.2.2.1, .int .i64 x4.2.2.2]) (j := 0) (i := x3) F Aa Aa (An 0 Aa) h1 El.to Ea Aa).q fun a F => ?_
  iterate 2 refine hs F Aa Aa Aa (Ad F Aa).q fun a F => ?_
  obtain ⟨x5, h2, H⟩ := Al H
  refine hs F Aa Aa Aa (Ax (r := Ba) Ej F Aa Aa (An 0 Aa) h2).q fun a F => ?_
  refine hs F Aa Aa Aa (Ap (y := Value.agg #[.int .i64 x5.1, .int .i64 x5.2.1, .int .i64 x5.2.2.1, .int .i64 x5.2.2.2]) (j := 0) (i := x2) F Aa Aa (An 0 Aa) h2 El.to Ea Aa).q fun a F => ?_
  obtain ⟨x6, h3, H⟩ := Al H
  refine hs F Aa Aa Aa (Ax (r := Ba) Ej F Aa Aa (An 0 Aa) h3).q fun a F => ?_
  refine Kq fun w W => ?_
  have W : Stw ⟨Y, X, w0⟩ [] [row v1 62 Ba x1] w := W
  refine Bx (i := x2) (j := 0) (vs := [.int .i64 x4.1, .int .i64 x4.2.1, .int .i64 x4.2.2.1, .int .i64 x4.2.2.2]) (x' := x4) F W Aa Aa Aa (k := 0) Aa Aa h3 Ea Aa Aa Aa Aa (fun A cs _ => El.sto (by rfl) _ _ _) fun w W => ?_
  obtain ⟨x7, h4, H⟩ := Al H
  refine ls F W Aa (Ax (r := Ba) Ej F Aa Aa (An 0 Aa) h4).q fun a w F W => ?_
  refine Bx (i := x3) (j := 0) (vs := [.int .i64 x5.1, .int .i64 x5.2.1, .int .i64 x5.2.2.1, .int .i64 x5.2.2.2]) (x' := x5) F W Aa Aa Aa (k := 0) Aa Aa h4 Ea Aa Aa Aa Aa (fun A cs _ => El.sto (by rfl) _ _ _) fun w W => ?_
  refine Ae (Ab (Ah (Ac ?_)))
  refine ls F W Aa (Ad F Aa).q fun a w F W => ?_
  refine ls F W Aa (BL F Aa Aa Aa).q fun a w F W => ?_
  refine ls F W Aa (Ag F Aa).q fun a w F W => ?_
  refine Ae (Ab (Ac ?_))
  refine ls F W Aa (Ad F Aa).q fun a w F W => ?_
  refine ls F W Aa (Cm F Aa Aa Aa).q fun a w F W => ?_
  refine ls F W Aa (Ag F Aa).q fun a w F W => ?_
  refine Ae (AP (Ab ?_))
  exact ⟨_, H, F.re ⟨rfl, Aa, Aa, trivial⟩, W⟩
 have H := AS (Bq hb) H
 rw [hb] at F
 clear hb
 refine Bh ?_
 iterate 2 refine BK ?_
 refine Bj ?_
 have H := L1 _ H
 have H := AX H
 subst H
 refine Hw (.inr Aa) F Aa ?_
 exact ⟨(), Aa, W⟩
theorem SO : Has Try.prog 63 := ⟨fun args w => Am Try.func63 rfl (by decide) args w⟩
noncomputable def A4 (p2 : Int) (x2 : List (Int × Int × Int × Int)) : Int → Option (Int ⊕ Int)
  | x8 => (if x8 < p2 then (ix x2 x8).bind fun x10 => (ix x2 (AC (x8 - 1))).bind fun x11 => (BT x10 x11).bind fun x12 => some (!(decide (x12 < 0))) else some false).bind fun x9 => (if x9 = true then some (.inl (AC (x8 + 1))) else some (.inr x8))
noncomputable def AD  : ((List (Int × Int × Int × Int)) × Int) → Option (((List (Int × Int × Int × Int)) × Int) ⊕ (List (Int × Int × Int × Int)))
  | (x18, x19) => (if 1 ≤ x19 then (ix x18 x19).bind fun x20 => (ix x18 (AC (x19 - 1))).bind fun x21 => (BT x20 x21).bind fun x22 => (if (!(decide (x22 < 0))) = true then some (.inr x18) else (ix x18 (AC (x19 - 1))).bind fun x23 => (ix x18 x19).bind fun x24 => (ix x18 x19).bind fun x25 => (ix (Aw x18 x19 x23) (AC (x19 - 1))).bind fun x26 => some (.inl ((Aw (Aw x18 x19 x23) (AC (x19 - 1)) x24), AC (x19 - 1)))) else some (.inr x18))
noncomputable def AH (p2 : Int) (x7 : Int) : ((List (Int × Int × Int × Int)) × Int) → Option (((List (Int × Int × Int × Int)) × Int) ⊕ (((List (Int × Int × Int × Int)) × Int) ⊕ (((List (Int × Int × Int × Int)) × Int × Int) ⊕ ((List (Int × Int × Int × Int)) ⊕ (Bool × (List (Int × Int × Int × Int)))))))
  | (x27, x28) => (if x28 < p2 then (ix x27 x28).bind fun x29 => (ix x27 (AC (x28 - 1))).bind fun x30 => (BT x29 x30).bind fun x31 => (if (!(decide (x31 < 0))) = true then some (.inr (.inl (x27, x7))) else (ix x27 (AC (x28 - 1))).bind fun x32 => (ix x27 x28).bind fun x33 => (ix x27 x28).bind fun x34 => (ix (Aw x27 x28 x32) (AC (x28 - 1))).bind fun x35 => some (.inl ((Aw (Aw x27 x28 x32) (AC (x28 - 1)) x33), AC (x28 + 1)))) else some (.inr (.inl (x27, x7))))
noncomputable def AG (p1 : Int) (p2 : Int) : ((List (Int × Int × Int × Int)) × Int × Int) → Option (((List (Int × Int × Int × Int)) × Int × Int) ⊕ ((List (Int × Int × Int × Int)) ⊕ (Bool × (List (Int × Int × Int × Int)))))
  | (x2, x3, x4) => (if x4 < 5 then FN ((AO (A4 p2 x2) x3).bind fun x7 => (if x7 = p2 then some (.inr (.inr (.inr (true, x2)))) else (if (AC (p2 - p1)) < 50 then some (.inr (.inr (.inr (false, x2)))) else (ix x2 (AC (x7 - 1))).bind fun x13 => (ix x2 x7).bind fun x14 => (ix x2 x7).bind fun x15 => (ix (Aw x2 x7 x13) (AC (x7 - 1))).bind fun x16 => (if 2 ≤ (AC (x7 - p1)) then AO (AD) ((Aw (Aw x2 x7 x13) (AC (x7 - 1)) x14), AC (x7 - 1)) else some (Aw (Aw x2 x7 x13) (AC (x7 - 1)) x14)).bind fun x17 => (if 2 ≤ (AC (p2 - x7)) then AO (AH p2 x7) (x17, AC (x7 + 1)) else some (.inl (x17, x7)))))) fun (x5, x6) => some (.inl (x5, x6, AC (x4 + 1))) else some (.inr (.inl x2)))
noncomputable def A1 (p0 : List (Int × Int × Int × Int)) (p1 : Int) (p2 : Int) : Option (Bool × (List (Int × Int × Int × Int))) := FN (AO (AG p1 p2) (p0, AC (p1 + 1), 0)) fun x1 => some (false, x1)
theorem Ey (Y : Nat → Prop) (X : List Nat) (w0 : World) (v1 : Value) (p0 : List (Int × Int × Int × Int)) (p1 : Int) (p2 : Int) (r : Bool × (List (Int × Int × Int × Int))) (H : A1 p0 p1 p2 = some r) (hL : Stw ⟨Y, X, w0⟩ [] [row v1 62 Ba p0] w0) :
    Calls Try.prog 64 #[v1, .int .i64 p1, .int .i64 p2, .func (.func 26) #[] #[]] w0 fun e w' => ∃ x : Unit, e = .returned (.bool r.1) ∧ Stw ⟨Y, X, w0⟩ [] [row v1 62 Ba r.2] w' := by
 refine enter Try.func64 Aa Try.ntmps64 Aa fun a F => ?_
 have W := hL
 unfold A1 at H
 refine Ah (Ac ?_)
 refine ls F W Aa (Ag F Aa).q fun a w F W => ?_
 refine Ae (Ab (Ah (Ac ?_)))
 refine ls F W Aa (Ad F Aa).q fun a w F W => ?_
 refine ls F W Aa (BL F Aa Aa Aa).q fun a w F W => ?_
 refine ls F W Aa (Ag F Aa).q fun a w F W => ?_
 refine Ae (Ab ?_)
 obtain ⟨o1, G1, K1, L1⟩ := Jq H
 refine AM (fun a w => ∃ x1 : List (Int × Int × Int × Int), some (Sum.inl x1) = some o1 ∧ Fr 141 [] [(8, .bool false)] a ∧ Stw ⟨Y, X, w0⟩ [] [row v1 62 Ba x1] w) ?_ ?_
 ·
  have H := G1
  clear G1 K1
  refine Ah (Ac ?_)
  refine ls F W Aa (Ag F Aa).q fun a w F W => ?_
  refine Ae (Ab (Av ?_))
  refine Bk H (fun s a w => Fr 141 [] [(0, v1), (1, .int .i64 p1), (2, .int .i64 p2), (3, .func (.func 26) #[] #[]), (8, .bool false), (9, .int .i64 s.2.1), (10, .int .i64 s.2.2)] a ∧ Stw ⟨Y, X, w0⟩ [] [row v1 62 Ba s.1] w) ⟨F.re ⟨rfl, Aa, Aa, Aa, Aa, Aa, Aa, trivial⟩, W⟩ fun s o a w H L2 hR => ?_
  obtain ⟨x2, x3, x4⟩ := s
  obtain ⟨F, W⟩ := hR
  have F : Fr 141 [] [(0, v1), (1, .int .i64 p1), (2, .int .i64 p2), (3, .func (.func 26) #[] #[]), (8, .bool false), (9, .int .i64 x3), (10, .int .i64 x4)] a := F
  have W : Stw ⟨Y, X, w0⟩ [] [row v1 62 Ba x2] w := W
  rw [AG] at H
  refine Ah (Ah (Ac ?_))
  refine ls F W Aa (Ad F Aa).q fun a w F W => ?_
  refine ls F W Aa (BM F Aa Aa).q fun a w F W => ?_
  refine Ae (Ab ?_)
  refine AB F Aa (fun hb => ?_) fun hb => ?_
  ·
   have H := AR (Br hb) H
   rw [hb] at F
   clear hb
   refine Au (Ab ?_)
   obtain ⟨o3, G3, K3, L3⟩ := Jq H
   refine AM (fun a w => ∃ x5 : List (Int × Int × Int × Int), ∃ x6 : Int, some (Sum.inl (x5, x6)) = some o3 ∧ Fr 141 [] [(0, v1), (1, .int .i64 p1), (2, .int .i64 p2), (3, .func (.func 26) #[] #[]), (8, .bool false), (9, .int .i64 x6), (10, .int .i64 x4)] a ∧ Stw ⟨Y, X, w0⟩ [] [row v1 62 Ba x5] w) ?_ ?_
   ·
    have H := G3
    clear G3 K3
    refine Av ?_
    obtain ⟨o4, G4, K4⟩ := Al H
    refine AM (fun a w => ∃ x7 : Int, some (x7) = some o4 ∧ Fr 141 [] [(0, v1), (1, .int .i64 p1), (2, .int .i64 p2), (3, .func (.func 26) #[] #[]), (8, .bool false), (9, .int .i64 x7), (10, .int .i64 x4)] a ∧ Stw ⟨Y, X, w0⟩ [] [row v1 62 Ba x2] w) ?_ ?_
    ·
     have H := G4
     clear G4 K4
     refine Av ?_
     refine Bk H (fun s a w => Fr 141 [] [(0, v1), (1, .int .i64 p1), (2, .int .i64 p2), (3, .func (.func 26) #[] #[]), (8, .bool false), (9, .int .i64 s), (10, .int .i64 x4)] a ∧ Stw ⟨Y, X, w0⟩ [] [row v1 62 Ba x2] w) ⟨F.re ⟨rfl, Aa, Aa, Aa, Aa, Aa, Aa, trivial⟩, W⟩ fun s o a w H L5 hR => ?_
     obtain ⟨x8, rfl⟩ : ∃ x, x = s := ⟨s, rfl⟩
     obtain ⟨F, W⟩ := hR
     have F : Fr 141 [] [(0, v1), (1, .int .i64 p1), (2, .int .i64 p2), (3, .func (.func 26) #[] #[]), (8, .bool false), (9, .int .i64 x8), (10, .int .i64 x4)] a := F
     have W : Stw ⟨Y, X, w0⟩ [] [row v1 62 Ba x2] w := W
     rw [A4] at H
     refine Ah ?_
     obtain ⟨o6, G6, K6⟩ := Al H
     refine AM (fun a w => ∃ x9 : Bool, some (x9) = some o6 ∧ Fr 141 [] [(0, v1), (1, .int .i64 p1), (2, .int .i64 p2), (3, .func (.func 26) #[] #[]), (8, .bool false), (9, .int .i64 x8), (10, .int .i64 x4), (36, .bool x9)] a ∧ Stw ⟨Y, X, w0⟩ [] [row v1 62 Ba x2] w) ?_ ?_
     ·
      have H := G6
      clear G6 K6
      refine BQ W MO (by kernel_rfl) ?_
      iterate 2 refine qs F Aa (Ad F Aa).q fun a F => ?_
      refine qs F Aa (BM F Aa Aa).q fun a F => ?_
      refine qs F Aa (Ad F Aa).q fun a F => ?_
      rcases Bool.eq_false_or_eq_true (decide (x8 < p2)) with hb | hb
      ·
       have H := AR (Br hb) H
       rw [hb] at F
       clear hb
       iterate 3 refine Bc F (Af F Aa Aa Aa Aa) Aa (Aj Aa) (Ad F Aa).q fun a F => ?_
       obtain ⟨x10, h1, H⟩ := Al H
       refine Bc F (Af F Aa Aa Aa Aa) Aa (Aj Aa) (Ax (r := Ba) Ej F Aa Aa (An 0 Aa) h1).q fun a F => ?_
       refine Bc F (Af F Aa Aa Aa Aa) Aa (Aj Aa) (Ap (y := Value.agg #[.int .i64 x10.1, .int .i64 x10.2.1, .int .i64 x10.2.2.1, .int .i64 x10.2.2.2]) (j := 0) (i := x8) F Aa Aa (An 0 Aa) h1 El.to Ea Aa).q fun a F => ?_
       iterate 2 refine Bc F (Af F Aa Aa Aa Aa) Aa (Aj Aa) (Ad F Aa).q fun a F => ?_
       refine Bc F (Af F Aa Aa Aa Aa) Aa (Aj Aa) (Cm F Aa Aa Aa).q fun a F => ?_
       obtain ⟨x11, h2, H⟩ := Al H
       refine Bc F (Af F Aa Aa Aa Aa) Aa (Aj Aa) (Ax (r := Ba) Ej F Aa Aa (An 0 Aa) h2).q fun a F => ?_
       refine Bc F (Af F Aa Aa Aa Aa) Aa (Aj Aa) (Ap (y := Value.agg #[.int .i64 x11.1, .int .i64 x11.2.1, .int .i64 x11.2.2.1, .int .i64 x11.2.2.2]) (j := 0) (i := AC (x8 - 1)) F Aa Aa (An 0 Aa) h2 El.to Ea Aa).q fun a F => ?_
       obtain ⟨x12, h3, H⟩ := Al H
       refine Bc F (Af F Aa Aa Aa Aa) Aa (Aj Aa) (EG (ws := [.agg #[.int .i64 x10.1, .int .i64 x10.2.1, .int .i64 x10.2.2.1, .int .i64 x10.2.2.2], .agg #[.int .i64 x11.1, .int .i64 x11.2.1, .int .i64 x11.2.2.1, .int .i64 x11.2.2.2]]) (v := Value.int .i64 x12) F NR Aa (fun w W => B8 any w x10 x11 _ h3)) fun a F => ?_
       refine Bc F (Af F Aa Aa Aa Aa) Aa (Aj Aa) (BM F Aa Aa).q fun a F => ?_
       refine Bc F (Af F Aa Aa Aa Aa) Aa (Aj Aa) (En F Aa).q fun a F => ?_
       refine qs F Aa (Aq F Aa Aa Aa).q fun a F => ?_
       refine AZ fun w W => ?_
       refine Ab ?_
       exact ⟨_, H, F.re ⟨rfl, Aa, Aa, Aa, Aa, Aa, Aa, Aa, trivial⟩, W⟩
      have H := AS (Bq hb) H
      rw [hb] at F
      clear hb
      iterate 13 refine Dl F (Cy F Aa Aa Aa Aa Aa) Aa Aa fun a F => ?_
      refine qs F Aa (AA F Aa Aa Aa).q fun a F => ?_
      refine AZ fun w W => ?_
      refine Ab ?_
      exact ⟨_, H, F.re ⟨rfl, Aa, Aa, Aa, Aa, Aa, Aa, Aa, trivial⟩, W⟩
     rintro a w ⟨x9, hj, F, W⟩
     have hj := AX hj
     subst hj
     have H := K6
     clear G6 K6
     refine AB F Aa (fun hb => ?_) fun hb => ?_
     ·
      have H := AR hb H
      rw [hb] at F
      clear hb
      refine Au (Ab (Av (Ac ?_)))
      refine ls F W Aa (Ad F Aa).q fun a w F W => ?_
      refine ls F W Aa (BL F Aa Aa Aa).q fun a w F W => ?_
      refine ls F W Aa (Ag F Aa).q fun a w F W => ?_
      refine Ae (AP (Ab ?_))
      exact ⟨_, H, F.re ⟨rfl, Aa, Aa, Aa, Aa, Aa, Aa, trivial⟩, W⟩
     have H := AS (by rw [hb]; decide) H
     rw [hb] at F
     clear hb
     refine Bh ?_
     iterate 2 refine BK ?_
     refine Bj (Ab ?_)
     have H := L5 _ H
     exact ⟨_, H, F.re ⟨rfl, Aa, Aa, Aa, Aa, Aa, Aa, trivial⟩, W⟩
    rintro a w ⟨x7, hj, F, W⟩
    have hj := AX hj
    subst hj
    have H := K4
    clear G4 K4
    refine Ah (Ah (Ac ?_))
    iterate 2 refine ls F W Aa (Ad F Aa).q fun a w F W => ?_
    refine ls F W Aa (Dx F Aa Aa).q fun a w F W => ?_
    refine Ae (Ab ?_)
    refine AB F Aa (fun hb => ?_) fun hb => ?_
    ·
     have H := AR (Br hb) H
     rw [hb] at F
     clear hb
     refine Ah (Ac ?_)
     refine ls F W Aa (Ag F Aa).q fun a w F W => ?_
     refine Ae (Ab (AF (AK (AU ?_))))
     iterate 2 refine AK ?_
     refine AU (AK ?_)
     have H := L3 _ H
     have H := L2 _ H
     have H := L1 _ H
     have H := AX H
     subst H
     refine BA (.inl Aa) F W Aa (Ay F Aa) ?_
     exact ⟨(), Aa, W⟩
    have H := AS (Bq hb) H
    rw [hb] at F
    clear hb
    refine Au (Ab (Ah (Ah (Ac ?_))))
    iterate 2 refine ls F W Aa (Ad F Aa).q fun a w F W => ?_
    refine ls F W Aa (Cm F Aa Aa Aa).q fun a w F W => ?_
    refine ls F W Aa (BM F Aa Aa).q fun a w F W => ?_
    refine Ae (Ab ?_)
    refine AB F Aa (fun hb => ?_) fun hb => ?_
    ·
     have H := AR (Br hb) H
     rw [hb] at F
     clear hb
     refine Ah (Ac ?_)
     refine ls F W Aa (Ag F Aa).q fun a w F W => ?_
     refine Ae (Ab (AF (AK (AU ?_))))
     iterate 2 refine AK ?_
     refine AU (AK ?_)
     have H := L3 _ H
     have H := L2 _ H
     have H := L1 _ H
     have H := AX H
     subst H
     refine BA (.inl Aa) F W Aa (Ay F Aa) ?_
     exact ⟨(), Aa, W⟩
    have H := AS (Bq hb) H
    rw [hb] at F
    clear hb
    refine Au (Ab (Ah ?_))
    refine Gx [(true, 0), (true, 1), (true, 2), (true, 3), (true, 4), (true, 5), (true, 6), (true, 7), (true, 8), (true, 9), (true, 10), (true, 11), (true, 12), (true, 13), (true, 14), (false, 15), (true, 16), (false, 17)] (CN ⟨Y, X, w0⟩ [] [(some 15, row v1 62 Ba x2)]) (fun ch a d v w h => by cases d <;> exact h) MO (by kernel_rfl) W (fun w W => ⟨_, _, W, Bz, (all_cons (fun _ => (.head _)) Bz)⟩) fun w W => ?_
    iterate 4 refine Ca (R := []) F Aa Aa (yC fun M Z hN hZ => Ad F Aa) Aa Aa fun a F => ?_
    refine Ca (R := []) F Aa Aa (yC fun M Z hN hZ => Cm F Aa Aa Aa) Aa Aa fun a F => ?_
    iterate 2 refine Ca (R := []) F Aa Aa (yC fun M Z hN hZ => Ad F Aa) Aa Aa fun a F => ?_
    refine Ca (R := []) F Aa Aa (yC fun M Z hN hZ => Cm F Aa Aa Aa) Aa Aa fun a F => ?_
    obtain ⟨x13, h4, H⟩ := Al H
    refine Ca (R := []) F Aa Aa (yC fun M Z hN hZ => B4 (r := Ba) Ej F Aa Aa (D5 W (An 0 Aa)) h4) Aa Aa fun a F => ?_
    refine Ca (R := [15]) F Aa Aa (yC fun M Z hN hZ => Ap (y := Value.agg #[.int .i64 x13.1, .int .i64 x13.2.1, .int .i64 x13.2.2.1, .int .i64 x13.2.2.2]) (j := 0) (i := AC (x7 - 1)) F Aa Aa (DS (hZ ((some 15), row v1 62 Ba x2) (.head _) Aa)) h4 El.to Ea Aa) (by kernel_rfl) Aa fun a F => ?_
    iterate 2 refine Ca (R := []) F Aa Aa (yC fun M Z hN hZ => Ad F Aa) Aa Aa fun a F => ?_
    obtain ⟨x14, h5, H⟩ := Al H
    refine Ca (R := []) F Aa Aa (yC fun M Z hN hZ => B4 (r := Ba) Ej F Aa Aa (D5 W (An 0 Aa)) h5) Aa Aa fun a F => ?_
    refine Ca (R := [15]) F Aa Aa (yC fun M Z hN hZ => Ap (y := Value.agg #[.int .i64 x14.1, .int .i64 x14.2.1, .int .i64 x14.2.2.1, .int .i64 x14.2.2.2]) (j := 0) (i := x7) F Aa Aa (DS (hZ ((some 15), row v1 62 Ba x2) (.head _) Aa)) h5 El.to Ea Aa) (by kernel_rfl) Aa fun a F => ?_
    obtain ⟨x15, h6, H⟩ := Al H
    refine Ca (R := []) F Aa Aa (yC fun M Z hN hZ => B4 (r := Ba) Ej F Aa Aa (D5 W (An 0 Aa)) h6) Aa Aa fun a F => ?_
    refine ID Aa ?_
    refine Bx (i := x7) (j := 0) (vs := [.int .i64 x13.1, .int .i64 x13.2.1, .int .i64 x13.2.2.1, .int .i64 x13.2.2.2]) (x' := x13) F W Aa Aa Aa (k := 0) Aa Aa h6 Ea Aa Aa Aa Aa (fun A cs _ => El.sto (by rfl) _ _ _) fun w W => ?_
    refine D1 (N2 := []) (NZ2 := []) (N3 := []) (NZ3 := [(some 15, row v1 62 Ba x2)]) W Aa Aa Bz (all_cons (fun h => DV (by kernel_rfl) h) Bz) ?_
    obtain ⟨x16, h7, H⟩ := Al H
    refine Ca (R := []) F Aa Aa (yC fun M Z hN hZ => B4 (r := Ba) Ej F Aa Aa (D5 W (An 0 Aa)) h7) Aa Aa fun a F => ?_
    refine ID Aa ?_
    refine Bx (i := AC (x7 - 1)) (j := 0) (vs := [.int .i64 x14.1, .int .i64 x14.2.1, .int .i64 x14.2.2.1, .int .i64 x14.2.2.2]) (x' := x14) F W Aa Aa Aa (k := 0) Aa Aa h7 Ea Aa Aa Aa Aa (fun A cs _ => El.sto (by rfl) _ _ _) fun w W => ?_
    refine D1 (N2 := []) (NZ2 := []) (N3 := []) (NZ3 := [(some 15, row v1 62 Ba x2)]) W Aa Aa Bz (all_cons (fun h => DV (by kernel_rfl) h) Bz) ?_
    refine IC (Ab ?_)
    obtain ⟨o7, G7, K7⟩ := Al H
    refine AM (fun a w => ∃ x17 : List (Int × Int × Int × Int), some (x17) = some o7 ∧ Fr 141 [] [(0, v1), (1, .int .i64 p1), (2, .int .i64 p2), (3, .func (.func 26) #[] #[]), (8, .bool false), (9, .int .i64 x7), (10, .int .i64 x4)] a ∧ Stw ⟨Y, X, w0⟩ [] [row v1 62 Ba x17] w) ?_ ?_
    ·
     have H := G7
     clear G7 K7
     refine Ah (Ac ?_)
     iterate 2 refine ls F W Aa (Ad F Aa).q fun a w F W => ?_
     refine ls F W Aa (Cm F Aa Aa Aa).q fun a w F W => ?_
     refine ls F W Aa (DL F Aa Aa).q fun a w F W => ?_
     refine Ae (Ab ?_)
     refine AB F Aa (fun hb => ?_) fun hb => ?_
     ·
      have H := AR (Br hb) H
      rw [hb] at F
      clear hb
      refine Ah (Ac ?_)
      refine ls F W Aa (Ad F Aa).q fun a w F W => ?_
      refine ls F W Aa (Cm F Aa Aa Aa).q fun a w F W => ?_
      refine ls F W Aa (Ag F Aa).q fun a w F W => ?_
      refine Ae (Ab (Av ?_))
      refine Bk H (fun s a w => Fr 141 [] [(0, v1), (1, .int .i64 p1), (2, .int .i64 p2), (3, .func (.func 26) #[] #[]), (8, .bool false), (9, .int .i64 x7), (10, .int .i64 x4), (11, .int .i64 s.2)] a ∧ Stw ⟨Y, X, w0⟩ [] [row v1 62 Ba s.1] w) ⟨F.re ⟨rfl, Aa, Aa, Aa, Aa, Aa, Aa, Aa, trivial⟩, W⟩ fun s o a w H L8 hR => ?_
      obtain ⟨x18, x19⟩ := s
      obtain ⟨F, W⟩ := hR
      have F : Fr 141 [] [(0, v1), (1, .int .i64 p1), (2, .int .i64 p2), (3, .func (.func 26) #[] #[]), (8, .bool false), (9, .int .i64 x7), (10, .int .i64 x4), (11, .int .i64 x19)] a := F
      have W : Stw ⟨Y, X, w0⟩ [] [row v1 62 Ba x18] w := W
      rw [AD] at H
      refine Ah (Ah (Ac ?_))
      refine ls F W Aa (Ad F Aa).q fun a w F W => ?_
      refine ls F W Aa (DL F Aa Aa).q fun a w F W => ?_
      refine Ae (Ab ?_)
      refine AB F Aa (fun hb => ?_) fun hb => ?_
      ·
       have H := AR (Br hb) H
       rw [hb] at F
       clear hb
       refine Au (Ab (Ah (Av ?_)))
       iterate 2 refine Ah ?_
       refine BQ W MO (by kernel_rfl) ?_
       iterate 3 refine qs F Aa (Ad F Aa).q fun a F => ?_
       obtain ⟨x20, h8, H⟩ := Al H
       refine qs F Aa (Ax (r := Ba) Ej F Aa Aa (An 0 Aa) h8).q fun a F => ?_
       refine qs F Aa (Ap (y := Value.agg #[.int .i64 x20.1, .int .i64 x20.2.1, .int .i64 x20.2.2.1, .int .i64 x20.2.2.2]) (j := 0) (i := x19) F Aa Aa (An 0 Aa) h8 El.to Ea Aa).q fun a F => ?_
       iterate 2 refine qs F Aa (Ad F Aa).q fun a F => ?_
       refine qs F Aa (Cm F Aa Aa Aa).q fun a F => ?_
       obtain ⟨x21, h9, H⟩ := Al H
       refine qs F Aa (Ax (r := Ba) Ej F Aa Aa (An 0 Aa) h9).q fun a F => ?_
       refine qs F Aa (Ap (y := Value.agg #[.int .i64 x21.1, .int .i64 x21.2.1, .int .i64 x21.2.2.1, .int .i64 x21.2.2.2]) (j := 0) (i := AC (x19 - 1)) F Aa Aa (An 0 Aa) h9 El.to Ea Aa).q fun a F => ?_
       obtain ⟨x22, h10, H⟩ := Al H
       refine qs F Aa (EG (ws := [.agg #[.int .i64 x20.1, .int .i64 x20.2.1, .int .i64 x20.2.2.1, .int .i64 x20.2.2.2], .agg #[.int .i64 x21.1, .int .i64 x21.2.1, .int .i64 x21.2.2.1, .int .i64 x21.2.2.2]]) (v := Value.int .i64 x22) F NR Aa (fun w W => B8 any w x20 x21 _ h10)) fun a F => ?_
       refine qs F Aa (BM F Aa Aa).q fun a F => ?_
       refine qs F Aa (En F Aa).q fun a F => ?_
       refine AZ fun w W => ?_
       refine Ab ?_
       refine AB F Aa (fun hb => ?_) fun hb => ?_
       ·
        have H := AR hb H
        rw [hb] at F
        clear hb
        refine Bh (BK ?_)
        refine Lp Aa ?_
        iterate 2 refine BK ?_
        refine Bj (Ab ?_)
        have H := L8 _ H
        exact ⟨_, H, F.re ⟨rfl, Aa, Aa, Aa, Aa, Aa, Aa, trivial⟩, W⟩
       have H := AS (by rw [hb]; decide) H
       rw [hb] at F
       clear hb
       refine Au (Ab ?_)
       refine Gx [(true, 0), (true, 1), (true, 2), (true, 3), (true, 4), (true, 5), (true, 6), (true, 7), (true, 8), (true, 9), (true, 10), (true, 11), (true, 12), (true, 13), (true, 14), (false, 15), (true, 16), (false, 17)] (CN ⟨Y, X, w0⟩ [] [(some 15, row v1 62 Ba x18)]) (fun ch a d v w h => by cases d <;> exact h) MO (by kernel_rfl) W (fun w W => ⟨_, _, W, Bz, (all_cons (fun _ => (.head _)) Bz)⟩) fun w W => ?_
       iterate 4 refine Ca (R := []) F Aa Aa (yC fun M Z hN hZ => Ad F Aa) Aa Aa fun a F => ?_
       refine Ca (R := []) F Aa Aa (yC fun M Z hN hZ => Cm F Aa Aa Aa) Aa Aa fun a F => ?_
       iterate 2 refine Ca (R := []) F Aa Aa (yC fun M Z hN hZ => Ad F Aa) Aa Aa fun a F => ?_
       refine Ca (R := []) F Aa Aa (yC fun M Z hN hZ => Cm F Aa Aa Aa) Aa Aa fun a F => ?_
       obtain ⟨x23, h11, H⟩ := Al H
       refine Ca (R := []) F Aa Aa (yC fun M Z hN hZ => B4 (r := Ba) Ej F Aa Aa (D5 W (An 0 Aa)) h11) Aa Aa fun a F => ?_
       refine Ca (R := [15]) F Aa Aa (yC fun M Z hN hZ => Ap (y := Value.agg #[.int .i64 x23.1, .int .i64 x23.2.1, .int .i64 x23.2.2.1, .int .i64 x23.2.2.2]) (j := 0) (i := AC (x19 - 1)) F Aa Aa (DS (hZ ((some 15), row v1 62 Ba x18) (.head _) Aa)) h11 El.to Ea Aa) (by kernel_rfl) Aa fun a F => ?_
       iterate 2 refine Ca (R := []) F Aa Aa (yC fun M Z hN hZ => Ad F Aa) Aa Aa fun a F => ?_
       obtain ⟨x24, h12, H⟩ := Al H
       refine Ca (R := []) F Aa Aa (yC fun M Z hN hZ => B4 (r := Ba) Ej F Aa Aa (D5 W (An 0 Aa)) h12) Aa Aa fun a F => ?_
       refine Ca (R := [15]) F Aa Aa (yC fun M Z hN hZ => Ap (y := Value.agg #[.int .i64 x24.1, .int .i64 x24.2.1, .int .i64 x24.2.2.1, .int .i64 x24.2.2.2]) (j := 0) (i := x19) F Aa Aa (DS (hZ ((some 15), row v1 62 Ba x18) (.head _) Aa)) h12 El.to Ea Aa) (by kernel_rfl) Aa fun a F => ?_
       obtain ⟨x25, h13, H⟩ := Al H
       refine Ca (R := []) F Aa Aa (yC fun M Z hN hZ => B4 (r := Ba) Ej F Aa Aa (D5 W (An 0 Aa)) h13) Aa Aa fun a F => ?_
       refine ID Aa ?_
       refine Bx (i := x19) (j := 0) (vs := [.int .i64 x23.1, .int .i64 x23.2.1, .int .i64 x23.2.2.1, .int .i64 x23.2.2.2]) (x' := x23) F W Aa Aa Aa (k := 0) Aa Aa h13 Ea Aa Aa Aa Aa (fun A cs _ => El.sto (by rfl) _ _ _) fun w W => ?_
       refine D1 (N2 := []) (NZ2 := []) (N3 := []) (NZ3 := [(some 15, row v1 62 Ba x18)]) W Aa Aa Bz (all_cons (fun h => DV (by kernel_rfl) h) Bz) ?_
       obtain ⟨x26, h14, H⟩ := Al H
       refine Ca (R := []) F Aa Aa (yC fun M Z hN hZ => B4 (r := Ba) Ej F Aa Aa (D5 W (An 0 Aa)) h14) Aa Aa fun a F => ?_
       refine ID Aa ?_
       refine Bx (i := AC (x19 - 1)) (j := 0) (vs := [.int .i64 x24.1, .int .i64 x24.2.1, .int .i64 x24.2.2.1, .int .i64 x24.2.2.2]) (x' := x24) F W Aa Aa Aa (k := 0) Aa Aa h14 Ea Aa Aa Aa Aa (fun A cs _ => El.sto (by rfl) _ _ _) fun w W => ?_
       refine D1 (N2 := []) (NZ2 := []) (N3 := []) (NZ3 := [(some 15, row v1 62 Ba x18)]) W Aa Aa Bz (all_cons (fun h => DV (by kernel_rfl) h) Bz) ?_
       refine IC (AP (Ab (Ac ?_)))
       refine ls F W Aa (Ad F Aa).q fun a w F W => ?_
       refine ls F W Aa (Cm F Aa Aa Aa).q fun a w F W => ?_
       refine ls F W Aa (Ag F Aa).q fun a w F W => ?_
       refine Ae (Ab ?_)
       exact ⟨_, H, F.re ⟨rfl, Aa, Aa, Aa, Aa, Aa, Aa, Aa, trivial⟩, W⟩
      have H := AS (Bq hb) H
      rw [hb] at F
      clear hb
      refine Bh ?_
      iterate 2 refine BK ?_
      refine Bj (Ab ?_)
      have H := L8 _ H
      exact ⟨_, H, F.re ⟨rfl, Aa, Aa, Aa, Aa, Aa, Aa, trivial⟩, W⟩
     have H := AS (Bq hb) H
     rw [hb] at F
     clear hb
     refine Au (Ab ?_)
     exact ⟨_, H, F.re ⟨rfl, Aa, Aa, Aa, Aa, Aa, Aa, trivial⟩, W⟩
    rintro a w ⟨x17, hj, F, W⟩
    have hj := AX hj
    subst hj
    have H := K7
    clear G7 K7
    refine Ah (Ac ?_)
    iterate 2 refine ls F W Aa (Ad F Aa).q fun a w F W => ?_
    refine ls F W Aa (Cm F Aa Aa Aa).q fun a w F W => ?_
    refine ls F W Aa (DL F Aa Aa).q fun a w F W => ?_
    refine Ae (Ab ?_)
    refine AB F Aa (fun hb => ?_) fun hb => ?_
    ·
     have H := AR (Br hb) H
     rw [hb] at F
     clear hb
     refine Ah (Ac ?_)
     refine ls F W Aa (Ad F Aa).q fun a w F W => ?_
     refine ls F W Aa (BL F Aa Aa Aa).q fun a w F W => ?_
     refine ls F W Aa (Ag F Aa).q fun a w F W => ?_
     refine Ae (Ab (Av ?_))
     refine Bk H (fun s a w => Fr 141 [] [(0, v1), (1, .int .i64 p1), (2, .int .i64 p2), (3, .func (.func 26) #[] #[]), (8, .bool false), (9, .int .i64 x7), (10, .int .i64 x4), (12, .int .i64 s.2)] a ∧ Stw ⟨Y, X, w0⟩ [] [row v1 62 Ba s.1] w) ⟨F.re ⟨rfl, Aa, Aa, Aa, Aa, Aa, Aa, Aa, trivial⟩, W⟩ fun s o a w H L9 hR => ?_
     obtain ⟨x27, x28⟩ := s
     obtain ⟨F, W⟩ := hR
     have F : Fr 141 [] [(0, v1), (1, .int .i64 p1), (2, .int .i64 p2), (3, .func (.func 26) #[] #[]), (8, .bool false), (9, .int .i64 x7), (10, .int .i64 x4), (12, .int .i64 x28)] a := F
     have W : Stw ⟨Y, X, w0⟩ [] [row v1 62 Ba x27] w := W
     rw [AH] at H
     refine Ah (Ah (Ac ?_))
     iterate 2 refine ls F W Aa (Ad F Aa).q fun a w F W => ?_
     refine ls F W Aa (BM F Aa Aa).q fun a w F W => ?_
     refine Ae (Ab ?_)
     refine AB F Aa (fun hb => ?_) fun hb => ?_
     ·
      have H := AR (Br hb) H
      rw [hb] at F
      clear hb
      refine Au (Ab (Ah (Av ?_)))
      iterate 2 refine Ah ?_
      refine BQ W MO (by kernel_rfl) ?_
      iterate 3 refine qs F Aa (Ad F Aa).q fun a F => ?_
      obtain ⟨x29, h15, H⟩ := Al H
      refine qs F Aa (Ax (r := Ba) Ej F Aa Aa (An 0 Aa) h15).q fun a F => ?_
      refine qs F Aa (Ap (y := Value.agg #[.int .i64 x29.1, .int .i64 x29.2.1, .int .i64 x29.2.2.1, .int .i64 x29.2.2.2]) (j := 0) (i := x28) F Aa Aa (An 0 Aa) h15 El.to Ea Aa).q fun a F => ?_
      iterate 2 refine qs F Aa (Ad F Aa).q fun a F => ?_
      refine qs F Aa (Cm F Aa Aa Aa).q fun a F => ?_
      obtain ⟨x30, h16, H⟩ := Al H
      refine qs F Aa (Ax (r := Ba) Ej F Aa Aa (An 0 Aa) h16).q fun a F => ?_
      refine qs F Aa (Ap (y := Value.agg #[.int .i64 x30.1, .int .i64 x30.2.1, .int .i64 x30.2.2.1, .int .i64 x30.2.2.2]) (j := 0) (i := AC (x28 - 1)) F Aa Aa (An 0 Aa) h16 El.to Ea Aa).q fun a F => ?_
      obtain ⟨x31, h17, H⟩ := Al H
      refine qs F Aa (EG (ws := [.agg #[.int .i64 x29.1, .int .i64 x29.2.1, .int .i64 x29.2.2.1, .int .i64 x29.2.2.2], .agg #[.int .i64 x30.1, .int .i64 x30.2.1, .int .i64 x30.2.2.1, .int .i64 x30.2.2.2]]) (v := Value.int .i64 x31) F NR Aa (fun w W => B8 any w x29 x30 _ h17)) fun a F => ?_
      refine qs F Aa (BM F Aa Aa).q fun a F => ?_
      refine qs F Aa (En F Aa).q fun a F => ?_
      refine AZ fun w W => ?_
      refine Ab ?_
      refine AB F Aa (fun hb => ?_) fun hb => ?_
      ·
       have H := AR hb H
       rw [hb] at F
       clear hb
       refine Bh (BK ?_)
       refine Lp Aa ?_
       iterate 2 refine BK ?_
       refine Bj (AP (Ab ?_))
       have H := L9 _ H
       exact ⟨_, _, H, F.re ⟨rfl, Aa, Aa, Aa, Aa, Aa, Aa, trivial⟩, W⟩
      have H := AS (by rw [hb]; decide) H
      rw [hb] at F
      clear hb
      refine Au (Ab ?_)
      refine Gx [(true, 0), (true, 1), (true, 2), (true, 3), (true, 4), (true, 5), (true, 6), (true, 7), (true, 8), (true, 9), (true, 10), (true, 11), (true, 12), (true, 13), (true, 14), (false, 15), (true, 16), (false, 17)] (CN ⟨Y, X, w0⟩ [] [(some 15, row v1 62 Ba x27)]) (fun ch a d v w h => by cases d <;> exact h) MO (by kernel_rfl) W (fun w W => ⟨_, _, W, Bz, (all_cons (fun _ => (.head _)) Bz)⟩) fun w W => ?_
      iterate 4 refine Ca (R := []) F Aa Aa (yC fun M Z hN hZ => Ad F Aa) Aa Aa fun a F => ?_
      refine Ca (R := []) F Aa Aa (yC fun M Z hN hZ => Cm F Aa Aa Aa) Aa Aa fun a F => ?_
      iterate 2 refine Ca (R := []) F Aa Aa (yC fun M Z hN hZ => Ad F Aa) Aa Aa fun a F => ?_
      refine Ca (R := []) F Aa Aa (yC fun M Z hN hZ => Cm F Aa Aa Aa) Aa Aa fun a F => ?_
      obtain ⟨x32, h18, H⟩ := Al H
      refine Ca (R := []) F Aa Aa (yC fun M Z hN hZ => B4 (r := Ba) Ej F Aa Aa (D5 W (An 0 Aa)) h18) Aa Aa fun a F => ?_
      refine Ca (R := [15]) F Aa Aa (yC fun M Z hN hZ => Ap (y := Value.agg #[.int .i64 x32.1, .int .i64 x32.2.1, .int .i64 x32.2.2.1, .int .i64 x32.2.2.2]) (j := 0) (i := AC (x28 - 1)) F Aa Aa (DS (hZ ((some 15), row v1 62 Ba x27) (.head _) Aa)) h18 El.to Ea Aa) (by kernel_rfl) Aa fun a F => ?_
      iterate 2 refine Ca (R := []) F Aa Aa (yC fun M Z hN hZ => Ad F Aa) Aa Aa fun a F => ?_
      obtain ⟨x33, h19, H⟩ := Al H
      refine Ca (R := []) F Aa Aa (yC fun M Z hN hZ => B4 (r := Ba) Ej F Aa Aa (D5 W (An 0 Aa)) h19) Aa Aa fun a F => ?_
      refine Ca (R := [15]) F Aa Aa (yC fun M Z hN hZ => Ap (y := Value.agg #[.int .i64 x33.1, .int .i64 x33.2.1, .int .i64 x33.2.2.1, .int .i64 x33.2.2.2]) (j := 0) (i := x28) F Aa Aa (DS (hZ ((some 15), row v1 62 Ba x27) (.head _) Aa)) h19 El.to Ea Aa) (by kernel_rfl) Aa fun a F => ?_
      obtain ⟨x34, h20, H⟩ := Al H
      refine Ca (R := []) F Aa Aa (yC fun M Z hN hZ => B4 (r := Ba) Ej F Aa Aa (D5 W (An 0 Aa)) h20) Aa Aa fun a F => ?_
      refine ID Aa ?_
      refine Bx (i := x28) (j := 0) (vs := [.int .i64 x32.1, .int .i64 x32.2.1, .int .i64 x32.2.2.1, .int .i64 x32.2.2.2]) (x' := x32) F W Aa Aa Aa (k := 0) Aa Aa h20 Ea Aa Aa Aa Aa (fun A cs _ => El.sto (by rfl) _ _ _) fun w W => ?_
      refine D1 (N2 := []) (NZ2 := []) (N3 := []) (NZ3 := [(some 15, row v1 62 Ba x27)]) W Aa Aa Bz (all_cons (fun h => DV (by kernel_rfl) h) Bz) ?_
      obtain ⟨x35, h21, H⟩ := Al H
      refine Ca (R := []) F Aa Aa (yC fun M Z hN hZ => B4 (r := Ba) Ej F Aa Aa (D5 W (An 0 Aa)) h21) Aa Aa fun a F => ?_
      refine ID Aa ?_
      refine Bx (i := AC (x28 - 1)) (j := 0) (vs := [.int .i64 x33.1, .int .i64 x33.2.1, .int .i64 x33.2.2.1, .int .i64 x33.2.2.2]) (x' := x33) F W Aa Aa Aa (k := 0) Aa Aa h21 Ea Aa Aa Aa Aa (fun A cs _ => El.sto (by rfl) _ _ _) fun w W => ?_
      refine D1 (N2 := []) (NZ2 := []) (N3 := []) (NZ3 := [(some 15, row v1 62 Ba x27)]) W Aa Aa Bz (all_cons (fun h => DV (by kernel_rfl) h) Bz) ?_
      refine IC (AP (Ab (Ac ?_)))
      refine ls F W Aa (Ad F Aa).q fun a w F W => ?_
      refine ls F W Aa (BL F Aa Aa Aa).q fun a w F W => ?_
      refine ls F W Aa (Ag F Aa).q fun a w F W => ?_
      refine Ae (Ab ?_)
      exact ⟨_, H, F.re ⟨rfl, Aa, Aa, Aa, Aa, Aa, Aa, Aa, trivial⟩, W⟩
     have H := AS (Bq hb) H
     rw [hb] at F
     clear hb
     refine Bh ?_
     iterate 2 refine BK ?_
     refine Bj (AP (Ab ?_))
     have H := L9 _ H
     exact ⟨_, _, H, F.re ⟨rfl, Aa, Aa, Aa, Aa, Aa, Aa, trivial⟩, W⟩
    have H := AS (Bq hb) H
    rw [hb] at F
    clear hb
    refine Au (AP (Ab ?_))
    exact ⟨_, _, H, F.re ⟨rfl, Aa, Aa, Aa, Aa, Aa, Aa, trivial⟩, W⟩
   rintro a w ⟨x5, x6, hj, F, W⟩
   have H := K3 _ hj
   clear hj G3 K3 L3
   refine Ac ?_
   refine ls F W Aa (Ad F Aa).q fun a w F W => ?_
   refine ls F W Aa (BL F Aa Aa Aa).q fun a w F W => ?_
   refine ls F W Aa (Ag F Aa).q fun a w F W => ?_
   refine Ae (Ab ?_)
   exact ⟨_, H, F.re ⟨rfl, Aa, Aa, Aa, Aa, Aa, Aa, trivial⟩, W⟩
  have H := AS (Bq hb) H
  rw [hb] at F
  clear hb
  refine Bh ?_
  iterate 2 refine BK ?_
  refine Bj (Ab ?_)
  have H := L2 _ H
  exact ⟨_, H, F.re ⟨rfl, trivial⟩, W⟩
 rintro a w ⟨x1, hj, F, W⟩
 have H := K1 _ hj
 clear hj G1 K1 L1
 refine Ah (Ac ?_)
 refine ls F W Aa (Ag F Aa).q fun a w F W => ?_
 refine Ae (Ab (AF ?_))
 have H := AX H
 subst H
 refine BA (.inl Aa) F W Aa (Ay F Aa) ?_
 exact ⟨(), Aa, W⟩
theorem TB : Has Try.prog 64 := ⟨fun args w => Am Try.func64 rfl (by decide) args w⟩
noncomputable def Be (p1 : Int) (x7 : List (Int × Int × Int × Int)) (x9 : Int) : Int → Option (Int ⊕ Int)
  | x11 => (if x11 ≤ x9 then (ix x7 p1).bind fun x13 => (ix x7 x11).bind fun x14 => (BT x13 x14).bind fun x15 => some (!(decide (x15 < 0))) else some false).bind fun x12 => (if x12 = true then some (.inl (AC (x11 + 1))) else some (.inr x11))
noncomputable def Bd (p1 : Int) (x7 : List (Int × Int × Int × Int)) (x10 : Int) : Int → Option (Int ⊕ Int)
  | x17 => (if x10 ≤ x17 then (ix x7 p1).bind fun x19 => (ix x7 x17).bind fun x20 => (BT x19 x20).bind fun x21 => some (decide (x21 < 0)) else some false).bind fun x18 => (if x18 = true then some (.inl (AC (x17 - 1))) else some (.inr x17))
noncomputable def A5 (p1 : Int) : ((List (Int × Int × Int × Int)) × Int × Int) → Option (((List (Int × Int × Int × Int)) × Int × Int) ⊕ (Int × (List (Int × Int × Int × Int))))
  | (x7, x8, x9) => (AO (Be p1 x7 x9) x8).bind fun x10 => (AO (Bd p1 x7 x10) x9).bind fun x16 => (if x16 < x10 then some (.inr (x10, x7)) else (ix x7 x16).bind fun x22 => (ix x7 x10).bind fun x23 => (ix x7 x10).bind fun x24 => (ix (Aw x7 x10 x22) x16).bind fun x25 => some (.inl ((Aw (Aw x7 x10 x22) x16 x23), AC (x10 + 1), AC (x16 - 1))))
noncomputable def Bp (p0 : List (Int × Int × Int × Int)) (p1 : Int) (p2 : Int) (p3 : Int) : Option (Int × (List (Int × Int × Int × Int))) := (ix p0 p3).bind fun x1 => (ix p0 p1).bind fun x2 => (ix p0 p1).bind fun x3 => (ix (Aw p0 p1 x1) p3).bind fun x4 => (AO (A5 p1) ((Aw (Aw p0 p1 x1) p3 x2), AC (p1 + 1), AC (p2 - 1))).bind fun (x5, x6) => some (x5, x6)
theorem E1 (Y : Nat → Prop) (X : List Nat) (w0 : World) (v1 : Value) (p0 : List (Int × Int × Int × Int)) (p1 : Int) (p2 : Int) (p3 : Int) (r : Int × (List (Int × Int × Int × Int))) (H : Bp p0 p1 p2 p3 = some r) (hL : Stw ⟨Y, X, w0⟩ [] [row v1 62 Ba p0] w0) :
    Calls Try.prog 65 #[v1, .int .i64 p1, .int .i64 p2, .int .i64 p3, .func (.func 26) #[] #[]] w0 fun e w' => ∃ x : Unit, e = .returned (.int .i64 r.1) ∧ Stw ⟨Y, X, w0⟩ [] [row v1 62 Ba r.2] w' := by
 refine enter Try.func65 Aa Try.ntmps65 Aa fun a F => ?_
 have W := hL
 unfold Bp at H
 refine Ah (Ac ?_)
 refine ls F W Aa (Ag F Aa).q fun a w F W => ?_
 refine Ae (Ab (Ah ?_))
 refine H1 13 [2, 3] [0, 1, 4, 5, 6, 7, 8, 9, 10, 11, 12] (fun ch a d v w h => by cases d <;> exact h) W MO (by kernel_rfl) ?_
 iterate 2 refine hm F Aa Aa Aa fun a F => ?_
 refine Ja ?_
 iterate 4 refine hs F Aa Aa Aa (Ad F Aa).q fun a F => ?_
 obtain ⟨x1, h1, H⟩ := Al H
 refine hs F Aa Aa Aa (Ax (r := Ba) Ej F Aa Aa (An 0 Aa) h1).q fun a F => ?_
 refine hs F Aa Aa Aa (Ap (y := Value.agg #[.int .i64 x1.1, .int .i64 x1.2.1, .int .i64 x1.2.2.1, .int .i64 x1.2.2.2]) (j := 0) (i := p3) F Aa Aa (An 0 Aa) h1 El.to Ea Aa).q fun a F => ?_
 iterate 2 refine hs F Aa Aa Aa (Ad F Aa).q fun a F => ?_
 obtain ⟨x2, h2, H⟩ := Al H
 refine hs F Aa Aa Aa (Ax (r := Ba) Ej F Aa Aa (An 0 Aa) h2).q fun a F => ?_
 refine hs F Aa Aa Aa (Ap (y := Value.agg #[.int .i64 x2.1, .int .i64 x2.2.1, .int .i64 x2.2.2.1, .int .i64 x2.2.2.2]) (j := 0) (i := p1) F Aa Aa (An 0 Aa) h2 El.to Ea Aa).q fun a F => ?_
 obtain ⟨x3, h3, H⟩ := Al H
 refine hs F Aa Aa Aa (Ax (r := Ba) Ej F Aa Aa (An 0 Aa) h3).q fun a F => ?_
 refine Kq fun w W => ?_
 have W : Stw ⟨Y, X, w0⟩ [] [row v1 62 Ba p0] w := W
 refine Bx (i := p1) (j := 0) (vs := [.int .i64 x1.1, .int .i64 x1.2.1, .int .i64 x1.2.2.1, .int .i64 x1.2.2.2]) (x' := x1) F W Aa Aa Aa (k := 0) Aa Aa h3 Ea Aa Aa Aa Aa (fun A cs _ => El.sto (by rfl) _ _ _) fun w W => ?_
 obtain ⟨x4, h4, H⟩ := Al H
 refine ls F W Aa (Ax (r := Ba) Ej F Aa Aa (An 0 Aa) h4).q fun a w F W => ?_
 refine Bx (i := p3) (j := 0) (vs := [.int .i64 x2.1, .int .i64 x2.2.1, .int .i64 x2.2.2.1, .int .i64 x2.2.2.2]) (x' := x2) F W Aa Aa Aa (k := 0) Aa Aa h4 Ea Aa Aa Aa Aa (fun A cs _ => El.sto (by rfl) _ _ _) fun w W => ?_
 refine Ae (Ab (Ah (Ac ?_)))
 refine ls F W Aa (Ad F Aa).q fun a w F W => ?_
 refine ls F W Aa (BL F Aa Aa Aa).q fun a w F W => ?_
 refine ls F W Aa (Ad F Aa).q fun a w F W => ?_
 refine ls F W Aa (Cm F Aa Aa Aa).q fun a w F W => ?_
 iterate 2 refine ls F W Aa (Ag F Aa).q fun a w F W => ?_
 refine Ae (Ab ?_)
 obtain ⟨o1, G1, K1⟩ := Al H
 refine AM (fun a w => ∃ x5 : Int, ∃ x6 : List (Int × Int × Int × Int), some ((x5, x6)) = some o1 ∧ Fr 90 [] [(10, .int .i64 0), (11, .int .i64 x5)] a ∧ Stw ⟨Y, X, w0⟩ [] [row v1 62 Ba x6] w) ?_ ?_
 ·
  have H := G1
  clear G1 K1
  refine Av ?_
  refine Bk H (fun s a w => Fr 90 [] [(0, v1), (1, .int .i64 p1), (4, .func (.func 26) #[] #[]), (10, .int .i64 0), (11, .int .i64 s.2.1), (12, .int .i64 s.2.2)] a ∧ Stw ⟨Y, X, w0⟩ [] [row v1 62 Ba s.1] w) ⟨F.re ⟨rfl, Aa, Aa, Aa, Aa, Aa, trivial⟩, W⟩ fun s o a w H L2 hR => ?_
  obtain ⟨x7, x8, x9⟩ := s
  obtain ⟨F, W⟩ := hR
  have F : Fr 90 [] [(0, v1), (1, .int .i64 p1), (4, .func (.func 26) #[] #[]), (10, .int .i64 0), (11, .int .i64 x8), (12, .int .i64 x9)] a := F
  have W : Stw ⟨Y, X, w0⟩ [] [row v1 62 Ba x7] w := W
  rw [A5] at H
  refine Av ?_
  obtain ⟨o3, G3, K3⟩ := Al H
  refine AM (fun a w => ∃ x10 : Int, some (x10) = some o3 ∧ Fr 90 [] [(0, v1), (1, .int .i64 p1), (4, .func (.func 26) #[] #[]), (10, .int .i64 0), (11, .int .i64 x10), (12, .int .i64 x9)] a ∧ Stw ⟨Y, X, w0⟩ [] [row v1 62 Ba x7] w) ?_ ?_
  ·
   have H := G3
   clear G3 K3
   refine Av ?_
   refine Bk H (fun s a w => Fr 90 [] [(0, v1), (1, .int .i64 p1), (4, .func (.func 26) #[] #[]), (10, .int .i64 0), (11, .int .i64 s), (12, .int .i64 x9)] a ∧ Stw ⟨Y, X, w0⟩ [] [row v1 62 Ba x7] w) ⟨F.re ⟨rfl, Aa, Aa, Aa, Aa, Aa, trivial⟩, W⟩ fun s o a w H L4 hR => ?_
   obtain ⟨x11, rfl⟩ : ∃ x, x = s := ⟨s, rfl⟩
   obtain ⟨F, W⟩ := hR
   have F : Fr 90 [] [(0, v1), (1, .int .i64 p1), (4, .func (.func 26) #[] #[]), (10, .int .i64 0), (11, .int .i64 x11), (12, .int .i64 x9)] a := F
   have W : Stw ⟨Y, X, w0⟩ [] [row v1 62 Ba x7] w := W
   rw [Be] at H
   refine Ah ?_
   obtain ⟨o5, G5, K5⟩ := Al H
   refine AM (fun a w => ∃ x12 : Bool, some (x12) = some o5 ∧ Fr 90 [] [(0, v1), (1, .int .i64 p1), (4, .func (.func 26) #[] #[]), (10, .int .i64 0), (11, .int .i64 x11), (12, .int .i64 x9), (47, .bool x12)] a ∧ Stw ⟨Y, X, w0⟩ [] [row v1 62 Ba x7] w) ?_ ?_
   ·
    have H := G5
    clear G5 K5
    refine BQ W MO (by kernel_rfl) ?_
    iterate 2 refine qs F Aa (Ad F Aa).q fun a F => ?_
    refine qs F Aa (H0 F Aa Aa).q fun a F => ?_
    refine qs F Aa (Ad F Aa).q fun a F => ?_
    rcases Bool.eq_false_or_eq_true (decide (x11 ≤ x9)) with hb | hb
    ·
     have H := AR (Br hb) H
     rw [hb] at F
     clear hb
     iterate 3 refine Bc F (Af F Aa Aa Aa Aa) Aa (Aj Aa) (Ad F Aa).q fun a F => ?_
     obtain ⟨x13, h5, H⟩ := Al H
     refine Bc F (Af F Aa Aa Aa Aa) Aa (Aj Aa) (Ax (r := Ba) Ej F Aa Aa (An 0 Aa) h5).q fun a F => ?_
     refine Bc F (Af F Aa Aa Aa Aa) Aa (Aj Aa) (Ap (y := Value.agg #[.int .i64 x13.1, .int .i64 x13.2.1, .int .i64 x13.2.2.1, .int .i64 x13.2.2.2]) (j := 0) (i := p1) F Aa Aa (An 0 Aa) h5 El.to Ea Aa).q fun a F => ?_
     iterate 2 refine Bc F (Af F Aa Aa Aa Aa) Aa (Aj Aa) (Ad F Aa).q fun a F => ?_
     obtain ⟨x14, h6, H⟩ := Al H
     refine Bc F (Af F Aa Aa Aa Aa) Aa (Aj Aa) (Ax (r := Ba) Ej F Aa Aa (An 0 Aa) h6).q fun a F => ?_
     refine Bc F (Af F Aa Aa Aa Aa) Aa (Aj Aa) (Ap (y := Value.agg #[.int .i64 x14.1, .int .i64 x14.2.1, .int .i64 x14.2.2.1, .int .i64 x14.2.2.2]) (j := 0) (i := x11) F Aa Aa (An 0 Aa) h6 El.to Ea Aa).q fun a F => ?_
     obtain ⟨x15, h7, H⟩ := Al H
     refine Bc F (Af F Aa Aa Aa Aa) Aa (Aj Aa) (EG (ws := [.agg #[.int .i64 x13.1, .int .i64 x13.2.1, .int .i64 x13.2.2.1, .int .i64 x13.2.2.2], .agg #[.int .i64 x14.1, .int .i64 x14.2.1, .int .i64 x14.2.2.1, .int .i64 x14.2.2.2]]) (v := Value.int .i64 x15) F NR Aa (fun w W => B8 any w x13 x14 _ h7)) fun a F => ?_
     refine Bc F (Af F Aa Aa Aa Aa) Aa (Aj Aa) (BM F Aa Aa).q fun a F => ?_
     refine Bc F (Af F Aa Aa Aa Aa) Aa (Aj Aa) (En F Aa).q fun a F => ?_
     refine qs F Aa (Aq F Aa Aa Aa).q fun a F => ?_
     refine AZ fun w W => ?_
     refine Ab ?_
     exact ⟨_, H, F.re ⟨rfl, Aa, Aa, Aa, Aa, Aa, Aa, trivial⟩, W⟩
    have H := AS (Bq hb) H
    rw [hb] at F
    clear hb
    iterate 12 refine Dl F (Cy F Aa Aa Aa Aa Aa) Aa Aa fun a F => ?_
    refine qs F Aa (AA F Aa Aa Aa).q fun a F => ?_
    refine AZ fun w W => ?_
    refine Ab ?_
    exact ⟨_, H, F.re ⟨rfl, Aa, Aa, Aa, Aa, Aa, Aa, trivial⟩, W⟩
   rintro a w ⟨x12, hj, F, W⟩
   have hj := AX hj
   subst hj
   have H := K5
   clear G5 K5
   refine AB F Aa (fun hb => ?_) fun hb => ?_
   ·
    have H := AR hb H
    rw [hb] at F
    clear hb
    refine Au (Ab (Av (Ac ?_)))
    refine ls F W Aa (Ad F Aa).q fun a w F W => ?_
    refine ls F W Aa (BL F Aa Aa Aa).q fun a w F W => ?_
    refine ls F W Aa (Ag F Aa).q fun a w F W => ?_
    refine Ae (AP (Ab ?_))
    exact ⟨_, H, F.re ⟨rfl, Aa, Aa, Aa, Aa, Aa, trivial⟩, W⟩
   have H := AS (by rw [hb]; decide) H
   rw [hb] at F
   clear hb
   refine Bh ?_
   iterate 2 refine BK ?_
   refine Bj (Ab ?_)
   have H := L4 _ H
   exact ⟨_, H, F.re ⟨rfl, Aa, Aa, Aa, Aa, Aa, trivial⟩, W⟩
  rintro a w ⟨x10, hj, F, W⟩
  have hj := AX hj
  subst hj
  have H := K3
  clear G3 K3
  obtain ⟨o6, G6, K6⟩ := Al H
  refine AM (fun a w => ∃ x16 : Int, some (x16) = some o6 ∧ Fr 90 [] [(0, v1), (1, .int .i64 p1), (4, .func (.func 26) #[] #[]), (10, .int .i64 0), (11, .int .i64 x10), (12, .int .i64 x16)] a ∧ Stw ⟨Y, X, w0⟩ [] [row v1 62 Ba x7] w) ?_ ?_
  ·
   have H := G6
   clear G6 K6
   refine Av ?_
   refine Bk H (fun s a w => Fr 90 [] [(0, v1), (1, .int .i64 p1), (4, .func (.func 26) #[] #[]), (10, .int .i64 0), (11, .int .i64 x10), (12, .int .i64 s)] a ∧ Stw ⟨Y, X, w0⟩ [] [row v1 62 Ba x7] w) ⟨F.re ⟨rfl, Aa, Aa, Aa, Aa, Aa, trivial⟩, W⟩ fun s o a w H L7 hR => ?_
   obtain ⟨x17, rfl⟩ : ∃ x, x = s := ⟨s, rfl⟩
   obtain ⟨F, W⟩ := hR
   have F : Fr 90 [] [(0, v1), (1, .int .i64 p1), (4, .func (.func 26) #[] #[]), (10, .int .i64 0), (11, .int .i64 x10), (12, .int .i64 x17)] a := F
   have W : Stw ⟨Y, X, w0⟩ [] [row v1 62 Ba x7] w := W
   rw [Bd] at H
   refine Ah ?_
   obtain ⟨o8, G8, K8⟩ := Al H
   refine AM (fun a w => ∃ x18 : Bool, some (x18) = some o8 ∧ Fr 90 [] [(0, v1), (1, .int .i64 p1), (4, .func (.func 26) #[] #[]), (10, .int .i64 0), (11, .int .i64 x10), (12, .int .i64 x17), (65, .bool x18)] a ∧ Stw ⟨Y, X, w0⟩ [] [row v1 62 Ba x7] w) ?_ ?_
   ·
    have H := G8
    clear G8 K8
    refine BQ W MO (by kernel_rfl) ?_
    iterate 2 refine qs F Aa (Ad F Aa).q fun a F => ?_
    refine qs F Aa (H0 F Aa Aa).q fun a F => ?_
    refine qs F Aa (Ad F Aa).q fun a F => ?_
    rcases Bool.eq_false_or_eq_true (decide (x10 ≤ x17)) with hb | hb
    ·
     have H := AR (Br hb) H
     rw [hb] at F
     clear hb
     iterate 3 refine Bc F (Af F Aa Aa Aa Aa) Aa (Aj Aa) (Ad F Aa).q fun a F => ?_
     obtain ⟨x19, h8, H⟩ := Al H
     refine Bc F (Af F Aa Aa Aa Aa) Aa (Aj Aa) (Ax (r := Ba) Ej F Aa Aa (An 0 Aa) h8).q fun a F => ?_
     refine Bc F (Af F Aa Aa Aa Aa) Aa (Aj Aa) (Ap (y := Value.agg #[.int .i64 x19.1, .int .i64 x19.2.1, .int .i64 x19.2.2.1, .int .i64 x19.2.2.2]) (j := 0) (i := p1) F Aa Aa (An 0 Aa) h8 El.to Ea Aa).q fun a F => ?_
     iterate 2 refine Bc F (Af F Aa Aa Aa Aa) Aa (Aj Aa) (Ad F Aa).q fun a F => ?_
     obtain ⟨x20, h9, H⟩ := Al H
     refine Bc F (Af F Aa Aa Aa Aa) Aa (Aj Aa) (Ax (r := Ba) Ej F Aa Aa (An 0 Aa) h9).q fun a F => ?_
     refine Bc F (Af F Aa Aa Aa Aa) Aa (Aj Aa) (Ap (y := Value.agg #[.int .i64 x20.1, .int .i64 x20.2.1, .int .i64 x20.2.2.1, .int .i64 x20.2.2.2]) (j := 0) (i := x17) F Aa Aa (An 0 Aa) h9 El.to Ea Aa).q fun a F => ?_
     obtain ⟨x21, h10, H⟩ := Al H
     refine Bc F (Af F Aa Aa Aa Aa) Aa (Aj Aa) (EG (ws := [.agg #[.int .i64 x19.1, .int .i64 x19.2.1, .int .i64 x19.2.2.1, .int .i64 x19.2.2.2], .agg #[.int .i64 x20.1, .int .i64 x20.2.1, .int .i64 x20.2.2.1, .int .i64 x20.2.2.2]]) (v := Value.int .i64 x21) F NR Aa (fun w W => B8 any w x19 x20 _ h10)) fun a F => ?_
     refine Bc F (Af F Aa Aa Aa Aa) Aa (Aj Aa) (BM F Aa Aa).q fun a F => ?_
     refine qs F Aa (Aq F Aa Aa Aa).q fun a F => ?_
     refine AZ fun w W => ?_
     refine Ab ?_
     exact ⟨_, H, F.re ⟨rfl, Aa, Aa, Aa, Aa, Aa, Aa, trivial⟩, W⟩
    have H := AS (Bq hb) H
    rw [hb] at F
    clear hb
    iterate 11 refine Dl F (Cy F Aa Aa Aa Aa Aa) Aa Aa fun a F => ?_
    refine qs F Aa (AA F Aa Aa Aa).q fun a F => ?_
    refine AZ fun w W => ?_
    refine Ab ?_
    exact ⟨_, H, F.re ⟨rfl, Aa, Aa, Aa, Aa, Aa, Aa, trivial⟩, W⟩
   rintro a w ⟨x18, hj, F, W⟩
   have hj := AX hj
   subst hj
   have H := K8
   clear G8 K8
   refine AB F Aa (fun hb => ?_) fun hb => ?_
   ·
    have H := AR hb H
    rw [hb] at F
    clear hb
    refine Au (Ab (Av (Ac ?_)))
    refine ls F W Aa (Ad F Aa).q fun a w F W => ?_
    refine ls F W Aa (Cm F Aa Aa Aa).q fun a w F W => ?_
    refine ls F W Aa (Ag F Aa).q fun a w F W => ?_
    refine Ae (AP (Ab ?_))
    exact ⟨_, H, F.re ⟨rfl, Aa, Aa, Aa, Aa, Aa, trivial⟩, W⟩
   have H := AS (by rw [hb]; decide) H
   rw [hb] at F
   clear hb
   refine Bh ?_
   iterate 2 refine BK ?_
   refine Bj (Ab ?_)
   have H := L7 _ H
   exact ⟨_, H, F.re ⟨rfl, Aa, Aa, Aa, Aa, Aa, trivial⟩, W⟩
  rintro a w ⟨x16, hj, F, W⟩
  have hj := AX hj
  subst hj
  have H := K6
  clear G6 K6
  refine Ah (Ah (Ac ?_))
  iterate 2 refine ls F W Aa (Ad F Aa).q fun a w F W => ?_
  refine ls F W Aa (Gf F Aa Aa).q fun a w F W => ?_
  refine Ae (Ab ?_)
  refine AB F Aa (fun hb => ?_) fun hb => ?_
  ·
   have H := AR (Br hb) H
   rw [hb] at F
   clear hb
   refine Bh (BK ?_)
   refine Lp Aa ?_
   refine BK (Bj (Ab ?_))
   have H := L2 _ H
   exact ⟨_, _, H, F.re ⟨rfl, Aa, trivial⟩, W⟩
  have H := AS (Bq hb) H
  rw [hb] at F
  clear hb
  refine Au (Ab (Ah ?_))
  refine H1 13 [2, 3] [0, 1, 4, 5, 6, 7, 8, 9, 10, 11, 12] (fun ch a d v w h => by cases d <;> exact h) W MO (by kernel_rfl) ?_
  iterate 2 refine hm F Aa Aa Aa fun a F => ?_
  refine Ja ?_
  iterate 4 refine hs F Aa Aa Aa (Ad F Aa).q fun a F => ?_
  obtain ⟨x22, h11, H⟩ := Al H
  refine hs F Aa Aa Aa (Ax (r := Ba) Ej F Aa Aa (An 0 Aa) h11).q fun a F => ?_
  refine hs F Aa Aa Aa (Ap (y := Value.agg #[.int .i64 x22.1, .int .i64 x22.2.1, .int .i64 x22.2.2.1, .int .i64 x22.2.2.2]) (j := 0) (i := x16) F Aa Aa (An 0 Aa) h11 El.to Ea Aa).q fun a F => ?_
  iterate 2 refine hs F Aa Aa Aa (Ad F Aa).q fun a F => ?_
  obtain ⟨x23, h12, H⟩ := Al H
  refine hs F Aa Aa Aa (Ax (r := Ba) Ej F Aa Aa (An 0 Aa) h12).q fun a F => ?_
  refine hs F Aa Aa Aa (Ap (y := Value.agg #[.int .i64 x23.1, .int .i64 x23.2.1, .int .i64 x23.2.2.1, .int .i64 x23.2.2.2]) (j := 0) (i := x10) F Aa Aa (An 0 Aa) h12 El.to Ea Aa).q fun a F => ?_
  obtain ⟨x24, h13, H⟩ := Al H
  refine hs F Aa Aa Aa (Ax (r := Ba) Ej F Aa Aa (An 0 Aa) h13).q fun a F => ?_
  refine Kq fun w W => ?_
  have W : Stw ⟨Y, X, w0⟩ [] [row v1 62 Ba x7] w := W
  refine Bx (i := x10) (j := 0) (vs := [.int .i64 x22.1, .int .i64 x22.2.1, .int .i64 x22.2.2.1, .int .i64 x22.2.2.2]) (x' := x22) F W Aa Aa Aa (k := 0) Aa Aa h13 Ea Aa Aa Aa Aa (fun A cs _ => El.sto (by rfl) _ _ _) fun w W => ?_
  obtain ⟨x25, h14, H⟩ := Al H
  refine ls F W Aa (Ax (r := Ba) Ej F Aa Aa (An 0 Aa) h14).q fun a w F W => ?_
  refine Bx (i := x16) (j := 0) (vs := [.int .i64 x23.1, .int .i64 x23.2.1, .int .i64 x23.2.2.1, .int .i64 x23.2.2.2]) (x' := x23) F W Aa Aa Aa (k := 0) Aa Aa h14 Ea Aa Aa Aa Aa (fun A cs _ => El.sto (by rfl) _ _ _) fun w W => ?_
  refine Ae (Ab (Ah (Ac ?_)))
  refine ls F W Aa (Ad F Aa).q fun a w F W => ?_
  refine ls F W Aa (BL F Aa Aa Aa).q fun a w F W => ?_
  refine ls F W Aa (Ag F Aa).q fun a w F W => ?_
  refine Ae (Ab (Ac ?_))
  refine ls F W Aa (Ad F Aa).q fun a w F W => ?_
  refine ls F W Aa (Cm F Aa Aa Aa).q fun a w F W => ?_
  refine ls F W Aa (Ag F Aa).q fun a w F W => ?_
  refine Ae (AP (Ab ?_))
  exact ⟨_, H, F.re ⟨rfl, Aa, Aa, Aa, Aa, Aa, trivial⟩, W⟩
 rintro a w ⟨x5, x6, hj, F, W⟩
 have hj := AX hj
 subst hj
 have H := K1
 clear G1 K1
 refine Ah (Ac ?_)
 refine ls F W Aa (Ad F Aa).q fun a w F W => ?_
 refine ls F W Aa (Ag F Aa).q fun a w F W => ?_
 refine Ae (Ab (AF ?_))
 have H := AX H
 subst H
 refine BA (.inl Aa) F W Aa (Ay F Aa) ?_
 exact ⟨(), Aa, W⟩
theorem SP : Has Try.prog 65 := ⟨fun args w => Am Try.func65 rfl (by decide) args w⟩
noncomputable def Bg (p0 : List (Int × Int × Int × Int)) (p1 : Int) (p2 : Int) (p3 : Int) (x1 : Int × Int × Int × Int) (x2 : Int × Int × Int × Int) : Int → Option (Int ⊕ Int)
  | x6 => (if x6 ≤ (AC (p2 - 1)) then (ix (Aw (Aw p0 p1 x1) p3 x2) x6).bind fun x8 => (ix (Aw (Aw p0 p1 x1) p3 x2) p1).bind fun x9 => (BT x8 x9).bind fun x10 => some (decide (x10 < 0)) else some false).bind fun x7 => (if x7 = true then some (.inl (AC (x6 + 1))) else some (.inr x6))
noncomputable def BE (p0 : List (Int × Int × Int × Int)) (p1 : Int) (p3 : Int) (x1 : Int × Int × Int × Int) (x2 : Int × Int × Int × Int) (x5 : Int) : Int → Option (Int ⊕ Int)
  | x12 => (if x5 ≤ x12 then (ix (Aw (Aw p0 p1 x1) p3 x2) x12).bind fun x14 => (ix (Aw (Aw p0 p1 x1) p3 x2) p1).bind fun x15 => (BT x14 x15).bind fun x16 => some (!(decide (x16 < 0))) else some false).bind fun x13 => (if x13 = true then some (.inl (AC (x12 - 1))) else some (.inr x12))
noncomputable def BD (p1 : Int) (x27 : List (Int × Int × Int × Int)) (x29 : Int) : Int → Option (Int ⊕ Int)
  | x31 => (if x31 ≤ x29 then (ix x27 x31).bind fun x33 => (ix x27 p1).bind fun x34 => (BT x33 x34).bind fun x35 => some (decide (x35 < 0)) else some false).bind fun x32 => (if x32 = true then some (.inl (AC (x31 + 1))) else some (.inr x31))
noncomputable def BC (p1 : Int) (x27 : List (Int × Int × Int × Int)) (x30 : Int) : Int → Option (Int ⊕ Int)
  | x37 => (if x30 ≤ x37 then (ix x27 x37).bind fun x39 => (ix x27 p1).bind fun x40 => (BT x39 x40).bind fun x41 => some (!(decide (x41 < 0))) else some false).bind fun x38 => (if x38 = true then some (.inl (AC (x37 - 1))) else some (.inr x37))
noncomputable def A8 (p1 : Int) : ((List (Int × Int × Int × Int)) × Int × Int) → Option (((List (Int × Int × Int × Int)) × Int × Int) ⊕ ((List (Int × Int × Int × Int)) × Int))
  | (x27, x28, x29) => (AO (BD p1 x27 x29) x28).bind fun x30 => (AO (BC p1 x27 x30) x29).bind fun x36 => (if x36 < x30 then some (.inr (x27, x36)) else (ix x27 x36).bind fun x42 => (ix x27 x30).bind fun x43 => (ix x27 x30).bind fun x44 => (ix (Aw x27 x30 x42) x36).bind fun x45 => some (.inl ((Aw (Aw x27 x30 x42) x36 x43), AC (x30 + 1), AC (x36 - 1))))
noncomputable def BN (p0 : List (Int × Int × Int × Int)) (p1 : Int) (p2 : Int) (p3 : Int) : Option (Int × Bool × (List (Int × Int × Int × Int))) := (ix p0 p3).bind fun x1 => (ix p0 p1).bind fun x2 => (ix p0 p1).bind fun x3 => (ix (Aw p0 p1 x1) p3).bind fun x4 => (AO (Bg p0 p1 p2 p3 x1 x2) (AC (p1 + 1))).bind fun x5 => (AO (BE p0 p1 p3 x1 x2 x5) (AC (p2 - 1))).bind fun x11 => (if x11 < x5 then (ix (Aw (Aw p0 p1 x1) p3 x2) p1).bind fun x17 => (ix (Aw (Aw p0 p1 x1) p3 x2) x11).bind fun x18 => (ix (Aw (Aw p0 p1 x1) p3 x2) x11).bind fun x19 => (ix (Aw (Aw (Aw p0 p1 x1) p3 x2) x11 x17) p1).bind fun x20 => some (x11, true, (Aw (Aw (Aw (Aw p0 p1 x1) p3 x2) x11 x17) p1 x18)) else (ix (Aw (Aw p0 p1 x1) p3 x2) x11).bind fun x21 => (ix (Aw (Aw p0 p1 x1) p3 x2) x5).bind fun x22 => (ix (Aw (Aw p0 p1 x1) p3 x2) x5).bind fun x23 => (ix (Aw (Aw (Aw p0 p1 x1) p3 x2) x5 x21) x11).bind fun x24 => (AO (A8 p1) ((Aw (Aw (Aw (Aw p0 p1 x1) p3 x2) x5 x21) x11 x22), AC (x5 + 1), AC (x11 - 1))).bind fun (x25, x26) => (ix x25 p1).bind fun x46 => (ix x25 x26).bind fun x47 => (ix x25 x26).bind fun x48 => (ix (Aw x25 x26 x46) p1).bind fun x49 => some (x26, false, (Aw (Aw x25 x26 x46) p1 x47)))
theorem FX (Y : Nat → Prop) (X : List Nat) (w0 : World) (v1 : Value) (p0 : List (Int × Int × Int × Int)) (p1 : Int) (p2 : Int) (p3 : Int) (r : Int × Bool × (List (Int × Int × Int × Int))) (H : BN p0 p1 p2 p3 = some r) (hL : Stw ⟨Y, X, w0⟩ [] [row v1 62 Ba p0] w0) :
    Calls Try.prog 66 #[v1, .int .i64 p1, .int .i64 p2, .int .i64 p3, .func (.func 26) #[] #[]] w0 fun e w' => ∃ x : Unit, e = .returned (.tuple #[.int .i64 r.1, .bool r.2.1]) ∧ Stw ⟨Y, X, w0⟩ [] [row v1 62 Ba r.2.2] w' := by
 refine enter Try.func66 Aa Try.ntmps66 Aa fun a F => ?_
 have W := hL
 unfold BN at H
 refine Ah (Ac ?_)
 iterate 2 refine ls F W Aa (Ag F Aa).q fun a w F W => ?_
 refine Ae (Ab (Ah ?_))
 refine H1 13 [2, 3] [0, 1, 4, 5, 6, 7, 8, 9, 10, 11, 12] (fun ch a d v w h => by cases d <;> exact h) W MO (by kernel_rfl) ?_
 iterate 2 refine hm F Aa Aa Aa fun a F => ?_
 refine Ja ?_
 iterate 4 refine hs F Aa Aa Aa (Ad F Aa).q fun a F => ?_
 obtain ⟨x1, h1, H⟩ := Al H
 refine hs F Aa Aa Aa (Ax (r := Ba) Ej F Aa Aa (An 0 Aa) h1).q fun a F => ?_
 refine hs F Aa Aa Aa (Ap (y := Value.agg #[.int .i64 x1.1, .int .i64 x1.2.1, .int .i64 x1.2.2.1, .int .i64 x1.2.2.2]) (j := 0) (i := p3) F Aa Aa (An 0 Aa) h1 El.to Ea Aa).q fun a F => ?_
 iterate 2 refine hs F Aa Aa Aa (Ad F Aa).q fun a F => ?_
 obtain ⟨x2, h2, H⟩ := Al H
 refine hs F Aa Aa Aa (Ax (r := Ba) Ej F Aa Aa (An 0 Aa) h2).q fun a F => ?_
 refine hs F Aa Aa Aa (Ap (y := Value.agg #[.int .i64 x2.1, .int .i64 x2.2.1, .int .i64 x2.2.2.1, .int .i64 x2.2.2.2]) (j := 0) (i := p1) F Aa Aa (An 0 Aa) h2 El.to Ea Aa).q fun a F => ?_
 obtain ⟨x3, h3, H⟩ := Al H
 refine hs F Aa Aa Aa (Ax (r := Ba) Ej F Aa Aa (An 0 Aa) h3).q fun a F => ?_
 refine Kq fun w W => ?_
 have W : Stw ⟨Y, X, w0⟩ [] [row v1 62 Ba p0] w := W
 refine Bx (i := p1) (j := 0) (vs := [.int .i64 x1.1, .int .i64 x1.2.1, .int .i64 x1.2.2.1, .int .i64 x1.2.2.2]) (x' := x1) F W Aa Aa Aa (k := 0) Aa Aa h3 Ea Aa Aa Aa Aa (fun A cs _ => El.sto (by rfl) _ _ _) fun w W => ?_
 obtain ⟨x4, h4, H⟩ := Al H
 refine ls F W Aa (Ax (r := Ba) Ej F Aa Aa (An 0 Aa) h4).q fun a w F W => ?_
 refine Bx (i := p3) (j := 0) (vs := [.int .i64 x2.1, .int .i64 x2.2.1, .int .i64 x2.2.2.1, .int .i64 x2.2.2.2]) (x' := x2) F W Aa Aa Aa (k := 0) Aa Aa h4 Ea Aa Aa Aa Aa (fun A cs _ => El.sto (by rfl) _ _ _) fun w W => ?_
 refine Ae (Ab (Ah (Ac ?_)))
 refine ls F W Aa (Ad F Aa).q fun a w F W => ?_
 refine ls F W Aa (BL F Aa Aa Aa).q fun a w F W => ?_
 refine ls F W Aa (Ad F Aa).q fun a w F W => ?_
 refine ls F W Aa (Cm F Aa Aa Aa).q fun a w F W => ?_
 iterate 2 refine ls F W Aa (Ag F Aa).q fun a w F W => ?_
 refine Ae (Ab ?_)
 obtain ⟨o1, G1, K1⟩ := Al H
 refine AM (fun a w => ∃ x5 : Int, some (x5) = some o1 ∧ Fr 178 [] [(0, v1), (1, .int .i64 p1), (4, .func (.func 26) #[] #[]), (10, .int .i64 0), (11, .bool false), (12, .int .i64 x5), (13, .int .i64 (AC (p2 - 1)))] a ∧ Stw ⟨Y, X, w0⟩ [] [row v1 62 Ba (Aw (Aw p0 p1 x1) p3 x2)] w) ?_ ?_
 ·
  have H := G1
  clear G1 K1
  refine Av ?_
  refine Bk H (fun s a w => Fr 178 [] [(0, v1), (1, .int .i64 p1), (4, .func (.func 26) #[] #[]), (10, .int .i64 0), (11, .bool false), (12, .int .i64 s), (13, .int .i64 (AC (p2 - 1)))] a ∧ Stw ⟨Y, X, w0⟩ [] [row v1 62 Ba (Aw (Aw p0 p1 x1) p3 x2)] w) ⟨F.re ⟨rfl, Aa, Aa, Aa, Aa, Aa, Aa, trivial⟩, W⟩ fun s o a w H L2 hR => ?_
  obtain ⟨x6, rfl⟩ : ∃ x, x = s := ⟨s, rfl⟩
  obtain ⟨F, W⟩ := hR
  have F : Fr 178 [] [(0, v1), (1, .int .i64 p1), (4, .func (.func 26) #[] #[]), (10, .int .i64 0), (11, .bool false), (12, .int .i64 x6), (13, .int .i64 (AC (p2 - 1)))] a := F
  have W : Stw ⟨Y, X, w0⟩ [] [row v1 62 Ba (Aw (Aw p0 p1 x1) p3 x2)] w := W
  rw [Bg] at H
  refine Ah ?_
  obtain ⟨o3, G3, K3⟩ := Al H
  refine AM (fun a w => ∃ x7 : Bool, some (x7) = some o3 ∧ Fr 178 [] [(0, v1), (1, .int .i64 p1), (4, .func (.func 26) #[] #[]), (10, .int .i64 0), (11, .bool false), (12, .int .i64 x6), (13, .int .i64 (AC (p2 - 1))), (47, .bool x7)] a ∧ Stw ⟨Y, X, w0⟩ [] [row v1 62 Ba (Aw (Aw p0 p1 x1) p3 x2)] w) ?_ ?_
  ·
   have H := G3
   clear G3 K3
   refine BQ W MO (by kernel_rfl) ?_
   iterate 2 refine qs F Aa (Ad F Aa).q fun a F => ?_
   refine qs F Aa (H0 F Aa Aa).q fun a F => ?_
   refine qs F Aa (Ad F Aa).q fun a F => ?_
   rcases Bool.eq_false_or_eq_true (decide (x6 ≤ (AC (p2 - 1)))) with hb | hb
   ·
    have H := AR (Br hb) H
    rw [hb] at F
    clear hb
    iterate 3 refine Bc F (Af F Aa Aa Aa Aa) Aa (Aj Aa) (Ad F Aa).q fun a F => ?_
    obtain ⟨x8, h5, H⟩ := Al H
    refine Bc F (Af F Aa Aa Aa Aa) Aa (Aj Aa) (Ax (r := Ba) Ej F Aa Aa (An 0 Aa) h5).q fun a F => ?_
    refine Bc F (Af F Aa Aa Aa Aa) Aa (Aj Aa) (Ap (y := Value.agg #[.int .i64 x8.1, .int .i64 x8.2.1, .int .i64 x8.2.2.1, .int .i64 x8.2.2.2]) (j := 0) (i := x6) F Aa Aa (An 0 Aa) h5 El.to Ea Aa).q fun a F => ?_
    iterate 2 refine Bc F (Af F Aa Aa Aa Aa) Aa (Aj Aa) (Ad F Aa).q fun a F => ?_
    obtain ⟨x9, h6, H⟩ := Al H
    refine Bc F (Af F Aa Aa Aa Aa) Aa (Aj Aa) (Ax (r := Ba) Ej F Aa Aa (An 0 Aa) h6).q fun a F => ?_
    refine Bc F (Af F Aa Aa Aa Aa) Aa (Aj Aa) (Ap (y := Value.agg #[.int .i64 x9.1, .int .i64 x9.2.1, .int .i64 x9.2.2.1, .int .i64 x9.2.2.2]) (j := 0) (i := p1) F Aa Aa (An 0 Aa) h6 El.to Ea Aa).q fun a F => ?_
    obtain ⟨x10, h7, H⟩ := Al H
    refine Bc F (Af F Aa Aa Aa Aa) Aa (Aj Aa) (EG (ws := [.agg #[.int .i64 x8.1, .int .i64 x8.2.1, .int .i64 x8.2.2.1, .int .i64 x8.2.2.2], .agg #[.int .i64 x9.1, .int .i64 x9.2.1, .int .i64 x9.2.2.1, .int .i64 x9.2.2.2]]) (v := Value.int .i64 x10) F NR Aa (fun w W => B8 any w x8 x9 _ h7)) fun a F => ?_
    refine Bc F (Af F Aa Aa Aa Aa) Aa (Aj Aa) (BM F Aa Aa).q fun a F => ?_
    refine qs F Aa (Aq F Aa Aa Aa).q fun a F => ?_
    refine AZ fun w W => ?_
    refine Ab ?_
    exact ⟨_, H, F.re ⟨rfl, Aa, Aa, Aa, Aa, Aa, Aa, Aa, trivial⟩, W⟩
   have H := AS (Bq hb) H
   rw [hb] at F
   clear hb
   iterate 11 refine Dl F (Cy F Aa Aa Aa Aa Aa) Aa Aa fun a F => ?_
   refine qs F Aa (AA F Aa Aa Aa).q fun a F => ?_
   refine AZ fun w W => ?_
   refine Ab ?_
   exact ⟨_, H, F.re ⟨rfl, Aa, Aa, Aa, Aa, Aa, Aa, Aa, trivial⟩, W⟩
  rintro a w ⟨x7, hj, F, W⟩
  have hj := AX hj
  subst hj
  have H := K3
  clear G3 K3
  refine AB F Aa (fun hb => ?_) fun hb => ?_
  ·
   have H := AR hb H
   rw [hb] at F
   clear hb
   refine Au (Ab (Av (Ac ?_)))
   refine ls F W Aa (Ad F Aa).q fun a w F W => ?_
   refine ls F W Aa (BL F Aa Aa Aa).q fun a w F W => ?_
   refine ls F W Aa (Ag F Aa).q fun a w F W => ?_
   refine Ae (AP (Ab ?_))
   exact ⟨_, H, F.re ⟨rfl, Aa, Aa, Aa, Aa, Aa, Aa, trivial⟩, W⟩
  have H := AS (by rw [hb]; decide) H
  rw [hb] at F
  clear hb
  refine Bh ?_
  iterate 2 refine BK ?_
  refine Bj (Ab ?_)
  have H := L2 _ H
  exact ⟨_, H, F.re ⟨rfl, Aa, Aa, Aa, Aa, Aa, Aa, trivial⟩, W⟩
 rintro a w ⟨x5, hj, F, W⟩
 have hj := AX hj
 subst hj
 have H := K1
 clear G1 K1
 obtain ⟨o4, G4, K4⟩ := Al H
 refine AM (fun a w => ∃ x11 : Int, some (x11) = some o4 ∧ Fr 178 [] [(0, v1), (1, .int .i64 p1), (4, .func (.func 26) #[] #[]), (10, .int .i64 0), (11, .bool false), (12, .int .i64 x5), (13, .int .i64 x11)] a ∧ Stw ⟨Y, X, w0⟩ [] [row v1 62 Ba (Aw (Aw p0 p1 x1) p3 x2)] w) ?_ ?_
 ·
  have H := G4
  clear G4 K4
  refine Av ?_
  refine Bk H (fun s a w => Fr 178 [] [(0, v1), (1, .int .i64 p1), (4, .func (.func 26) #[] #[]), (10, .int .i64 0), (11, .bool false), (12, .int .i64 x5), (13, .int .i64 s)] a ∧ Stw ⟨Y, X, w0⟩ [] [row v1 62 Ba (Aw (Aw p0 p1 x1) p3 x2)] w) ⟨F.re ⟨rfl, Aa, Aa, Aa, Aa, Aa, Aa, trivial⟩, W⟩ fun s o a w H L5 hR => ?_
  obtain ⟨x12, rfl⟩ : ∃ x, x = s := ⟨s, rfl⟩
  obtain ⟨F, W⟩ := hR
  have F : Fr 178 [] [(0, v1), (1, .int .i64 p1), (4, .func (.func 26) #[] #[]), (10, .int .i64 0), (11, .bool false), (12, .int .i64 x5), (13, .int .i64 x12)] a := F
  have W : Stw ⟨Y, X, w0⟩ [] [row v1 62 Ba (Aw (Aw p0 p1 x1) p3 x2)] w := W
  rw [BE] at H
  refine Ah ?_
  obtain ⟨o6, G6, K6⟩ := Al H
  refine AM (fun a w => ∃ x13 : Bool, some (x13) = some o6 ∧ Fr 178 [] [(0, v1), (1, .int .i64 p1), (4, .func (.func 26) #[] #[]), (10, .int .i64 0), (11, .bool false), (12, .int .i64 x5), (13, .int .i64 x12), (66, .bool x13)] a ∧ Stw ⟨Y, X, w0⟩ [] [row v1 62 Ba (Aw (Aw p0 p1 x1) p3 x2)] w) ?_ ?_
  ·
   have H := G6
   clear G6 K6
   refine BQ W MO (by kernel_rfl) ?_
   iterate 2 refine qs F Aa (Ad F Aa).q fun a F => ?_
   refine qs F Aa (H0 F Aa Aa).q fun a F => ?_
   refine qs F Aa (Ad F Aa).q fun a F => ?_
   rcases Bool.eq_false_or_eq_true (decide (x5 ≤ x12)) with hb | hb
   ·
    have H := AR (Br hb) H
    rw [hb] at F
    clear hb
    iterate 3 refine Bc F (Af F Aa Aa Aa Aa) Aa (Aj Aa) (Ad F Aa).q fun a F => ?_
    obtain ⟨x14, h8, H⟩ := Al H
    refine Bc F (Af F Aa Aa Aa Aa) Aa (Aj Aa) (Ax (r := Ba) Ej F Aa Aa (An 0 Aa) h8).q fun a F => ?_
    refine Bc F (Af F Aa Aa Aa Aa) Aa (Aj Aa) (Ap (y := Value.agg #[.int .i64 x14.1, .int .i64 x14.2.1, .int .i64 x14.2.2.1, .int .i64 x14.2.2.2]) (j := 0) (i := x12) F Aa Aa (An 0 Aa) h8 El.to Ea Aa).q fun a F => ?_
    iterate 2 refine Bc F (Af F Aa Aa Aa Aa) Aa (Aj Aa) (Ad F Aa).q fun a F => ?_
    obtain ⟨x15, h9, H⟩ := Al H
    refine Bc F (Af F Aa Aa Aa Aa) Aa (Aj Aa) (Ax (r := Ba) Ej F Aa Aa (An 0 Aa) h9).q fun a F => ?_
    refine Bc F (Af F Aa Aa Aa Aa) Aa (Aj Aa) (Ap (y := Value.agg #[.int .i64 x15.1, .int .i64 x15.2.1, .int .i64 x15.2.2.1, .int .i64 x15.2.2.2]) (j := 0) (i := p1) F Aa Aa (An 0 Aa) h9 El.to Ea Aa).q fun a F => ?_
    obtain ⟨x16, h10, H⟩ := Al H
    refine Bc F (Af F Aa Aa Aa Aa) Aa (Aj Aa) (EG (ws := [.agg #[.int .i64 x14.1, .int .i64 x14.2.1, .int .i64 x14.2.2.1, .int .i64 x14.2.2.2], .agg #[.int .i64 x15.1, .int .i64 x15.2.1, .int .i64 x15.2.2.1, .int .i64 x15.2.2.2]]) (v := Value.int .i64 x16) F NR Aa (fun w W => B8 any w x14 x15 _ h10)) fun a F => ?_
    refine Bc F (Af F Aa Aa Aa Aa) Aa (Aj Aa) (BM F Aa Aa).q fun a F => ?_
    refine Bc F (Af F Aa Aa Aa Aa) Aa (Aj Aa) (En F Aa).q fun a F => ?_
    refine qs F Aa (Aq F Aa Aa Aa).q fun a F => ?_
    refine AZ fun w W => ?_
    refine Ab ?_
    exact ⟨_, H, F.re ⟨rfl, Aa, Aa, Aa, Aa, Aa, Aa, Aa, trivial⟩, W⟩
   have H := AS (Bq hb) H
   rw [hb] at F
   clear hb
   iterate 12 refine Dl F (Cy F Aa Aa Aa Aa Aa) Aa Aa fun a F => ?_
   refine qs F Aa (AA F Aa Aa Aa).q fun a F => ?_
   refine AZ fun w W => ?_
   refine Ab ?_
   exact ⟨_, H, F.re ⟨rfl, Aa, Aa, Aa, Aa, Aa, Aa, Aa, trivial⟩, W⟩
  rintro a w ⟨x13, hj, F, W⟩
  have hj := AX hj
  subst hj
  have H := K6
  clear G6 K6
  refine AB F Aa (fun hb => ?_) fun hb => ?_
  ·
   have H := AR hb H
   rw [hb] at F
   clear hb
   refine Au (Ab (Av (Ac ?_)))
   refine ls F W Aa (Ad F Aa).q fun a w F W => ?_
   refine ls F W Aa (Cm F Aa Aa Aa).q fun a w F W => ?_
   refine ls F W Aa (Ag F Aa).q fun a w F W => ?_
   refine Ae (AP (Ab ?_))
   exact ⟨_, H, F.re ⟨rfl, Aa, Aa, Aa, Aa, Aa, Aa, trivial⟩, W⟩
  have H := AS (by rw [hb]; decide) H
  rw [hb] at F
  clear hb
  refine Bh ?_
  iterate 2 refine BK ?_
  refine Bj (Ab ?_)
  have H := L5 _ H
  exact ⟨_, H, F.re ⟨rfl, Aa, Aa, Aa, Aa, Aa, Aa, trivial⟩, W⟩
 rintro a w ⟨x11, hj, F, W⟩
 have hj := AX hj
 subst hj
 have H := K4
 clear G4 K4
 refine Ah (Ah (Ac ?_))
 iterate 2 refine ls F W Aa (Ad F Aa).q fun a w F W => ?_
 refine ls F W Aa (Gf F Aa Aa).q fun a w F W => ?_
 refine Ae (Ab ?_)
 refine AB F Aa (fun hb => ?_) fun hb => ?_
 ·
  have H := AR (Br hb) H
  rw [hb] at F
  clear hb
  refine Ah ?_
  refine H1 13 [2, 3] [0, 1, 4, 5, 6, 7, 8, 9, 10, 11, 12] (fun ch a d v w h => by cases d <;> exact h) W MO (by kernel_rfl) ?_
  iterate 2 refine hm F Aa Aa Aa fun a F => ?_
  refine Ja ?_
  iterate 4 refine hs F Aa Aa Aa (Ad F Aa).q fun a F => ?_
  obtain ⟨x17, h11, H⟩ := Al H
  refine hs F Aa Aa Aa (Ax (r := Ba) Ej F Aa Aa (An 0 Aa) h11).q fun a F => ?_
  refine hs F Aa Aa Aa (Ap (y := Value.agg #[.int .i64 x17.1, .int .i64 x17.2.1, .int .i64 x17.2.2.1, .int .i64 x17.2.2.2]) (j := 0) (i := p1) F Aa Aa (An 0 Aa) h11 El.to Ea Aa).q fun a F => ?_
  iterate 2 refine hs F Aa Aa Aa (Ad F Aa).q fun a F => ?_
  obtain ⟨x18, h12, H⟩ := Al H
  refine hs F Aa Aa Aa (Ax (r := Ba) Ej F Aa Aa (An 0 Aa) h12).q fun a F => ?_
  refine hs F Aa Aa Aa (Ap (y := Value.agg #[.int .i64 x18.1, .int .i64 x18.2.1, .int .i64 x18.2.2.1, .int .i64 x18.2.2.2]) (j := 0) (i := x11) F Aa Aa (An 0 Aa) h12 El.to Ea Aa).q fun a F => ?_
  obtain ⟨x19, h13, H⟩ := Al H
  refine hs F Aa Aa Aa (Ax (r := Ba) Ej F Aa Aa (An 0 Aa) h13).q fun a F => ?_
  refine Kq fun w W => ?_
  have W : Stw ⟨Y, X, w0⟩ [] [row v1 62 Ba (Aw (Aw p0 p1 x1) p3 x2)] w := W
  refine Bx (i := x11) (j := 0) (vs := [.int .i64 x17.1, .int .i64 x17.2.1, .int .i64 x17.2.2.1, .int .i64 x17.2.2.2]) (x' := x17) F W Aa Aa Aa (k := 0) Aa Aa h13 Ea Aa Aa Aa Aa (fun A cs _ => El.sto (by rfl) _ _ _) fun w W => ?_
  obtain ⟨x20, h14, H⟩ := Al H
  refine ls F W Aa (Ax (r := Ba) Ej F Aa Aa (An 0 Aa) h14).q fun a w F W => ?_
  refine Bx (i := p1) (j := 0) (vs := [.int .i64 x18.1, .int .i64 x18.2.1, .int .i64 x18.2.2.1, .int .i64 x18.2.2.2]) (x' := x18) F W Aa Aa Aa (k := 0) Aa Aa h14 Ea Aa Aa Aa Aa (fun A cs _ => El.sto (by rfl) _ _ _) fun w W => ?_
  refine Ae (Ab (Ah (Ac ?_)))
  refine ls F W Aa (Ad F Aa).q fun a w F W => ?_
  iterate 2 refine ls F W Aa (Ag F Aa).q fun a w F W => ?_
  refine Ae (Ab (AF (AK ?_)))
  have H := AX H
  subst H
  refine E2 (.inl Aa) F W Aa (Ay F Aa) (Ay F Aa) ?_
  exact ⟨(), Aa, W⟩
 have H := AS (Bq hb) H
 rw [hb] at F
 clear hb
 refine Au (Ab (Ah ?_))
 refine H1 13 [2, 3] [0, 1, 4, 5, 6, 7, 8, 9, 10, 11, 12] (fun ch a d v w h => by cases d <;> exact h) W MO (by kernel_rfl) ?_
 iterate 2 refine hm F Aa Aa Aa fun a F => ?_
 refine Ja ?_
 iterate 4 refine hs F Aa Aa Aa (Ad F Aa).q fun a F => ?_
 obtain ⟨x21, h15, H⟩ := Al H
 refine hs F Aa Aa Aa (Ax (r := Ba) Ej F Aa Aa (An 0 Aa) h15).q fun a F => ?_
 refine hs F Aa Aa Aa (Ap (y := Value.agg #[.int .i64 x21.1, .int .i64 x21.2.1, .int .i64 x21.2.2.1, .int .i64 x21.2.2.2]) (j := 0) (i := x11) F Aa Aa (An 0 Aa) h15 El.to Ea Aa).q fun a F => ?_
 iterate 2 refine hs F Aa Aa Aa (Ad F Aa).q fun a F => ?_
 obtain ⟨x22, h16, H⟩ := Al H
 refine hs F Aa Aa Aa (Ax (r := Ba) Ej F Aa Aa (An 0 Aa) h16).q fun a F => ?_
 refine hs F Aa Aa Aa (Ap (y := Value.agg #[.int .i64 x22.1, .int .i64 x22.2.1, .int .i64 x22.2.2.1, .int .i64 x22.2.2.2]) (j := 0) (i := x5) F Aa Aa (An 0 Aa) h16 El.to Ea Aa).q fun a F => ?_
 obtain ⟨x23, h17, H⟩ := Al H
 refine hs F Aa Aa Aa (Ax (r := Ba) Ej F Aa Aa (An 0 Aa) h17).q fun a F => ?_
 refine Kq fun w W => ?_
 have W : Stw ⟨Y, X, w0⟩ [] [row v1 62 Ba (Aw (Aw p0 p1 x1) p3 x2)] w := W
 refine Bx (i := x5) (j := 0) (vs := [.int .i64 x21.1, .int .i64 x21.2.1, .int .i64 x21.2.2.1, .int .i64 x21.2.2.2]) (x' := x21) F W Aa Aa Aa (k := 0) Aa Aa h17 Ea Aa Aa Aa Aa (fun A cs _ => El.sto (by rfl) _ _ _) fun w W => ?_
 obtain ⟨x24, h18, H⟩ := Al H
 refine ls F W Aa (Ax (r := Ba) Ej F Aa Aa (An 0 Aa) h18).q fun a w F W => ?_
 refine Bx (i := x11) (j := 0) (vs := [.int .i64 x22.1, .int .i64 x22.2.1, .int .i64 x22.2.2.1, .int .i64 x22.2.2.2]) (x' := x22) F W Aa Aa Aa (k := 0) Aa Aa h18 Ea Aa Aa Aa Aa (fun A cs _ => El.sto (by rfl) _ _ _) fun w W => ?_
 refine Ae (Ab (Ah (Ac ?_)))
 refine ls F W Aa (Ad F Aa).q fun a w F W => ?_
 refine ls F W Aa (BL F Aa Aa Aa).q fun a w F W => ?_
 refine ls F W Aa (Ag F Aa).q fun a w F W => ?_
 refine Ae (Ab (Ah (Ac ?_)))
 refine ls F W Aa (Ad F Aa).q fun a w F W => ?_
 refine ls F W Aa (Cm F Aa Aa Aa).q fun a w F W => ?_
 refine ls F W Aa (Ag F Aa).q fun a w F W => ?_
 refine Ae (Ab ?_)
 obtain ⟨o7, G7, K7⟩ := Al H
 refine AM (fun a w => ∃ x25 : List (Int × Int × Int × Int), ∃ x26 : Int, some ((x25, x26)) = some o7 ∧ Fr 178 [] [(0, v1), (1, .int .i64 p1), (10, .int .i64 0), (11, .bool false), (13, .int .i64 x26)] a ∧ Stw ⟨Y, X, w0⟩ [] [row v1 62 Ba x25] w) ?_ ?_
 ·
  have H := G7
  clear G7 K7
  refine Av ?_
  refine Bk H (fun s a w => Fr 178 [] [(0, v1), (1, .int .i64 p1), (4, .func (.func 26) #[] #[]), (10, .int .i64 0), (11, .bool false), (12, .int .i64 s.2.1), (13, .int .i64 s.2.2)] a ∧ Stw ⟨Y, X, w0⟩ [] [row v1 62 Ba s.1] w) ⟨F.re ⟨rfl, Aa, Aa, Aa, Aa, Aa, Aa, trivial⟩, W⟩ fun s o a w H L8 hR => ?_
  obtain ⟨x27, x28, x29⟩ := s
  obtain ⟨F, W⟩ := hR
  have F : Fr 178 [] [(0, v1), (1, .int .i64 p1), (4, .func (.func 26) #[] #[]), (10, .int .i64 0), (11, .bool false), (12, .int .i64 x28), (13, .int .i64 x29)] a := F
  have W : Stw ⟨Y, X, w0⟩ [] [row v1 62 Ba x27] w := W
  rw [A8] at H
  refine Av ?_
  obtain ⟨o9, G9, K9⟩ := Al H
  refine AM (fun a w => ∃ x30 : Int, some (x30) = some o9 ∧ Fr 178 [] [(0, v1), (1, .int .i64 p1), (4, .func (.func 26) #[] #[]), (10, .int .i64 0), (11, .bool false), (12, .int .i64 x30), (13, .int .i64 x29)] a ∧ Stw ⟨Y, X, w0⟩ [] [row v1 62 Ba x27] w) ?_ ?_
  ·
   have H := G9
   clear G9 K9
   refine Av ?_
   refine Bk H (fun s a w => Fr 178 [] [(0, v1), (1, .int .i64 p1), (4, .func (.func 26) #[] #[]), (10, .int .i64 0), (11, .bool false), (12, .int .i64 s), (13, .int .i64 x29)] a ∧ Stw ⟨Y, X, w0⟩ [] [row v1 62 Ba x27] w) ⟨F.re ⟨rfl, Aa, Aa, Aa, Aa, Aa, Aa, trivial⟩, W⟩ fun s o a w H L10 hR => ?_
   obtain ⟨x31, rfl⟩ : ∃ x, x = s := ⟨s, rfl⟩
   obtain ⟨F, W⟩ := hR
   have F : Fr 178 [] [(0, v1), (1, .int .i64 p1), (4, .func (.func 26) #[] #[]), (10, .int .i64 0), (11, .bool false), (12, .int .i64 x31), (13, .int .i64 x29)] a := F
   have W : Stw ⟨Y, X, w0⟩ [] [row v1 62 Ba x27] w := W
   rw [BD] at H
   refine Ah ?_
   obtain ⟨o11, G11, K11⟩ := Al H
   refine AM (fun a w => ∃ x32 : Bool, some (x32) = some o11 ∧ Fr 178 [] [(0, v1), (1, .int .i64 p1), (4, .func (.func 26) #[] #[]), (10, .int .i64 0), (11, .bool false), (12, .int .i64 x31), (13, .int .i64 x29), (120, .bool x32)] a ∧ Stw ⟨Y, X, w0⟩ [] [row v1 62 Ba x27] w) ?_ ?_
   ·
    have H := G11
    clear G11 K11
    refine BQ W MO (by kernel_rfl) ?_
    iterate 2 refine qs F Aa (Ad F Aa).q fun a F => ?_
    refine qs F Aa (H0 F Aa Aa).q fun a F => ?_
    refine qs F Aa (Ad F Aa).q fun a F => ?_
    rcases Bool.eq_false_or_eq_true (decide (x31 ≤ x29)) with hb | hb
    ·
     have H := AR (Br hb) H
     rw [hb] at F
     clear hb
     iterate 3 refine Bc F (Af F Aa Aa Aa Aa) Aa (Aj Aa) (Ad F Aa).q fun a F => ?_
     obtain ⟨x33, h19, H⟩ := Al H
     refine Bc F (Af F Aa Aa Aa Aa) Aa (Aj Aa) (Ax (r := Ba) Ej F Aa Aa (An 0 Aa) h19).q fun a F => ?_
     refine Bc F (Af F Aa Aa Aa Aa) Aa (Aj Aa) (Ap (y := Value.agg #[.int .i64 x33.1, .int .i64 x33.2.1, .int .i64 x33.2.2.1, .int .i64 x33.2.2.2]) (j := 0) (i := x31) F Aa Aa (An 0 Aa) h19 El.to Ea Aa).q fun a F => ?_
     iterate 2 refine Bc F (Af F Aa Aa Aa Aa) Aa (Aj Aa) (Ad F Aa).q fun a F => ?_
     obtain ⟨x34, h20, H⟩ := Al H
     refine Bc F (Af F Aa Aa Aa Aa) Aa (Aj Aa) (Ax (r := Ba) Ej F Aa Aa (An 0 Aa) h20).q fun a F => ?_
     refine Bc F (Af F Aa Aa Aa Aa) Aa (Aj Aa) (Ap (y := Value.agg #[.int .i64 x34.1, .int .i64 x34.2.1, .int .i64 x34.2.2.1, .int .i64 x34.2.2.2]) (j := 0) (i := p1) F Aa Aa (An 0 Aa) h20 El.to Ea Aa).q fun a F => ?_
     obtain ⟨x35, h21, H⟩ := Al H
     refine Bc F (Af F Aa Aa Aa Aa) Aa (Aj Aa) (EG (ws := [.agg #[.int .i64 x33.1, .int .i64 x33.2.1, .int .i64 x33.2.2.1, .int .i64 x33.2.2.2], .agg #[.int .i64 x34.1, .int .i64 x34.2.1, .int .i64 x34.2.2.1, .int .i64 x34.2.2.2]]) (v := Value.int .i64 x35) F NR Aa (fun w W => B8 any w x33 x34 _ h21)) fun a F => ?_
     refine Bc F (Af F Aa Aa Aa Aa) Aa (Aj Aa) (BM F Aa Aa).q fun a F => ?_
     refine qs F Aa (Aq F Aa Aa Aa).q fun a F => ?_
     refine AZ fun w W => ?_
     refine Ab ?_
     exact ⟨_, H, F.re ⟨rfl, Aa, Aa, Aa, Aa, Aa, Aa, Aa, trivial⟩, W⟩
    have H := AS (Bq hb) H
    rw [hb] at F
    clear hb
    iterate 11 refine Dl F (Cy F Aa Aa Aa Aa Aa) Aa Aa fun a F => ?_
    refine qs F Aa (AA F Aa Aa Aa).q fun a F => ?_
    refine AZ fun w W => ?_
    refine Ab ?_
    exact ⟨_, H, F.re ⟨rfl, Aa, Aa, Aa, Aa, Aa, Aa, Aa, trivial⟩, W⟩
   rintro a w ⟨x32, hj, F, W⟩
   have hj := AX hj
   subst hj
   have H := K11
   clear G11 K11
   refine AB F Aa (fun hb => ?_) fun hb => ?_
   ·
    have H := AR hb H
    rw [hb] at F
    clear hb
    refine Au (Ab (Av (Ac ?_)))
    refine ls F W Aa (Ad F Aa).q fun a w F W => ?_
    refine ls F W Aa (BL F Aa Aa Aa).q fun a w F W => ?_
    refine ls F W Aa (Ag F Aa).q fun a w F W => ?_
    refine Ae (AP (Ab ?_))
    exact ⟨_, H, F.re ⟨rfl, Aa, Aa, Aa, Aa, Aa, Aa, trivial⟩, W⟩
   have H := AS (by rw [hb]; decide) H
   rw [hb] at F
   clear hb
   refine Bh ?_
   iterate 2 refine BK ?_
   refine Bj (Ab ?_)
   have H := L10 _ H
   exact ⟨_, H, F.re ⟨rfl, Aa, Aa, Aa, Aa, Aa, Aa, trivial⟩, W⟩
  rintro a w ⟨x30, hj, F, W⟩
  have hj := AX hj
  subst hj
  have H := K9
  clear G9 K9
  obtain ⟨o12, G12, K12⟩ := Al H
  refine AM (fun a w => ∃ x36 : Int, some (x36) = some o12 ∧ Fr 178 [] [(0, v1), (1, .int .i64 p1), (4, .func (.func 26) #[] #[]), (10, .int .i64 0), (11, .bool false), (12, .int .i64 x30), (13, .int .i64 x36)] a ∧ Stw ⟨Y, X, w0⟩ [] [row v1 62 Ba x27] w) ?_ ?_
  ·
   have H := G12
   clear G12 K12
   refine Av ?_
   refine Bk H (fun s a w => Fr 178 [] [(0, v1), (1, .int .i64 p1), (4, .func (.func 26) #[] #[]), (10, .int .i64 0), (11, .bool false), (12, .int .i64 x30), (13, .int .i64 s)] a ∧ Stw ⟨Y, X, w0⟩ [] [row v1 62 Ba x27] w) ⟨F.re ⟨rfl, Aa, Aa, Aa, Aa, Aa, Aa, trivial⟩, W⟩ fun s o a w H L13 hR => ?_
   obtain ⟨x37, rfl⟩ : ∃ x, x = s := ⟨s, rfl⟩
   obtain ⟨F, W⟩ := hR
   have F : Fr 178 [] [(0, v1), (1, .int .i64 p1), (4, .func (.func 26) #[] #[]), (10, .int .i64 0), (11, .bool false), (12, .int .i64 x30), (13, .int .i64 x37)] a := F
   have W : Stw ⟨Y, X, w0⟩ [] [row v1 62 Ba x27] w := W
   rw [BC] at H
   refine Ah ?_
   obtain ⟨o14, G14, K14⟩ := Al H
   refine AM (fun a w => ∃ x38 : Bool, some (x38) = some o14 ∧ Fr 178 [] [(0, v1), (1, .int .i64 p1), (4, .func (.func 26) #[] #[]), (10, .int .i64 0), (11, .bool false), (12, .int .i64 x30), (13, .int .i64 x37), (139, .bool x38)] a ∧ Stw ⟨Y, X, w0⟩ [] [row v1 62 Ba x27] w) ?_ ?_
   ·
    have H := G14
    clear G14 K14
    refine BQ W MO (by kernel_rfl) ?_
    iterate 2 refine qs F Aa (Ad F Aa).q fun a F => ?_
    refine qs F Aa (H0 F Aa Aa).q fun a F => ?_
    refine qs F Aa (Ad F Aa).q fun a F => ?_
    rcases Bool.eq_false_or_eq_true (decide (x30 ≤ x37)) with hb | hb
    ·
     have H := AR (Br hb) H
     rw [hb] at F
     clear hb
     iterate 3 refine Bc F (Af F Aa Aa Aa Aa) Aa (Aj Aa) (Ad F Aa).q fun a F => ?_
     obtain ⟨x39, h22, H⟩ := Al H
     refine Bc F (Af F Aa Aa Aa Aa) Aa (Aj Aa) (Ax (r := Ba) Ej F Aa Aa (An 0 Aa) h22).q fun a F => ?_
     refine Bc F (Af F Aa Aa Aa Aa) Aa (Aj Aa) (Ap (y := Value.agg #[.int .i64 x39.1, .int .i64 x39.2.1, .int .i64 x39.2.2.1, .int .i64 x39.2.2.2]) (j := 0) (i := x37) F Aa Aa (An 0 Aa) h22 El.to Ea Aa).q fun a F => ?_
     iterate 2 refine Bc F (Af F Aa Aa Aa Aa) Aa (Aj Aa) (Ad F Aa).q fun a F => ?_
     obtain ⟨x40, h23, H⟩ := Al H
     refine Bc F (Af F Aa Aa Aa Aa) Aa (Aj Aa) (Ax (r := Ba) Ej F Aa Aa (An 0 Aa) h23).q fun a F => ?_
     refine Bc F (Af F Aa Aa Aa Aa) Aa (Aj Aa) (Ap (y := Value.agg #[.int .i64 x40.1, .int .i64 x40.2.1, .int .i64 x40.2.2.1, .int .i64 x40.2.2.2]) (j := 0) (i := p1) F Aa Aa (An 0 Aa) h23 El.to Ea Aa).q fun a F => ?_
     obtain ⟨x41, h24, H⟩ := Al H
     refine Bc F (Af F Aa Aa Aa Aa) Aa (Aj Aa) (EG (ws := [.agg #[.int .i64 x39.1, .int .i64 x39.2.1, .int .i64 x39.2.2.1, .int .i64 x39.2.2.2], .agg #[.int .i64 x40.1, .int .i64 x40.2.1, .int .i64 x40.2.2.1, .int .i64 x40.2.2.2]]) (v := Value.int .i64 x41) F NR Aa (fun w W => B8 any w x39 x40 _ h24)) fun a F => ?_
     refine Bc F (Af F Aa Aa Aa Aa) Aa (Aj Aa) (BM F Aa Aa).q fun a F => ?_
     refine Bc F (Af F Aa Aa Aa Aa) Aa (Aj Aa) (En F Aa).q fun a F => ?_
     refine qs F Aa (Aq F Aa Aa Aa).q fun a F => ?_
     refine AZ fun w W => ?_
     refine Ab ?_
     exact ⟨_, H, F.re ⟨rfl, Aa, Aa, Aa, Aa, Aa, Aa, Aa, trivial⟩, W⟩
    have H := AS (Bq hb) H
    rw [hb] at F
    clear hb
    iterate 12 refine Dl F (Cy F Aa Aa Aa Aa Aa) Aa Aa fun a F => ?_
    refine qs F Aa (AA F Aa Aa Aa).q fun a F => ?_
    refine AZ fun w W => ?_
    refine Ab ?_
    exact ⟨_, H, F.re ⟨rfl, Aa, Aa, Aa, Aa, Aa, Aa, Aa, trivial⟩, W⟩
   rintro a w ⟨x38, hj, F, W⟩
   have hj := AX hj
   subst hj
   have H := K14
   clear G14 K14
   refine AB F Aa (fun hb => ?_) fun hb => ?_
   ·
    have H := AR hb H
    rw [hb] at F
    clear hb
    refine Au (Ab (Av (Ac ?_)))
    refine ls F W Aa (Ad F Aa).q fun a w F W => ?_
    refine ls F W Aa (Cm F Aa Aa Aa).q fun a w F W => ?_
    refine ls F W Aa (Ag F Aa).q fun a w F W => ?_
    refine Ae (AP (Ab ?_))
    exact ⟨_, H, F.re ⟨rfl, Aa, Aa, Aa, Aa, Aa, Aa, trivial⟩, W⟩
   have H := AS (by rw [hb]; decide) H
   rw [hb] at F
   clear hb
   refine Bh ?_
   iterate 2 refine BK ?_
   refine Bj (Ab ?_)
   have H := L13 _ H
   exact ⟨_, H, F.re ⟨rfl, Aa, Aa, Aa, Aa, Aa, Aa, trivial⟩, W⟩
  rintro a w ⟨x36, hj, F, W⟩
  have hj := AX hj
  subst hj
  have H := K12
  clear G12 K12
  refine Ah (Ah (Ac ?_))
  iterate 2 refine ls F W Aa (Ad F Aa).q fun a w F W => ?_
  refine ls F W Aa (Gf F Aa Aa).q fun a w F W => ?_
  refine Ae (Ab ?_)
  refine AB F Aa (fun hb => ?_) fun hb => ?_
  ·
   have H := AR (Br hb) H
   rw [hb] at F
   clear hb
   refine Bh (BK ?_)
   refine Lp Aa ?_
   refine BK (Bj (Ab ?_))
   have H := L8 _ H
   exact ⟨_, _, H, F.re ⟨rfl, Aa, Aa, Aa, Aa, trivial⟩, W⟩
  have H := AS (Bq hb) H
  rw [hb] at F
  clear hb
  refine Au (Ab (Ah ?_))
  refine H1 13 [2, 3] [0, 1, 4, 5, 6, 7, 8, 9, 10, 11, 12] (fun ch a d v w h => by cases d <;> exact h) W MO (by kernel_rfl) ?_
  iterate 2 refine hm F Aa Aa Aa fun a F => ?_
  refine Ja ?_
  iterate 4 refine hs F Aa Aa Aa (Ad F Aa).q fun a F => ?_
  obtain ⟨x42, h25, H⟩ := Al H
  refine hs F Aa Aa Aa (Ax (r := Ba) Ej F Aa Aa (An 0 Aa) h25).q fun a F => ?_
  refine hs F Aa Aa Aa (Ap (y := Value.agg #[.int .i64 x42.1, .int .i64 x42.2.1, .int .i64 x42.2.2.1, .int .i64 x42.2.2.2]) (j := 0) (i := x36) F Aa Aa (An 0 Aa) h25 El.to Ea Aa).q fun a F => ?_
  iterate 2 refine hs F Aa Aa Aa (Ad F Aa).q fun a F => ?_
  obtain ⟨x43, h26, H⟩ := Al H
  refine hs F Aa Aa Aa (Ax (r := Ba) Ej F Aa Aa (An 0 Aa) h26).q fun a F => ?_
  refine hs F Aa Aa Aa (Ap (y := Value.agg #[.int .i64 x43.1, .int .i64 x43.2.1, .int .i64 x43.2.2.1, .int .i64 x43.2.2.2]) (j := 0) (i := x30) F Aa Aa (An 0 Aa) h26 El.to Ea Aa).q fun a F => ?_
  obtain ⟨x44, h27, H⟩ := Al H
  refine hs F Aa Aa Aa (Ax (r := Ba) Ej F Aa Aa (An 0 Aa) h27).q fun a F => ?_
  refine Kq fun w W => ?_
  have W : Stw ⟨Y, X, w0⟩ [] [row v1 62 Ba x27] w := W
  refine Bx (i := x30) (j := 0) (vs := [.int .i64 x42.1, .int .i64 x42.2.1, .int .i64 x42.2.2.1, .int .i64 x42.2.2.2]) (x' := x42) F W Aa Aa Aa (k := 0) Aa Aa h27 Ea Aa Aa Aa Aa (fun A cs _ => El.sto (by rfl) _ _ _) fun w W => ?_
  obtain ⟨x45, h28, H⟩ := Al H
  refine ls F W Aa (Ax (r := Ba) Ej F Aa Aa (An 0 Aa) h28).q fun a w F W => ?_
  refine Bx (i := x36) (j := 0) (vs := [.int .i64 x43.1, .int .i64 x43.2.1, .int .i64 x43.2.2.1, .int .i64 x43.2.2.2]) (x' := x43) F W Aa Aa Aa (k := 0) Aa Aa h28 Ea Aa Aa Aa Aa (fun A cs _ => El.sto (by rfl) _ _ _) fun w W => ?_
  refine Ae (Ab (Ah (Ac ?_)))
  refine ls F W Aa (Ad F Aa).q fun a w F W => ?_
  refine ls F W Aa (BL F Aa Aa Aa).q fun a w F W => ?_
  refine ls F W Aa (Ag F Aa).q fun a w F W => ?_
  refine Ae (Ab (Ac ?_))
  refine ls F W Aa (Ad F Aa).q fun a w F W => ?_
  refine ls F W Aa (Cm F Aa Aa Aa).q fun a w F W => ?_
  refine ls F W Aa (Ag F Aa).q fun a w F W => ?_
  refine Ae (AP (Ab ?_))
  exact ⟨_, H, F.re ⟨rfl, Aa, Aa, Aa, Aa, Aa, Aa, trivial⟩, W⟩
 rintro a w ⟨x25, x26, hj, F, W⟩
 have hj := AX hj
 subst hj
 have H := K7
 clear G7 K7
 refine Ah ?_
 refine H1 13 [2, 3] [0, 1, 4, 5, 6, 7, 8, 9, 10, 11, 12] (fun ch a d v w h => by cases d <;> exact h) W MO (by kernel_rfl) ?_
 iterate 2 refine hm F Aa Aa Aa fun a F => ?_
 refine Ja ?_
 iterate 4 refine hs F Aa Aa Aa (Ad F Aa).q fun a F => ?_
 obtain ⟨x46, h29, H⟩ := Al H
 refine hs F Aa Aa Aa (Ax (r := Ba) Ej F Aa Aa (An 0 Aa) h29).q fun a F => ?_
 refine hs F Aa Aa Aa (Ap (y := Value.agg #[.int .i64 x46.1, .int .i64 x46.2.1, .int .i64 x46.2.2.1, .int .i64 x46.2.2.2]) (j := 0) (i := p1) F Aa Aa (An 0 Aa) h29 El.to Ea Aa).q fun a F => ?_
 iterate 2 refine hs F Aa Aa Aa (Ad F Aa).q fun a F => ?_
 obtain ⟨x47, h30, H⟩ := Al H
 refine hs F Aa Aa Aa (Ax (r := Ba) Ej F Aa Aa (An 0 Aa) h30).q fun a F => ?_
 refine hs F Aa Aa Aa (Ap (y := Value.agg #[.int .i64 x47.1, .int .i64 x47.2.1, .int .i64 x47.2.2.1, .int .i64 x47.2.2.2]) (j := 0) (i := x26) F Aa Aa (An 0 Aa) h30 El.to Ea Aa).q fun a F => ?_
 obtain ⟨x48, h31, H⟩ := Al H
 refine hs F Aa Aa Aa (Ax (r := Ba) Ej F Aa Aa (An 0 Aa) h31).q fun a F => ?_
 refine Kq fun w W => ?_
 have W : Stw ⟨Y, X, w0⟩ [] [row v1 62 Ba x25] w := W
 refine Bx (i := x26) (j := 0) (vs := [.int .i64 x46.1, .int .i64 x46.2.1, .int .i64 x46.2.2.1, .int .i64 x46.2.2.2]) (x' := x46) F W Aa Aa Aa (k := 0) Aa Aa h31 Ea Aa Aa Aa Aa (fun A cs _ => El.sto (by rfl) _ _ _) fun w W => ?_
 obtain ⟨x49, h32, H⟩ := Al H
 refine ls F W Aa (Ax (r := Ba) Ej F Aa Aa (An 0 Aa) h32).q fun a w F W => ?_
 refine Bx (i := p1) (j := 0) (vs := [.int .i64 x47.1, .int .i64 x47.2.1, .int .i64 x47.2.2.1, .int .i64 x47.2.2.2]) (x' := x47) F W Aa Aa Aa (k := 0) Aa Aa h32 Ea Aa Aa Aa Aa (fun A cs _ => El.sto (by rfl) _ _ _) fun w W => ?_
 refine Ae (Ab (Ah (Ac ?_)))
 refine ls F W Aa (Ad F Aa).q fun a w F W => ?_
 iterate 2 refine ls F W Aa (Ag F Aa).q fun a w F W => ?_
 refine Ae (Ab (AF ?_))
 have H := AX H
 subst H
 refine E2 (.inl Aa) F W Aa (Ay F Aa) (Ay F Aa) ?_
 exact ⟨(), Aa, W⟩
theorem PP : type_of% Try.underlying95 := Try.underlying95
theorem S4 : Has Try.prog 66 := ⟨fun args w => Am Try.func66 rfl (by decide) args w⟩
theorem RK : Has Try.prog 42 := ⟨fun args w => Am Try.func42 rfl (by decide) args w⟩
theorem RM : (Try.prog.info? 128).bind (·.zero) = some (.int .u64 0) := by kernel_rfl
theorem KR : Ty Try.prog 128 false 1 := ⟨by kernel_rfl, by kernel_rfl⟩
noncomputable def Cl (p0 : Int) : Option Int := (DE (IntKind.u64.wrap p0)).bind fun x1 => (Qt (Ed .u64 1 x1) x1).bind fun x2 => some x2
theorem Is (Y : Nat → Prop) (w0 : World)  (p0 : Int) (r : Int) (H : Cl p0 = some r)  :
    Calls Try.prog 79 #[.int .i64 p0] w0 fun e w' => e = .returned (.int .u64 r) ∧ Below w0.heap.size w0 w' := by
 refine enter Try.func79 Aa Try.ntmps79 Aa fun a F => ?_
 have W := Stw.start Y w0
 unfold Cl at H
 refine Ah (Ac ?_)
 refine ls F W Aa (Ag F Aa).q fun a w F W => ?_
 refine Ae (Ab (Ah (Ac ?_)))
 refine ls F W Aa (Ad F Aa).q fun a w F W => ?_
 refine ls F W Aa (IH Nd PP F Aa).q fun a w F W => ?_
 obtain ⟨x1, h1, H⟩ := Al H
 refine ls F W Aa (BV (v := Value.int .i64 x1) F RO Aa (fun w W => Hi any w (IntKind.u64.wrap p0) _ h1)) fun a w F W => ?_
 obtain ⟨x2, h2, H⟩ := Al H
 refine ls F W Aa (P7 (JF h2).2 (Od F Aa Aa (JF h2).1)).q fun a w F W => ?_
 refine ls F W Aa (Ag F Aa).q fun a w F W => ?_
 refine Ae (Ab (AF ?_))
 have H := AX H
 subst H
 refine BA (.inl Aa) F W Aa (Ay F Aa) ?_
 exact ⟨rfl, W.done⟩
theorem Tx : Has Try.prog 79 := ⟨fun args w => Am Try.func79 rfl (by decide) args w⟩
def Bl (p0 : Int) : Int × Int := (DB .u64 (DB .u64 (DB .u64 p0 (Ed .u64 p0 13)) (GC .u64 (DB .u64 p0 (Ed .u64 p0 13)) 7)) (Ed .u64 (DB .u64 (DB .u64 p0 (Ed .u64 p0 13)) (GC .u64 (DB .u64 p0 (Ed .u64 p0 13)) 7)) 17), DB .u64 (DB .u64 (DB .u64 p0 (Ed .u64 p0 13)) (GC .u64 (DB .u64 p0 (Ed .u64 p0 13)) 7)) (Ed .u64 (DB .u64 (DB .u64 p0 (Ed .u64 p0 13)) (GC .u64 (DB .u64 p0 (Ed .u64 p0 13)) 7)) 17))
theorem IK (Y : Nat → Prop) (X : List Nat) (w0 : World) (q_p0 : Nat) (p0 : Int) (r : Int × Int) (H : Bl p0 = r) (hL : Stw ⟨Y, X, w0⟩ [(q_p0, [.int .u64 p0])] [] w0) :
    Calls Try.prog 80 #[.pointer (some ⟨q_p0, 0, none⟩)] w0 fun e w' => ∃ x : Unit, e = .returned (.int .u64 r.1) ∧ Stw ⟨Y, X, w0⟩ [(q_p0, [.int .u64 r.2])] [] w' := by
 refine enter Try.func80 Aa Try.ntmps80 Aa fun a F => ?_
 have W := hL
 unfold Bl at H
 refine Ah (Ac ?_)
 refine ls F W Aa (Ag F Aa).q fun a w F W => ?_
 refine Ae (Ab (Ah ?_))
 refine IZ 9 W MO (by kernel_rfl) ?_
 refine qs F Aa (Ad F Aa).q fun a F => ?_
 refine qs F Aa (DR F Aa).q fun a F => ?_
 refine qs F Aa (Az (v := Value.int .u64 p0) 0 F Aa Aa KR Aa).q fun a F => ?_
 refine qs F Aa (Ad F Aa).q fun a F => ?_
 refine qs F Aa (DR F Aa).q fun a F => ?_
 refine qs F Aa (Az (v := Value.int .u64 p0) 0 F Aa Aa KR Aa).q fun a F => ?_
 refine qs F Aa (Od F Aa Aa (by decide)).q fun a F => ?_
 refine qs F Aa (OT F Aa Aa).q fun a F => ?_
 refine qs F Aa (DR F Aa).q fun a F => ?_
 refine AZ fun w W => ?_
 refine Dk (vs := [.int .u64 (DB .u64 p0 (Ed .u64 p0 13))]) (M' := [(q_p0, [.int .u64 (DB .u64 p0 (Ed .u64 p0 13))])]) 0 F W Aa Aa Aa KR Aa Aa Aa Aa Aa fun w W => ?_
 refine Ae (Ab (Ah ?_))
 refine IZ 9 W MO (by kernel_rfl) ?_
 refine qs F Aa (Ad F Aa).q fun a F => ?_
 refine qs F Aa (DR F Aa).q fun a F => ?_
 refine qs F Aa (Az (v := Value.int .u64 (DB .u64 p0 (Ed .u64 p0 13))) 0 F Aa Aa KR Aa).q fun a F => ?_
 refine qs F Aa (Ad F Aa).q fun a F => ?_
 refine qs F Aa (DR F Aa).q fun a F => ?_
 refine qs F Aa (Az (v := Value.int .u64 (DB .u64 p0 (Ed .u64 p0 13))) 0 F Aa Aa KR Aa).q fun a F => ?_
 refine qs F Aa (N8 F Aa Aa (by decide)).q fun a F => ?_
 refine qs F Aa (OT F Aa Aa).q fun a F => ?_
 refine qs F Aa (DR F Aa).q fun a F => ?_
 refine AZ fun w W => ?_
 refine Dk (vs := [.int .u64 (DB .u64 (DB .u64 p0 (Ed .u64 p0 13)) (GC .u64 (DB .u64 p0 (Ed .u64 p0 13)) 7))]) (M' := [(q_p0, [.int .u64 (DB .u64 (DB .u64 p0 (Ed .u64 p0 13)) (GC .u64 (DB .u64 p0 (Ed .u64 p0 13)) 7))])]) 0 F W Aa Aa Aa KR Aa Aa Aa Aa Aa fun w W => ?_
 refine Ae (Ab (Ah ?_))
 refine IZ 9 W MO (by kernel_rfl) ?_
 refine qs F Aa (Ad F Aa).q fun a F => ?_
 refine qs F Aa (DR F Aa).q fun a F => ?_
 refine qs F Aa (Az (v := Value.int .u64 (DB .u64 (DB .u64 p0 (Ed .u64 p0 13)) (GC .u64 (DB .u64 p0 (Ed .u64 p0 13)) 7))) 0 F Aa Aa KR Aa).q fun a F => ?_
 refine qs F Aa (Ad F Aa).q fun a F => ?_
 refine qs F Aa (DR F Aa).q fun a F => ?_
 refine qs F Aa (Az (v := Value.int .u64 (DB .u64 (DB .u64 p0 (Ed .u64 p0 13)) (GC .u64 (DB .u64 p0 (Ed .u64 p0 13)) 7))) 0 F Aa Aa KR Aa).q fun a F => ?_
 refine qs F Aa (Od F Aa Aa (by decide)).q fun a F => ?_
 refine qs F Aa (OT F Aa Aa).q fun a F => ?_
 refine qs F Aa (DR F Aa).q fun a F => ?_
 refine AZ fun w W => ?_
 refine Dk (vs := [.int .u64 (DB .u64 (DB .u64 (DB .u64 p0 (Ed .u64 p0 13)) (GC .u64 (DB .u64 p0 (Ed .u64 p0 13)) 7)) (Ed .u64 (DB .u64 (DB .u64 p0 (Ed .u64 p0 13)) (GC .u64 (DB .u64 p0 (Ed .u64 p0 13)) 7)) 17))]) (M' := [(q_p0, [.int .u64 (DB .u64 (DB .u64 (DB .u64 p0 (Ed .u64 p0 13)) (GC .u64 (DB .u64 p0 (Ed .u64 p0 13)) 7)) (Ed .u64 (DB .u64 (DB .u64 p0 (Ed .u64 p0 13)) (GC .u64 (DB .u64 p0 (Ed .u64 p0 13)) 7)) 17))])]) 0 F W Aa Aa Aa KR Aa Aa Aa Aa Aa fun w W => ?_
 refine Ae (Ab (Ah (Ac ?_)))
 refine ls F W Aa (Ad F Aa).q fun a w F W => ?_
 refine ls F W Aa (DR F Aa).q fun a w F W => ?_
 refine ls F W Aa (Az (v := Value.int .u64 (DB .u64 (DB .u64 (DB .u64 p0 (Ed .u64 p0 13)) (GC .u64 (DB .u64 p0 (Ed .u64 p0 13)) 7)) (Ed .u64 (DB .u64 (DB .u64 p0 (Ed .u64 p0 13)) (GC .u64 (DB .u64 p0 (Ed .u64 p0 13)) 7)) 17))) 0 F Aa Aa KR Aa).q fun a w F W => ?_
 refine ls F W Aa (Ag F Aa).q fun a w F W => ?_
 refine Ae (Ab (AF ?_))
 subst H
 refine BA (.inl Aa) F W Aa (Ay F Aa) ?_
 exact ⟨(), Aa, W⟩
end Go.Proofs.Ythiejmoddfenlaa
