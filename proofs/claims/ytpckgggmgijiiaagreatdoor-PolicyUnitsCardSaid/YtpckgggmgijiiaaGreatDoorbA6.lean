/- The functions of layer 27, Ix. Conditions: none. -/
import Derived.Test.YtpckgggmgijiiaaGreatDoorbA5
namespace Go.Proofs.YtpckgggmgijiiaaGreatDoor
open Go Go.RowKit
set_option linter.unusedVariables false
set_option linter.unusedSimpArgs false
set_option maxRecDepth 20000
theorem WQ : (Tryz.prog.info? 27).bind (·.zero) = some (.agg #[.int .i64 0, .int .i64 0, .int .i64 0, .int .i64 0, .slice none 0 0, .int .i64 0, .int .i64 0, .slice none 0 0]) := by kernel_rfl
theorem XE : (Tryz.prog.info? 24).bind (·.zero) = some (.agg #[.int .i64 0, .int .i64 0, .int .i64 0, .slice none 0 0]) := by kernel_rfl
theorem W3 : Has Tryz.prog 64 := CJ Tryz.func64
abbrev Om (a0 : Nat) (a1 : Tr34) (a2 : Value) (a3 : Nat) (a4 : Nat) (a5 : Value) : List (Nat × List Value) := [(a0, [.int .i64 a1.un.1, .int .i64 a1.un.2.1, .int .i64 a1.un.2.2.1, a2]), (a3, [.int .i64 0, .int .i64 0, .int .i64 0, .slice none 0 0]), (a4, [.int .i64 a1.un.1, .int .i64 a1.un.2.1, .int .i64 a1.un.2.2.1, a5])]
noncomputable def Cv (fRec : Tr34 → Option Tr24) (p0 : Tr34) : (Int × List Tr24) → Option ((Int × List Tr24) ⊕ (List Tr24))
  | (x2, x3) => (if x2 < (p0.un.2.2.2.length : Int) then (ix p0.un.2.2.2 x2).bind fun x4 => (fRec x4).bind fun x5 => (HG x3 ([x5] : List Tr24)).bind fun x6 => some (.inl (AO (x2 + 1), x6)) else some (.inr x3))
noncomputable def Dh (fRec : Tr34 → Option Tr24) (p0 : Tr34) : Option Tr24 := (AW (Cv fRec p0) (0, [])).bind fun x1 => some (Tr24.of (p0.un.1, p0.un.2.1, p0.un.2.2.1, x1))
noncomputable def CE : Nat → Tr34 → Option Tr24
  | 0 => fun _ => none
  | n + 1 => Dh (CE n)
noncomputable def Jb (p0 : Tr34) : Option Tr24 := GL fun n => CE n p0
theorem Ov (fRec : Tr34 → Option Tr24) (ih : ∀ (Y : Nat → Prop) (w0 : World) (v1 : Value) (p0 : Tr34) (r : Tr24) (H : fRec p0 = some r) (h_v1 : Sl w0 (NX []) CC v1 p0.un.2.2.2), Calls Tryz.prog 64 #[.agg #[.int .i64 p0.un.1, .int .i64 p0.un.2.1, .int .i64 p0.un.2.2.1, v1]] w0 fun e w' => ∃ x : Value, e = .returned (.agg #[.int .i64 r.un.1, .int .i64 r.un.2.1, .int .i64 r.un.2.2.1, x]) ∧ Stw ⟨Y, [], w0⟩ [] [row (x) 24 DO r.un.2.2.2] w') (Y : Nat → Prop) (w0 : World) (v1 : Value) (p0 : Tr34) (r : Tr24) (H : Dh fRec p0 = some r) (h_v1 : Sl w0 (NX []) CC v1 p0.un.2.2.2) :
    Calls Tryz.prog 64 #[.agg #[.int .i64 p0.un.1, .int .i64 p0.un.2.1, .int .i64 p0.un.2.2.1, v1]] w0 fun e w' => ∃ x : Value, e = .returned (.agg #[.int .i64 r.un.1, .int .i64 r.un.2.1, .int .i64 r.un.2.2.1, x]) ∧ Stw ⟨Y, [], w0⟩ [] [row (x) 24 DO r.un.2.2.2] w' := by
 refine enter Tryz.func64 Aa Tryz.ntmps64 Aa fun a W => ?_
 have F := Stw.start Y w0
 obtain ⟨v2, h1, h_v1⟩ := h_v1.ex CG
 unfold Dh at H
 refine vc tk 2 W F fun a w W F => ?_
 refine CY (cs := (Im p0 v1)) W F Aa Aa Aa fun b1 a w W F => ?_
 refine B9 (cs := (LM)) W F Aa XE Aa fun b2 a w W F => ?_
 refine FC tk 10 [1, 1, 1] W F (ai (ai (ai fun a w W F => ?_)))
 refine ls W F Aa (CB (v := Value.agg #[.int .i64 p0.un.1, .int .i64 p0.un.2.1, .int .i64 p0.un.2.2.1, .slice none 0 0]) Yp W Aa Aa Aa).q fun a w W F => ?_
 refine B9 (cs := (LM)) W F Aa XE Aa fun b3 a w W F => ?_
 refine Ed 0 W F Aa Aa Aa RP Aa Aa Aa fun w F => ?_
 refine Ew (Ac ?_)
 obtain ⟨o1, G1, K1⟩ := Ad H
 refine Ax (fun a w => ∃ x1 : List Tr24, ∃ v3 : Value, some (x1) = some o1 ∧ Fr 31 [] [(2, .pointer (some ⟨b2, 0, none⟩)), (3, .pointer (some ⟨b3, 0, none⟩))] a ∧ Stw ⟨Y, [], w0⟩ (Om b3 p0 v3 b2 b1 v1) [row v3 24 DO x1] w) ?_ ?_
 ·
  have H := G1
  clear G1 K1
  refine vc tk 6 W F fun a w W F => ?_
  have F := F.nilRow 24 DO
  have F := F.frontM (i := 2) Aa Aa
  have F := F.frontM (i := 2) Aa Aa
  have F := F.frontM (i := 2) Aa Aa
  refine BF H (fun s a w => ∃ v4 : Value, Fr 31 [] [(1, .pointer (some ⟨b1, 0, none⟩)), (2, .pointer (some ⟨b2, 0, none⟩)), (3, .pointer (some ⟨b3, 0, none⟩)), (4, .int .i64 s.1)] a ∧ Stw ⟨Y, [], w0⟩ (Om b3 p0 v4 b2 b1 v1) [row v4 24 DO s.2] w) ⟨(Value.slice none 0 0), W.ra Aa, F⟩ fun s o a w H L2 hR => ?_
  obtain ⟨x2, x3⟩ := s
  obtain ⟨v4, W, F⟩ := hR
  have W : Fr 31 [] [(1, .pointer (some ⟨b1, 0, none⟩)), (2, .pointer (some ⟨b2, 0, none⟩)), (3, .pointer (some ⟨b3, 0, none⟩)), (4, .int .i64 x2)] a := W
  have F : Stw ⟨Y, [], w0⟩ (Om b3 p0 v4 b2 b1 v1) [row v4 24 DO x3] w := F
  rw [Cv] at H
  refine Fo tk 6 [2] W F (ai fun a w W F => ?_)
  refine ls W F Aa (CS (r := CC) (l := p0.un.2.2.2) Kv Aa W Aa (Aq CG h1 (Af h_v1))).q fun a w W F => ?_
  refine Cl tk 3 W F fun a w W F => ?_
  refine BJ W Aa H (fun W H => ?_) fun W H => ?_
  ·
   refine FL tk 4 W F fun a w W F => ?_
   obtain ⟨v5, h2, F⟩ := F.exR EJ
   refine D6 [(true, 0), (true, 1), (true, 2), (true, 3), (true, 4), (true, 5), (true, 6), (false, 7), (false, 8), (false, 9), (true, 10), (false, 11)] (CN ⟨Y, [], w0⟩ [(some 9, b3, [.int .i64 p0.un.1, .int .i64 p0.un.2.1, .int .i64 p0.un.2.2.1, v4]), (some 7, b1, [.int .i64 p0.un.1, .int .i64 p0.un.2.1, .int .i64 p0.un.2.2.1, v1])] []) (fun ch a d v w h => by cases d <;> exact h) MO (by kernel_rfl) F (fun w F => ⟨_, _, F, (all_cons (fun _ => (.head _)) (all_cons (fun _ => (.tail _ (.tail _ (.head _)))) Ag)), Ag⟩) fun w F => ?_
   refine Bo (R := []) W Aa Aa (yC fun M Z hN hZ => Ap M9 Aa Aa Aa T9 W Aa 3 Aa) Aa Aa fun a W => ?_
   refine Bo (R := [9]) W Aa Aa (yC fun M Z hN hZ => CF (cs := (Im p0 v4)) (v := v4) W Aa (hN ((some 9), b3, (Im p0 v4)) (.head _) Aa) T9 Aa) (by kernel_rfl) Aa fun a W => ?_
   refine Bo (R := []) W Aa Aa (yC fun M Z hN hZ => Ap Kw Aa Aa Aa SP W Aa 3 Aa) Aa Aa fun a W => ?_
   refine Bo (R := [7, 6, 5]) W Aa Aa (yC fun M Z hN hZ => CF (cs := (Im p0 v1)) (v := v1) W Aa (hN ((some 7), b1, (Im p0 v1)) (.tail _ (.head _)) Aa) SP Aa) (by kernel_rfl) Aa fun a W => ?_
   refine Bo (R := []) W Aa Aa (yC fun M Z hN hZ => An W Aa) Aa Aa fun a W => ?_
   obtain ⟨x4, h3, H⟩ := Ad H
   obtain ⟨v6, h4, h5⟩ := DM h1 h3
   have h6 : Jd v6 = [.int .i64 x4.un.1, .int .i64 x4.un.2.1, .int .i64 x4.un.2.2.1, (v6.2.2.2.1)] := congrArg (fun q : Tr34 => ([.int .i64 q.un.1, .int .i64 q.un.2.1, .int .i64 q.un.2.2.1, (v6.2.2.2.1)] : List Value)) h5
   refine Bo (R := []) W Aa Aa (yC fun M Z hN hZ => Av (r := Kb) TL W Aa Aa (Af h_v1) h4) Aa Aa fun a W => ?_
   refine Bo (R := []) W Aa Aa (yC fun M Z hN hZ => Al (y := Value.agg #[.int .i64 x4.un.1, .int .i64 x4.un.2.1, .int .i64 x4.un.2.2.1, (v6.2.2.2.1)]) (j := 0) (i := x2) (enc := Jd) W Aa Aa (Af h_v1) h4 P5 L6 (by rw [h6]; rfl)) Aa Aa fun a W => ?_
   refine Dr Aa ?_
   obtain ⟨x5, h7, H⟩ := Ad H
   refine Bv (Ml := []) (Zl := []) (β := Value) (rv := fun x => .agg #[.int .i64 x5.un.1, .int .i64 x5.un.2.1, .int .i64 x5.un.2.2.1, x]) (MM := fun x => []) (ZZ := fun x => [row x 24 DO x5.un.2.2.2]) W F W3 Aa Aa (fun hL => ih _ w ((v6.2.2.2.1)) x4 _ h7 ((BE (Af h_v1) h4 (Ai.snd (Ai.snd (Ai.snd Ai.here))) (congrArg (fun q : Tr34 => q.un.2.2.2) h5)) w F).nx) fun x a w W F => ?_
   obtain ⟨v7, rfl⟩ : ∃ y, y = x := ⟨x, rfl⟩
   have F : Stw ⟨Y, [], w0⟩ (Om b3 p0 v4 b2 b1 v1) [row v7 24 DO x5.un.2.2.2, row v4 24 Mi v5] w := F
   refine Bl (N2 := []) (NZ2 := []) (N3 := [(some 9, b3, [.int .i64 p0.un.1, .int .i64 p0.un.2.1, .int .i64 p0.un.2.2.1, v4]), (some 7, b1, [.int .i64 p0.un.1, .int .i64 p0.un.2.1, .int .i64 p0.un.2.2.1, v1])]) (NZ3 := []) F Aa Aa (all_cons (fun _ => (.head _)) (all_cons (fun h => Ah (by kernel_rfl) h) Ag)) Ag ?_
   refine Dr Aa ?_
   have F := F.freeze
   refine Ht (z := Value.agg #[.int .i64 0, .int .i64 0, .int .i64 0, .slice none 0 0]) (cs := (M6 x5 v7)) DO ([x5] : List Tr24) W F Aa Ub XE Aa Aa Aa (A8 Aa Aa Aa C5) Aa Aa ⟨[Value.int .i64 x5.un.1, Value.int .i64 x5.un.2.1, Value.int .i64 x5.un.2.2.1, v7], _, Aa, (VC.2 ⟨[Value.int .i64 x5.un.1], [Value.int .i64 x5.un.2.1, Value.int .i64 x5.un.2.2.1, v7], Aa, Aa, ⟨[Value.int .i64 x5.un.2.1], [Value.int .i64 x5.un.2.2.1, v7], Aa, Aa, ⟨[Value.int .i64 x5.un.2.2.1], [v7], Aa, Aa, ⟨_, Aa, (F.item (i := 0) Aa)⟩⟩⟩⟩), Aa⟩ fun v8 a w W F => ?_
   refine Bl (N2 := []) (NZ2 := []) (N3 := [(some 9, b3, [.int .i64 p0.un.1, .int .i64 p0.un.2.1, .int .i64 p0.un.2.2.1, v4]), (some 7, b1, [.int .i64 p0.un.1, .int .i64 p0.un.2.1, .int .i64 p0.un.2.2.1, v1])]) (NZ3 := []) F Aa Aa (all_cons (fun _ => (.head _)) (all_cons (fun h => Ah (by kernel_rfl) h) Ag)) Ag ?_
   refine Dr Aa ?_
   have F := F.frontZ (i := 2) Aa Aa
   have F := F.hideR EJ h2
   obtain ⟨x6, h8, H⟩ := Ad H
   refine HL (r := DO) (i := 0) W F Aa Ub Aa Aa Aa Aa (Jj F 1 Aa) h8 Aa fun v9 a w W F => ?_
   have F : Stw ⟨Y, [], w0⟩ (Om b3 p0 v4 b2 b1 v1) [row v9 24 DO x6, row v8 24 DO ([x5] : List Tr24), Ef v7 DO x5.un.2.2.2] w := F
   refine Bl (N2 := []) (NZ2 := []) (N3 := [(some 9, b3, [.int .i64 p0.un.1, .int .i64 p0.un.2.1, .int .i64 p0.un.2.2.1, v4]), (some 7, b1, [.int .i64 p0.un.1, .int .i64 p0.un.2.1, .int .i64 p0.un.2.2.1, v1])]) (NZ3 := []) F Aa Aa (all_cons (fun h => Ah (by kernel_rfl) h) (all_cons (fun h => Ah (by kernel_rfl) h) Ag)) Ag ?_
   refine Bo (R := []) W Aa Aa (yC fun M Z hN hZ => Ap M9 Aa Aa Aa T9 W Aa 3 Aa) Aa Aa fun a W => ?_
   refine Dr Aa ?_
   refine LA (M' := (Om b3 p0 v9 b2 b1 v1)) 0 W F Aa Aa Aa T9 (F.one (k := 0) Aa) Aa Aa fun w F => ?_
   refine Bl (N2 := []) (NZ2 := []) (N3 := [(some 9, b3, [.int .i64 p0.un.1, .int .i64 p0.un.2.1, .int .i64 p0.un.2.2.1, v4]), (some 7, b1, [.int .i64 p0.un.1, .int .i64 p0.un.2.1, .int .i64 p0.un.2.2.1, v1])]) (NZ3 := []) F Aa Aa (all_cons (fun h => Ah (by kernel_rfl) h) (all_cons (fun h => Ah (by kernel_rfl) h) Ag)) Ag ?_
   refine Fw (AG ?_)
   refine vn tk 5 W F fun a w W F => ?_
   refine Ac ?_
   have F := F.frontM (i := 2) Aa Aa
   have F := F.frontM (i := 2) Aa Aa
   have F := F.frontM (i := 2) Aa Aa
   have F := F.sub (M' := (Om b3 p0 v9 b2 b1 v1)) (Z' := [row v9 24 DO x6]) (List.Sublist.refl _) (List.Sublist.cons_cons _ (List.nil_sublist _))
   exact ⟨_, H, (v9), W.ra Aa, F⟩
  refine Bu ?_
  iterate 2 refine BL ?_
  refine Bp (Ac ?_)
  have F := F.frontM (i := 2) Aa Aa
  have F := F.frontM (i := 2) Aa Aa
  have F := F.frontM (i := 2) Aa Aa
  have H := L2 _ H
  exact ⟨_, (v4), H, W.ra Aa, F⟩
 rintro a w ⟨x1, v3, hj, W, F⟩
 have hj := AA hj
 subst hj
 have H := K1
 clear G1 K1
 refine Fo tk 3 [0] W F (ai fun a w W F => ?_)
 refine Ed 1 W F Aa Aa Aa RP Aa Aa (Ae Aa (Ae Aa (Ae Aa (Ae (F.one (k := 0) Aa) Df)))) fun w F => ?_
 refine Cl tk 2 W F fun a w W F => ?_
 refine Ak ?_
 have H := AA H
 subst H
 refine Au (.inl Aa) W F Aa (Ig 1 W Aa Aa RP Aa) ?_
 have F := F.sub (M' := []) (Z' := [row v3 24 DO x1]) (List.nil_sublist _) (List.Sublist.refl _)
 exact ⟨(v3), Aa, F⟩
theorem OP : ∀ (n : Nat) (Y : Nat → Prop) (w0 : World) (v1 : Value) (p0 : Tr34) (r : Tr24) (H : CE n p0 = some r) (h_v1 : Sl w0 (NX []) CC v1 p0.un.2.2.2), Calls Tryz.prog 64 #[.agg #[.int .i64 p0.un.1, .int .i64 p0.un.2.1, .int .i64 p0.un.2.2.1, v1]] w0 fun e w' => ∃ x : Value, e = .returned (.agg #[.int .i64 r.un.1, .int .i64 r.un.2.1, .int .i64 r.un.2.2.1, x]) ∧ Stw ⟨Y, [], w0⟩ [] [row (x) 24 DO r.un.2.2.2] w' := by
  intro n
  induction n with
  | zero => intro Y w0 v1 p0 r H; exact nomatch H
  | succ n ih => intro Y w0 v1 p0 r H h_v1; exact Ov (CE n) ih Y w0 v1 p0 r H h_v1
theorem Lf (Y : Nat → Prop) (w0 : World) (v1 : Value) (p0 : Tr34) (r : Tr24) (H : Jb p0 = some r) (h_v1 : Sl w0 (NX []) CC v1 p0.un.2.2.2) :
    Calls Tryz.prog 64 #[.agg #[.int .i64 p0.un.1, .int .i64 p0.un.2.1, .int .i64 p0.un.2.2.1, v1]] w0 fun e w' => ∃ x : Value, e = .returned (.agg #[.int .i64 r.un.1, .int .i64 r.un.2.1, .int .i64 r.un.2.2.1, x]) ∧ Stw ⟨Y, [], w0⟩ [] [row (x) 24 DO r.un.2.2.2] w' := by
  obtain ⟨n, H⟩ := CR H
  exact OP n Y w0 v1 p0 r H h_v1
theorem Yn : Bt Tryz.prog 27 [.int .i64 0, .int .i64 0, .int .i64 0, .int .i64 0, .slice none 0 0, .int .i64 0, .int .i64 0, .slice none 0 0] [(0, 1), (1, 4), (5, 1), (6, 1), (7, 1)] := ⟨⟨.agg #[.int .i64 0, .int .i64 0, .int .i64 0, .int .i64 0, .slice none 0 0, .int .i64 0, .int .i64 0, .slice none 0 0], by kernel_rfl, rfl⟩, ⟨_, Lu, fun w => by kernel_rfl⟩⟩
theorem XO : Has Tryz.prog 29 := CJ Tryz.func29
abbrev WP (a0 : Nat) (a1 : Tr37) (a2 : Tr24) (a3 : Value) (a4 : Nat) (a5 : Nat) (a6 : Value) (a7 : Value) : List (Nat × List Value) := [(a0, [.int .i64 a1.un.1, .int .i64 a2.un.1, .int .i64 a2.un.2.1, .int .i64 a2.un.2.2.1, a3, .int .i64 a1.un.2.2.1, .int .i64 a1.un.2.2.2.1, .slice none 0 0]), (a4, [.int .i64 0, .int .i64 0, .int .i64 0, .int .i64 0, .slice none 0 0, .int .i64 0, .int .i64 0, .slice none 0 0]), (a5, [.int .i64 a1.un.1, .int .i64 a1.un.2.1.un.1, .int .i64 a1.un.2.1.un.2.1, .int .i64 a1.un.2.1.un.2.2.1, a6, .int .i64 a1.un.2.2.1, .int .i64 a1.un.2.2.2.1, a7])]
abbrev WD (a0 : Nat) (a1 : Nat) (a2 : Tr37) (a3 : Value) (a4 : Value) : List (Nat × List Value) := [(a0, [.int .i64 0, .int .i64 0, .int .i64 0, .int .i64 0, .slice none 0 0, .int .i64 0, .int .i64 0, .slice none 0 0]), (a1, [.int .i64 a2.un.1, .int .i64 a2.un.2.1.un.1, .int .i64 a2.un.2.1.un.2.1, .int .i64 a2.un.2.1.un.2.2.1, a3, .int .i64 a2.un.2.2.1, .int .i64 a2.un.2.2.2.1, a4])]
abbrev Wc (a0 : Nat) (a1 : Nat) (a2 : Nat) (a3 : Tr37) (a4 : Value) (a5 : Value) : List (Nat × List Value) := [(a0, [.int .i64 0, .int .i64 0, .int .i64 0, .int .i64 0, .slice none 0 0, .int .i64 0, .int .i64 0, .slice none 0 0]), (a1, [.int .i64 0, .int .i64 0, .int .i64 0, .int .i64 0, .slice none 0 0, .int .i64 0, .int .i64 0, .slice none 0 0]), (a2, [.int .i64 a3.un.1, .int .i64 a3.un.2.1.un.1, .int .i64 a3.un.2.1.un.2.1, .int .i64 a3.un.2.1.un.2.2.1, a4, .int .i64 a3.un.2.2.1, .int .i64 a3.un.2.2.2.1, a5])]
abbrev Ob (a0 : Nat) (a1 : Tr37) (a2 : Tr24) (a3 : Value) (a4 : Value) (a5 : Nat) (a6 : Nat) (a7 : Value) (a8 : Value) : List (Nat × List Value) := [(a0, [.int .i64 a1.un.1, .int .i64 a2.un.1, .int .i64 a2.un.2.1, .int .i64 a2.un.2.2.1, a3, .int .i64 a1.un.2.2.1, .int .i64 a1.un.2.2.2.1, a4]), (a5, [.int .i64 0, .int .i64 0, .int .i64 0, .int .i64 0, .slice none 0 0, .int .i64 0, .int .i64 0, .slice none 0 0]), (a6, [.int .i64 a1.un.1, .int .i64 a1.un.2.1.un.1, .int .i64 a1.un.2.1.un.2.1, .int .i64 a1.un.2.1.un.2.2.1, a7, .int .i64 a1.un.2.2.1, .int .i64 a1.un.2.2.2.1, a8])]
abbrev U4 (a0 : Tr37) (a1 : Tr24) (a2 : Value) (a3 : Value) : List Value := [.int .i64 a0.un.1, .int .i64 a1.un.1, .int .i64 a1.un.2.1, .int .i64 a1.un.2.2.1, a2, .int .i64 a0.un.2.2.1, .int .i64 a0.un.2.2.2.1, a3]
noncomputable def CW (fRec : Tr37 → Option Tr27) (p0 : Tr37) : (Int × List Tr27) → Option ((Int × List Tr27) ⊕ (List Tr27))
  | (x3, x4) => (if x3 < (p0.un.2.2.2.2.length : Int) then (ix p0.un.2.2.2.2 x3).bind fun x5 => (fRec (Tr37.of (x5.un.1, Tr34.of (x5.un.2.1.un.1, x5.un.2.1.un.2.1, x5.un.2.1.un.2.2.1, x5.un.2.1.un.2.2.2), x5.un.2.2.1, x5.un.2.2.2.1, x5.un.2.2.2.2))).bind fun x6 => (HG x4 ([Tr27.of (x6.un.1, Tr24.of (x6.un.2.1.un.1, x6.un.2.1.un.2.1, x6.un.2.1.un.2.2.1, x6.un.2.1.un.2.2.2), x6.un.2.2.1, x6.un.2.2.2.1, x6.un.2.2.2.2)] : List Tr27)).bind fun x7 => some (.inl (AO (x3 + 1), x7)) else some (.inr x4))
noncomputable def Di (fRec : Tr37 → Option Tr27) (p0 : Tr37) : Option Tr27 := (Jb (Tr34.of (p0.un.2.1.un.1, p0.un.2.1.un.2.1, p0.un.2.1.un.2.2.1, p0.un.2.1.un.2.2.2))).bind fun x1 => (AW (CW fRec p0) (0, [])).bind fun x2 => some (Tr27.of (p0.un.1, x1, p0.un.2.2.1, p0.un.2.2.2.1, x2))
noncomputable def C1 : Nat → Tr37 → Option Tr27
  | 0 => fun _ => none
  | n + 1 => Di (C1 n)
noncomputable def FE (p0 : Tr37) : Option Tr27 := GL fun n => C1 n p0
theorem NT (fRec : Tr37 → Option Tr27) (ih : ∀ (Y : Nat → Prop) (w0 : World) (v1 : Value) (v2 : Value) (p0 : Tr37) (r : Tr27) (H : fRec p0 = some r) (h_v1 : Sl w0 (NX []) CC v1 p0.un.2.1.un.2.2.2) (h_v2 : Sl w0 (NX []) De v2 p0.un.2.2.2.2), Calls Tryz.prog 29 #[.agg #[.int .i64 p0.un.1, .int .i64 p0.un.2.1.un.1, .int .i64 p0.un.2.1.un.2.1, .int .i64 p0.un.2.1.un.2.2.1, v1, .int .i64 p0.un.2.2.1, .int .i64 p0.un.2.2.2.1, v2]] w0 fun e w' => ∃ x : Value × Value, e = .returned (.agg #[.int .i64 r.un.1, .int .i64 r.un.2.1.un.1, .int .i64 r.un.2.1.un.2.1, .int .i64 r.un.2.1.un.2.2.1, x.1, .int .i64 r.un.2.2.1, .int .i64 r.un.2.2.2.1, x.2]) ∧ Stw ⟨Y, [], w0⟩ [] [row (x.1) 24 DO r.un.2.1.un.2.2.2, row (x.2) 27 GN r.un.2.2.2.2] w') (Y : Nat → Prop) (w0 : World) (v1 : Value) (v2 : Value) (p0 : Tr37) (r : Tr27) (H : Di fRec p0 = some r) (h_v1 : Sl w0 (NX []) CC v1 p0.un.2.1.un.2.2.2) (h_v2 : Sl w0 (NX []) De v2 p0.un.2.2.2.2) :
    Calls Tryz.prog 29 #[.agg #[.int .i64 p0.un.1, .int .i64 p0.un.2.1.un.1, .int .i64 p0.un.2.1.un.2.1, .int .i64 p0.un.2.1.un.2.2.1, v1, .int .i64 p0.un.2.2.1, .int .i64 p0.un.2.2.2.1, v2]] w0 fun e w' => ∃ x : Value × Value, e = .returned (.agg #[.int .i64 r.un.1, .int .i64 r.un.2.1.un.1, .int .i64 r.un.2.1.un.2.1, .int .i64 r.un.2.1.un.2.2.1, x.1, .int .i64 r.un.2.2.1, .int .i64 r.un.2.2.2.1, x.2]) ∧ Stw ⟨Y, [], w0⟩ [] [row (x.1) 24 DO r.un.2.1.un.2.2.2, row (x.2) 27 GN r.un.2.2.2.2] w' := by
 refine enter Tryz.func29 Aa Tryz.ntmps29 Aa fun a W => ?_
 have F := Stw.start Y w0
 obtain ⟨v3, h1, h_v1⟩ := h_v1.ex CG
 obtain ⟨v4, h2, h_v2⟩ := h_v2.ex EE
 unfold Di at H
 refine vc tk 2 W F fun a w W F => ?_
 refine CY (cs := (CX p0 v1 v2)) W F Aa Aa Aa fun b1 a w W F => ?_
 refine B9 (cs := (F6)) W F Aa WQ Aa fun b2 a w W F => ?_
 refine Cl tk 3 W F fun a w W F => ?_
 obtain ⟨x1, h3, H⟩ := Ad H
 refine RT (fun a w => ∃ b3 : Nat, ∃ v5 : Value, Fr 34 [] [(0, .agg #[.int .i64 p0.un.1, .int .i64 p0.un.2.1.un.1, .int .i64 p0.un.2.1.un.2.1, .int .i64 p0.un.2.1.un.2.2.1, v1, .int .i64 p0.un.2.2.1, .int .i64 p0.un.2.2.2.1, v2]), (1, .pointer (some ⟨b1, 0, none⟩)), (2, .pointer (some ⟨b2, 0, none⟩)), (3, .pointer (some ⟨b3, 0, none⟩)), (5, .pointer (some ⟨b1, 0, none⟩)), (6, .int .i64 p0.un.1), (7, .pointer (some ⟨b1, 1, none⟩)), (8, .agg #[.int .i64 p0.un.2.1.un.1, .int .i64 p0.un.2.1.un.2.1, .int .i64 p0.un.2.1.un.2.2.1, v1]), (9, .agg #[.int .i64 x1.un.1, .int .i64 x1.un.2.1, .int .i64 x1.un.2.2.1, v5]), (10, .pointer (some ⟨b1, 5, none⟩)), (11, .int .i64 p0.un.2.2.1), (12, .pointer (some ⟨b1, 6, none⟩)), (13, .int .i64 p0.un.2.2.2.1), (14, .agg #[.int .i64 p0.un.1, .int .i64 x1.un.1, .int .i64 x1.un.2.1, .int .i64 x1.un.2.2.1, v5, .int .i64 p0.un.2.2.1, .int .i64 p0.un.2.2.2.1, .slice none 0 0])] a ∧ Stw ⟨Y, [], w0⟩ (WP b3 p0 x1 v5 b2 b1 v1 v2) [row v5 24 DO x1.un.2.2.2] w) ?_ ?_
 ·
  refine Qg (PT.st 0 (PT.st 1 (PT.st 2 (PT.st 3 (PT.st 5 (PT.st 6 (PT.st 7 (PT.st 8 (PT.alt 4 (PT.st 9 (PT.alt 10 (PT.alt 11 PT.done PT.stop) PT.stop)) (PT.alt 10 (PT.alt 4 (PT.st 9 (PT.alt 11 PT.done PT.stop)) PT.stop) PT.stop)))))))))) (CN ⟨Y, [], w0⟩ [(some 11, b1, [.int .i64 p0.un.1, .int .i64 p0.un.2.1.un.1, .int .i64 p0.un.2.1.un.2.1, .int .i64 p0.un.2.1.un.2.2.1, v1, .int .i64 p0.un.2.2.1, .int .i64 p0.un.2.2.2.1, v2]), (some 4, b1, [.int .i64 p0.un.1, .int .i64 p0.un.2.1.un.1, .int .i64 p0.un.2.1.un.2.1, .int .i64 p0.un.2.1.un.2.2.1, v1, .int .i64 p0.un.2.2.1, .int .i64 p0.un.2.2.2.1, v2])] []) (fun ch a d v w h => by cases d <;> exact h) MO (by kernel_rfl) F (fun w F => ⟨_, _, F, (all_cons (fun _ => (.tail _ (.head _))) (all_cons (fun _ => (.tail _ (.head _))) Ag)), Ag⟩) fun w F => ?_
  refine IM (R := []) W Aa Aa (yC fun M Z hN hZ => Ap I2 Aa Aa Aa T3 W Aa 0 Aa) Aa Aa fun a W => ?_
  refine IM (R := [11]) W Aa Aa (yC fun M Z hN hZ => CF (cs := (CX p0 v1 v2)) (v := Value.int .i64 p0.un.1) W Aa (hN ((some 11), b1, (CX p0 v1 v2)) (.head _) Aa) T3 Aa) (by kernel_rfl) Aa fun a W => ?_
  refine IM (R := []) W Aa Aa (yC fun M Z hN hZ => Ap I2 Aa Aa Aa L6 W Aa 1 Aa) Aa Aa fun a W => ?_
  refine IM (R := [4]) W Aa Aa (yC fun M Z hN hZ => CF (cs := (CX p0 v1 v2)) (v := Value.agg #[.int .i64 p0.un.2.1.un.1, .int .i64 p0.un.2.1.un.2.1, .int .i64 p0.un.2.1.un.2.2.1, v1]) W Aa (hN ((some 4), b1, (CX p0 v1 v2)) (.tail _ (.head _)) Aa) L6 Aa) (by kernel_rfl) Aa fun a W => ?_
  refine IM (R := []) W Aa Aa (yC fun M Z hN hZ => Ap I2 Aa Aa Aa T3 W Aa 5 Aa) Aa Aa fun a W => ?_
  refine IM (R := [11]) W Aa Aa (yC fun M Z hN hZ => CF (cs := (CX p0 v1 v2)) (v := Value.int .i64 p0.un.2.2.1) W Aa (hN ((some 11), b1, (CX p0 v1 v2)) (.head _) Aa) T3 Aa) (by kernel_rfl) Aa fun a W => ?_
  refine IM (R := []) W Aa Aa (yC fun M Z hN hZ => Ap I2 Aa Aa Aa T3 W Aa 6 Aa) Aa Aa fun a W => ?_
  refine IM (R := [11]) W Aa Aa (yC fun M Z hN hZ => CF (cs := (CX p0 v1 v2)) (v := Value.int .i64 p0.un.2.2.2.1) W Aa (hN ((some 11), b1, (CX p0 v1 v2)) (.head _) Aa) T3 Aa) (by kernel_rfl) Aa fun a W => ?_
  refine Tm Aa ?_ ?_
  ·
   refine Bv (Ml := []) (Zl := []) (β := Value) (rv := fun x => .agg #[.int .i64 x1.un.1, .int .i64 x1.un.2.1, .int .i64 x1.un.2.2.1, x]) (MM := fun x => []) (ZZ := fun x => [row x 24 DO x1.un.2.2.2]) W F W3 Aa Aa (fun hL => Lf _ w (v1) (Tr34.of (p0.un.2.1.un.1, p0.un.2.1.un.2.1, p0.un.2.1.un.2.2.1, p0.un.2.1.un.2.2.2)) _ h3 ((Aq CG h1 (Af h_v1)) w F).nx) fun x a w W F => ?_
   obtain ⟨v5, rfl⟩ : ∃ y, y = x := ⟨x, rfl⟩
   have F : Stw ⟨Y, [], w0⟩ (WD b2 b1 p0 v1 v2) [row v5 24 DO x1.un.2.2.2] w := F
   refine Gb (N2 := []) (NZ2 := []) (N3 := [(some 11, b1, [.int .i64 p0.un.1, .int .i64 p0.un.2.1.un.1, .int .i64 p0.un.2.1.un.2.1, .int .i64 p0.un.2.1.un.2.2.1, v1, .int .i64 p0.un.2.2.1, .int .i64 p0.un.2.2.2.1, v2]), (some 4, b1, [.int .i64 p0.un.1, .int .i64 p0.un.2.1.un.1, .int .i64 p0.un.2.1.un.2.1, .int .i64 p0.un.2.1.un.2.2.1, v1, .int .i64 p0.un.2.2.1, .int .i64 p0.un.2.2.2.1, v2])]) (NZ3 := []) F Aa Aa (all_cons (fun _ => (.tail _ (.head _))) (all_cons (fun h => Ah (by kernel_rfl) h) Ag)) Ag ?_
   refine IM (R := []) W Aa Aa (yC fun M Z hN hZ => CB (v := Value.agg #[.int .i64 p0.un.1, .int .i64 x1.un.1, .int .i64 x1.un.2.1, .int .i64 x1.un.2.2.1, v5, .int .i64 p0.un.2.2.1, .int .i64 p0.un.2.2.2.1, .slice none 0 0]) Yn W Aa (A8 Aa Aa Aa (A8 Aa Aa Aa (A8 Aa Aa Aa (A8 Aa Aa Aa C5)))) Aa) Aa Aa fun a W => ?_
   refine MG Aa ?_
   refine B9 (cs := (F6)) W F Aa WQ Aa fun b3 a w W F => ?_
   refine Gb (N2 := []) (NZ2 := []) (N3 := [(some 11, b1, [.int .i64 p0.un.1, .int .i64 p0.un.2.1.un.1, .int .i64 p0.un.2.1.un.2.1, .int .i64 p0.un.2.1.un.2.2.1, v1, .int .i64 p0.un.2.2.1, .int .i64 p0.un.2.2.2.1, v2]), (some 4, b1, [.int .i64 p0.un.1, .int .i64 p0.un.2.1.un.1, .int .i64 p0.un.2.1.un.2.1, .int .i64 p0.un.2.1.un.2.2.1, v1, .int .i64 p0.un.2.2.1, .int .i64 p0.un.2.2.2.1, v2])]) (NZ3 := []) F Aa Aa (all_cons (fun _ => (.tail _ (.tail _ (.head _)))) (all_cons (fun h => Ah (by kernel_rfl) h) Ag)) Ag ?_
   refine MG Aa ?_
   refine Ed 0 W F Aa Aa Aa Sk Aa Aa (Ae Aa (Ae Aa (Ae Aa (Ae Aa (Ae (F.one (k := 0) Aa) (Ae Aa (Ae Aa (Ae Aa Df)))))))) fun w F => ?_
   refine Gb (N2 := []) (NZ2 := []) (N3 := [(some 11, b1, [.int .i64 p0.un.1, .int .i64 p0.un.2.1.un.1, .int .i64 p0.un.2.1.un.2.1, .int .i64 p0.un.2.1.un.2.2.1, v1, .int .i64 p0.un.2.2.1, .int .i64 p0.un.2.2.2.1, v2]), (some 4, b1, [.int .i64 p0.un.1, .int .i64 p0.un.2.1.un.1, .int .i64 p0.un.2.1.un.2.1, .int .i64 p0.un.2.1.un.2.2.1, v1, .int .i64 p0.un.2.2.1, .int .i64 p0.un.2.2.2.1, v2])]) (NZ3 := []) F Aa Aa (all_cons (fun h => Ah (by kernel_rfl) h) (all_cons (fun h => Ah (by kernel_rfl) h) Ag)) Ag ?_
   have F := F.frontM (i := 2) Aa Aa
   have F := F.frontM (i := 2) Aa Aa
   have F := F.frontM (i := 2) Aa Aa
   refine PH ?_
   exact ⟨b3, v5, W.ra Aa, F⟩
  refine Tm Aa ?_ ?_
  ·
   refine B9 (cs := (F6)) W F Aa WQ Aa fun b3 a w W F => ?_
   refine Gb (N2 := []) (NZ2 := []) (N3 := [(some 11, b1, [.int .i64 p0.un.1, .int .i64 p0.un.2.1.un.1, .int .i64 p0.un.2.1.un.2.1, .int .i64 p0.un.2.1.un.2.2.1, v1, .int .i64 p0.un.2.2.1, .int .i64 p0.un.2.2.2.1, v2]), (some 4, b1, [.int .i64 p0.un.1, .int .i64 p0.un.2.1.un.1, .int .i64 p0.un.2.1.un.2.1, .int .i64 p0.un.2.1.un.2.2.1, v1, .int .i64 p0.un.2.2.1, .int .i64 p0.un.2.2.2.1, v2])]) (NZ3 := []) F Aa Aa (all_cons (fun _ => (.tail _ (.tail _ (.head _)))) (all_cons (fun _ => (.tail _ (.tail _ (.head _)))) Ag)) Ag ?_
   refine MG Aa ?_
   refine Bv (Ml := []) (Zl := []) (β := Value) (rv := fun x => .agg #[.int .i64 x1.un.1, .int .i64 x1.un.2.1, .int .i64 x1.un.2.2.1, x]) (MM := fun x => []) (ZZ := fun x => [row x 24 DO x1.un.2.2.2]) W F W3 Aa Aa (fun hL => Lf _ w (v1) (Tr34.of (p0.un.2.1.un.1, p0.un.2.1.un.2.1, p0.un.2.1.un.2.2.1, p0.un.2.1.un.2.2.2)) _ h3 ((Aq CG h1 (Af h_v1)) w F).nx) fun x a w W F => ?_
   obtain ⟨v5, rfl⟩ : ∃ y, y = x := ⟨x, rfl⟩
   have F : Stw ⟨Y, [], w0⟩ (Wc b3 b2 b1 p0 v1 v2) [row v5 24 DO x1.un.2.2.2] w := F
   refine Gb (N2 := []) (NZ2 := []) (N3 := [(some 11, b1, [.int .i64 p0.un.1, .int .i64 p0.un.2.1.un.1, .int .i64 p0.un.2.1.un.2.1, .int .i64 p0.un.2.1.un.2.2.1, v1, .int .i64 p0.un.2.2.1, .int .i64 p0.un.2.2.2.1, v2]), (some 4, b1, [.int .i64 p0.un.1, .int .i64 p0.un.2.1.un.1, .int .i64 p0.un.2.1.un.2.1, .int .i64 p0.un.2.1.un.2.2.1, v1, .int .i64 p0.un.2.2.1, .int .i64 p0.un.2.2.2.1, v2])]) (NZ3 := []) F Aa Aa (all_cons (fun _ => (.tail _ (.tail _ (.head _)))) (all_cons (fun h => Ah (by kernel_rfl) h) Ag)) Ag ?_
   refine IM (R := []) W Aa Aa (yC fun M Z hN hZ => CB (v := Value.agg #[.int .i64 p0.un.1, .int .i64 x1.un.1, .int .i64 x1.un.2.1, .int .i64 x1.un.2.2.1, v5, .int .i64 p0.un.2.2.1, .int .i64 p0.un.2.2.2.1, .slice none 0 0]) Yn W Aa (A8 Aa Aa Aa (A8 Aa Aa Aa (A8 Aa Aa Aa (A8 Aa Aa Aa C5)))) Aa) Aa Aa fun a W => ?_
   refine MG Aa ?_
   refine Ed 0 W F Aa Aa Aa Sk Aa Aa (Ae Aa (Ae Aa (Ae Aa (Ae Aa (Ae (F.one (k := 0) Aa) (Ae Aa (Ae Aa (Ae Aa Df)))))))) fun w F => ?_
   refine Gb (N2 := []) (NZ2 := []) (N3 := [(some 11, b1, [.int .i64 p0.un.1, .int .i64 p0.un.2.1.un.1, .int .i64 p0.un.2.1.un.2.1, .int .i64 p0.un.2.1.un.2.2.1, v1, .int .i64 p0.un.2.2.1, .int .i64 p0.un.2.2.2.1, v2]), (some 4, b1, [.int .i64 p0.un.1, .int .i64 p0.un.2.1.un.1, .int .i64 p0.un.2.1.un.2.1, .int .i64 p0.un.2.1.un.2.2.1, v1, .int .i64 p0.un.2.2.1, .int .i64 p0.un.2.2.2.1, v2])]) (NZ3 := []) F Aa Aa (all_cons (fun h => Ah (by kernel_rfl) h) (all_cons (fun h => Ah (by kernel_rfl) h) Ag)) Ag ?_
   have F := F.frontM (i := 2) Aa Aa
   have F := F.frontM (i := 2) Aa Aa
   have F := F.frontM (i := 2) Aa Aa
   refine PH ?_
   exact ⟨b3, v5, W.ra Aa, F⟩
  exact trivial
 rintro a w ⟨b3, v5, W, F⟩
 refine Ac ?_
 obtain ⟨o1, G1, K1⟩ := Ad H
 refine Ax (fun a w => ∃ x2 : List Tr27, ∃ v6 : Value, some (x2) = some o1 ∧ Fr 34 [] [(2, .pointer (some ⟨b2, 0, none⟩)), (3, .pointer (some ⟨b3, 0, none⟩))] a ∧ Stw ⟨Y, [], w0⟩ (Ob b3 p0 x1 v5 v6 b2 b1 v1 v2) [row v5 24 DO x1.un.2.2.2, row v6 27 GN x2] w) ?_ ?_
 ·
  have H := G1
  clear G1 K1
  refine vc tk 6 W F fun a w W F => ?_
  have F := F.nilRow 27 GN
  have F := F.frontZ (i := 1) Aa Aa
  have F := F.frontM (i := 2) Aa Aa
  have F := F.frontM (i := 2) Aa Aa
  have F := F.frontM (i := 2) Aa Aa
  refine BF H (fun s a w => ∃ v7 : Value, Fr 34 [] [(1, .pointer (some ⟨b1, 0, none⟩)), (2, .pointer (some ⟨b2, 0, none⟩)), (3, .pointer (some ⟨b3, 0, none⟩)), (4, .int .i64 s.1)] a ∧ Stw ⟨Y, [], w0⟩ (Ob b3 p0 x1 v5 v7 b2 b1 v1 v2) [row v5 24 DO x1.un.2.2.2, row v7 27 GN s.2] w) ⟨(Value.slice none 0 0), W.ra Aa, F⟩ fun s o a w H L2 hR => ?_
  obtain ⟨x3, x4⟩ := s
  obtain ⟨v7, W, F⟩ := hR
  have W : Fr 34 [] [(1, .pointer (some ⟨b1, 0, none⟩)), (2, .pointer (some ⟨b2, 0, none⟩)), (3, .pointer (some ⟨b3, 0, none⟩)), (4, .int .i64 x3)] a := W
  have F : Stw ⟨Y, [], w0⟩ (Ob b3 p0 x1 v5 v7 b2 b1 v1 v2) [row v5 24 DO x1.un.2.2.2, row v7 27 GN x4] w := F
  rw [CW] at H
  refine Fo tk 6 [2] W F (ai fun a w W F => ?_)
  refine ls W F Aa (CS (r := De) (l := p0.un.2.2.2.2) Kq Aa W Aa (Aq EE h2 (Af h_v2))).q fun a w W F => ?_
  refine Cl tk 3 W F fun a w W F => ?_
  refine BJ W Aa H (fun W H => ?_) fun W H => ?_
  ·
   refine FL tk 4 W F fun a w W F => ?_
   obtain ⟨v8, h4, F⟩ := F.exR EJ
   have F := F.frontZ (i := 1) Aa Aa
   obtain ⟨v9, h5, F⟩ := F.exR Is
   refine D6 [(true, 0), (true, 1), (true, 2), (true, 3), (true, 4), (true, 5), (true, 6), (false, 7), (false, 8), (false, 9), (true, 10), (false, 11)] (CN ⟨Y, [], w0⟩ [(some 9, b3, [.int .i64 p0.un.1, .int .i64 x1.un.1, .int .i64 x1.un.2.1, .int .i64 x1.un.2.2.1, v5, .int .i64 p0.un.2.2.1, .int .i64 p0.un.2.2.2.1, v7]), (some 7, b1, [.int .i64 p0.un.1, .int .i64 p0.un.2.1.un.1, .int .i64 p0.un.2.1.un.2.1, .int .i64 p0.un.2.1.un.2.2.1, v1, .int .i64 p0.un.2.2.1, .int .i64 p0.un.2.2.2.1, v2])] []) (fun ch a d v w h => by cases d <;> exact h) MO (by kernel_rfl) F (fun w F => ⟨_, _, F, (all_cons (fun _ => (.head _)) (all_cons (fun _ => (.tail _ (.tail _ (.head _)))) Ag)), Ag⟩) fun w F => ?_
   refine Bo (R := []) W Aa Aa (yC fun M Z hN hZ => Ap Lu Aa Aa Aa VT W Aa 7 Aa) Aa Aa fun a W => ?_
   refine Bo (R := [9]) W Aa Aa (yC fun M Z hN hZ => CF (cs := (U4 p0 x1 v5 v7)) (v := v7) W Aa (hN ((some 9), b3, (U4 p0 x1 v5 v7)) (.head _) Aa) VT Aa) (by kernel_rfl) Aa fun a W => ?_
   refine Bo (R := []) W Aa Aa (yC fun M Z hN hZ => Ap I2 Aa Aa Aa T8 W Aa 7 Aa) Aa Aa fun a W => ?_
   refine Bo (R := [7, 6, 5]) W Aa Aa (yC fun M Z hN hZ => CF (cs := (CX p0 v1 v2)) (v := v2) W Aa (hN ((some 7), b1, (CX p0 v1 v2)) (.tail _ (.head _)) Aa) T8 Aa) (by kernel_rfl) Aa fun a W => ?_
   refine Bo (R := []) W Aa Aa (yC fun M Z hN hZ => An W Aa) Aa Aa fun a W => ?_
   obtain ⟨x5, h6, H⟩ := Ad H
   obtain ⟨v10, h7, h8⟩ := DM h2 h6
   have h9 : HK v10 = [.int .i64 x5.un.1, .int .i64 x5.un.2.1.un.1, .int .i64 x5.un.2.1.un.2.1, .int .i64 x5.un.2.1.un.2.2.1, (v10.2.1.2.2.2.1), .int .i64 x5.un.2.2.1, .int .i64 x5.un.2.2.2.1, (v10.2.2.2.2.1)] := congrArg (fun q : Tr37 => ([.int .i64 q.un.1, .int .i64 q.un.2.1.un.1, .int .i64 q.un.2.1.un.2.1, .int .i64 q.un.2.1.un.2.2.1, (v10.2.1.2.2.2.1), .int .i64 q.un.2.2.1, .int .i64 q.un.2.2.2.1, (v10.2.2.2.2.1)] : List Value)) h8
   refine Bo (R := []) W Aa Aa (yC fun M Z hN hZ => Av (r := FW) O0 W Aa Aa (Af h_v2) h7) Aa Aa fun a W => ?_
   refine Bo (R := []) W Aa Aa (yC fun M Z hN hZ => Al (y := Value.agg #[.int .i64 x5.un.1, .int .i64 x5.un.2.1.un.1, .int .i64 x5.un.2.1.un.2.1, .int .i64 x5.un.2.1.un.2.2.1, (v10.2.1.2.2.2.1), .int .i64 x5.un.2.2.1, .int .i64 x5.un.2.2.2.1, (v10.2.2.2.2.1)]) (j := 0) (i := x3) (enc := HK) W Aa Aa (Af h_v2) h7 NN II (by rw [h9]; rfl)) Aa Aa fun a W => ?_
   refine Dr Aa ?_
   obtain ⟨x6, h10, H⟩ := Ad H
   refine Bv (Ml := []) (Zl := []) (β := Value × Value) (rv := fun x => .agg #[.int .i64 x6.un.1, .int .i64 x6.un.2.1.un.1, .int .i64 x6.un.2.1.un.2.1, .int .i64 x6.un.2.1.un.2.2.1, x.1, .int .i64 x6.un.2.2.1, .int .i64 x6.un.2.2.2.1, x.2]) (MM := fun x => []) (ZZ := fun x => [row x.1 24 DO x6.un.2.1.un.2.2.2, row x.2 27 GN x6.un.2.2.2.2]) W F XO Aa Aa (fun hL => ih _ w ((v10.2.1.2.2.2.1)) ((v10.2.2.2.2.1)) (Tr37.of (x5.un.1, Tr34.of (x5.un.2.1.un.1, x5.un.2.1.un.2.1, x5.un.2.1.un.2.2.1, x5.un.2.1.un.2.2.2), x5.un.2.2.1, x5.un.2.2.2.1, x5.un.2.2.2.2)) _ h10 ((BE (Af h_v2) h7 (Ai.snd (Ai.fst (Ai.snd (Ai.snd (Ai.snd Ai.here))))) (congrArg (fun q : Tr37 => q.un.2.1.un.2.2.2) h8)) w F).nx ((BE (Af h_v2) h7 (Ai.snd (Ai.snd (Ai.snd (Ai.snd Ai.here)))) (congrArg (fun q : Tr37 => q.un.2.2.2.2) h8)) w F).nx) fun x a w W F => ?_
   obtain ⟨v11, v12⟩ := x
   have F : Stw ⟨Y, [], w0⟩ (Ob b3 p0 x1 v5 v7 b2 b1 v1 v2) [row v11 24 DO x6.un.2.1.un.2.2.2, row v12 27 GN x6.un.2.2.2.2, row v7 27 PA v9, row v5 24 Mi v8] w := F
   refine Bl (N2 := []) (NZ2 := []) (N3 := [(some 9, b3, [.int .i64 p0.un.1, .int .i64 x1.un.1, .int .i64 x1.un.2.1, .int .i64 x1.un.2.2.1, v5, .int .i64 p0.un.2.2.1, .int .i64 p0.un.2.2.2.1, v7]), (some 7, b1, [.int .i64 p0.un.1, .int .i64 p0.un.2.1.un.1, .int .i64 p0.un.2.1.un.2.1, .int .i64 p0.un.2.1.un.2.2.1, v1, .int .i64 p0.un.2.2.1, .int .i64 p0.un.2.2.2.1, v2])]) (NZ3 := []) F Aa Aa (all_cons (fun _ => (.head _)) (all_cons (fun h => Ah (by kernel_rfl) h) Ag)) Ag ?_
   refine Dr Aa ?_
   have F := F.freeze
   have F := F.frontZ (i := 1) Aa Aa
   have F := F.freeze
   refine Ht (z := Value.agg #[.int .i64 0, .int .i64 0, .int .i64 0, .int .i64 0, .slice none 0 0, .int .i64 0, .int .i64 0, .slice none 0 0]) (cs := (Fv x6 v11 v12)) GN ([Tr27.of (x6.un.1, Tr24.of (x6.un.2.1.un.1, x6.un.2.1.un.2.1, x6.un.2.1.un.2.2.1, x6.un.2.1.un.2.2.2), x6.un.2.2.1, x6.un.2.2.2.1, x6.un.2.2.2.2)] : List Tr27) W F Aa UJ WQ Aa Aa Aa (A8 Aa Aa Aa C5) Aa Aa ⟨[Value.int .i64 x6.un.1, Value.int .i64 x6.un.2.1.un.1, Value.int .i64 x6.un.2.1.un.2.1, Value.int .i64 x6.un.2.1.un.2.2.1, v11, Value.int .i64 x6.un.2.2.1, Value.int .i64 x6.un.2.2.2.1, v12], _, Aa, (WI.2 ⟨[Value.int .i64 x6.un.1], [Value.int .i64 x6.un.2.1.un.1, Value.int .i64 x6.un.2.1.un.2.1, Value.int .i64 x6.un.2.1.un.2.2.1, v11, Value.int .i64 x6.un.2.2.1, Value.int .i64 x6.un.2.2.2.1, v12], Aa, Aa, ⟨[Value.int .i64 x6.un.2.1.un.1, Value.int .i64 x6.un.2.1.un.2.1, Value.int .i64 x6.un.2.1.un.2.2.1, v11], [Value.int .i64 x6.un.2.2.1, Value.int .i64 x6.un.2.2.2.1, v12], Aa, (VC.2 ⟨[Value.int .i64 x6.un.2.1.un.1], [Value.int .i64 x6.un.2.1.un.2.1, Value.int .i64 x6.un.2.1.un.2.2.1, v11], Aa, Aa, ⟨[Value.int .i64 x6.un.2.1.un.2.1], [Value.int .i64 x6.un.2.1.un.2.2.1, v11], Aa, Aa, ⟨[Value.int .i64 x6.un.2.1.un.2.2.1], [v11], Aa, Aa, ⟨_, Aa, (F.item (i := 1) Aa)⟩⟩⟩⟩), ⟨[Value.int .i64 x6.un.2.2.1], [Value.int .i64 x6.un.2.2.2.1, v12], Aa, Aa, ⟨[Value.int .i64 x6.un.2.2.2.1], [v12], Aa, Aa, ⟨_, Aa, (F.item (i := 0) Aa)⟩⟩⟩⟩⟩), Aa⟩ fun v13 a w W F => ?_
   refine Bl (N2 := []) (NZ2 := []) (N3 := [(some 9, b3, [.int .i64 p0.un.1, .int .i64 x1.un.1, .int .i64 x1.un.2.1, .int .i64 x1.un.2.2.1, v5, .int .i64 p0.un.2.2.1, .int .i64 p0.un.2.2.2.1, v7]), (some 7, b1, [.int .i64 p0.un.1, .int .i64 p0.un.2.1.un.1, .int .i64 p0.un.2.1.un.2.1, .int .i64 p0.un.2.1.un.2.2.1, v1, .int .i64 p0.un.2.2.1, .int .i64 p0.un.2.2.2.1, v2])]) (NZ3 := []) F Aa Aa (all_cons (fun _ => (.head _)) (all_cons (fun h => Ah (by kernel_rfl) h) Ag)) Ag ?_
   refine Dr Aa ?_
   have F := F.frontZ (i := 3) Aa Aa
   have F := F.hideR Is h5
   obtain ⟨x7, h11, H⟩ := Ad H
   refine HL (r := GN) (i := 0) W F Aa UJ Aa Aa Aa Aa (Jj F 1 Aa) h11 Aa fun v14 a w W F => ?_
   have F : Stw ⟨Y, [], w0⟩ (Ob b3 p0 x1 v5 v7 b2 b1 v1 v2) [row v14 27 GN x7, row v13 27 GN ([Tr27.of (x6.un.1, Tr24.of (x6.un.2.1.un.1, x6.un.2.1.un.2.1, x6.un.2.1.un.2.2.1, x6.un.2.1.un.2.2.2), x6.un.2.2.1, x6.un.2.2.2.1, x6.un.2.2.2.2)] : List Tr27), Ef v12 GN x6.un.2.2.2.2, Ef v11 DO x6.un.2.1.un.2.2.2, row v5 24 Mi v8] w := F
   refine Bl (N2 := []) (NZ2 := []) (N3 := [(some 9, b3, [.int .i64 p0.un.1, .int .i64 x1.un.1, .int .i64 x1.un.2.1, .int .i64 x1.un.2.2.1, v5, .int .i64 p0.un.2.2.1, .int .i64 p0.un.2.2.2.1, v7]), (some 7, b1, [.int .i64 p0.un.1, .int .i64 p0.un.2.1.un.1, .int .i64 p0.un.2.1.un.2.1, .int .i64 p0.un.2.1.un.2.2.1, v1, .int .i64 p0.un.2.2.1, .int .i64 p0.un.2.2.2.1, v2])]) (NZ3 := []) F Aa Aa (all_cons (fun h => Ah (by kernel_rfl) h) (all_cons (fun h => Ah (by kernel_rfl) h) Ag)) Ag ?_
   refine Bo (R := []) W Aa Aa (yC fun M Z hN hZ => Ap Lu Aa Aa Aa VT W Aa 7 Aa) Aa Aa fun a W => ?_
   refine Dr Aa ?_
   refine LA (M' := (Ob b3 p0 x1 v5 v14 b2 b1 v1 v2)) 0 W F Aa Aa Aa VT (F.one (k := 0) Aa) Aa Aa fun w F => ?_
   refine Bl (N2 := []) (NZ2 := []) (N3 := [(some 9, b3, [.int .i64 p0.un.1, .int .i64 x1.un.1, .int .i64 x1.un.2.1, .int .i64 x1.un.2.2.1, v5, .int .i64 p0.un.2.2.1, .int .i64 p0.un.2.2.2.1, v7]), (some 7, b1, [.int .i64 p0.un.1, .int .i64 p0.un.2.1.un.1, .int .i64 p0.un.2.1.un.2.1, .int .i64 p0.un.2.1.un.2.2.1, v1, .int .i64 p0.un.2.2.1, .int .i64 p0.un.2.2.2.1, v2])]) (NZ3 := []) F Aa Aa (all_cons (fun h => Ah (by kernel_rfl) h) (all_cons (fun h => Ah (by kernel_rfl) h) Ag)) Ag ?_
   refine Fw (AG ?_)
   refine vn tk 5 W F fun a w W F => ?_
   refine Ac ?_
   have F := F.frontZ (i := 4) Aa Aa
   have F := F.hideR EJ h4
   have F := F.frontZ (i := 1) Aa Aa
   have F := F.frontZ (i := 1) Aa Aa
   have F := F.frontM (i := 2) Aa Aa
   have F := F.frontM (i := 2) Aa Aa
   have F := F.frontM (i := 2) Aa Aa
   have F := F.sub (M' := (Ob b3 p0 x1 v5 v14 b2 b1 v1 v2)) (Z' := [row v5 24 DO x1.un.2.2.2, row v14 27 GN x7]) (List.Sublist.refl _) (List.Sublist.cons_cons _ (List.Sublist.cons_cons _ (List.nil_sublist _)))
   exact ⟨_, H, (v14), W.ra Aa, F⟩
  refine Bu ?_
  iterate 2 refine BL ?_
  refine Bp (Ac ?_)
  have F := F.frontZ (i := 1) Aa Aa
  have F := F.frontZ (i := 1) Aa Aa
  have F := F.frontM (i := 2) Aa Aa
  have F := F.frontM (i := 2) Aa Aa
  have F := F.frontM (i := 2) Aa Aa
  have H := L2 _ H
  exact ⟨_, (v7), H, W.ra Aa, F⟩
 rintro a w ⟨x2, v6, hj, W, F⟩
 have hj := AA hj
 subst hj
 have H := K1
 clear G1 K1
 refine Fo tk 3 [0] W F (ai fun a w W F => ?_)
 refine Ed 1 W F Aa Aa Aa Sk Aa Aa (Ae Aa (Ae Aa (Ae Aa (Ae Aa (Ae (F.one (k := 0) Aa) (Ae Aa (Ae Aa (Ae (F.one (k := 1) Aa) Df)))))))) fun w F => ?_
 refine Cl tk 2 W F fun a w W F => ?_
 refine Ak ?_
 have H := AA H
 subst H
 refine Au (.inl Aa) W F Aa (Ig 1 W Aa Aa Sk Aa) ?_
 have F := F.frontZ (i := 1) Aa Aa
 have F := F.frontZ (i := 1) Aa Aa
 have F := F.sub (M' := []) (Z' := [row v5 24 DO x1.un.2.2.2, row v6 27 GN x2]) (List.nil_sublist _) (List.Sublist.refl _)
 exact ⟨((v5), (v6)), Aa, F⟩
theorem OR : ∀ (n : Nat) (Y : Nat → Prop) (w0 : World) (v1 : Value) (v2 : Value) (p0 : Tr37) (r : Tr27) (H : C1 n p0 = some r) (h_v1 : Sl w0 (NX []) CC v1 p0.un.2.1.un.2.2.2) (h_v2 : Sl w0 (NX []) De v2 p0.un.2.2.2.2), Calls Tryz.prog 29 #[.agg #[.int .i64 p0.un.1, .int .i64 p0.un.2.1.un.1, .int .i64 p0.un.2.1.un.2.1, .int .i64 p0.un.2.1.un.2.2.1, v1, .int .i64 p0.un.2.2.1, .int .i64 p0.un.2.2.2.1, v2]] w0 fun e w' => ∃ x : Value × Value, e = .returned (.agg #[.int .i64 r.un.1, .int .i64 r.un.2.1.un.1, .int .i64 r.un.2.1.un.2.1, .int .i64 r.un.2.1.un.2.2.1, x.1, .int .i64 r.un.2.2.1, .int .i64 r.un.2.2.2.1, x.2]) ∧ Stw ⟨Y, [], w0⟩ [] [row (x.1) 24 DO r.un.2.1.un.2.2.2, row (x.2) 27 GN r.un.2.2.2.2] w' := by
  intro n
  induction n with
  | zero => intro Y w0 v1 v2 p0 r H; exact nomatch H
  | succ n ih => intro Y w0 v1 v2 p0 r H h_v1 h_v2; exact NT (C1 n) ih Y w0 v1 v2 p0 r H h_v1 h_v2
theorem LE (Y : Nat → Prop) (w0 : World) (v1 : Value) (v2 : Value) (p0 : Tr37) (r : Tr27) (H : FE p0 = some r) (h_v1 : Sl w0 (NX []) CC v1 p0.un.2.1.un.2.2.2) (h_v2 : Sl w0 (NX []) De v2 p0.un.2.2.2.2) :
    Calls Tryz.prog 29 #[.agg #[.int .i64 p0.un.1, .int .i64 p0.un.2.1.un.1, .int .i64 p0.un.2.1.un.2.1, .int .i64 p0.un.2.1.un.2.2.1, v1, .int .i64 p0.un.2.2.1, .int .i64 p0.un.2.2.2.1, v2]] w0 fun e w' => ∃ x : Value × Value, e = .returned (.agg #[.int .i64 r.un.1, .int .i64 r.un.2.1.un.1, .int .i64 r.un.2.1.un.2.1, .int .i64 r.un.2.1.un.2.2.1, x.1, .int .i64 r.un.2.2.1, .int .i64 r.un.2.2.2.1, x.2]) ∧ Stw ⟨Y, [], w0⟩ [] [row (x.1) 24 DO r.un.2.1.un.2.2.2, row (x.2) 27 GN r.un.2.2.2.2] w' := by
  obtain ⟨n, H⟩ := CR H
  exact OR n Y w0 v1 v2 p0 r H h_v1 h_v2
noncomputable def FG (p0 : List (Int × (Int × Int × Int × Int))) (p1 : List (Int × (Int × Int × Int × Int))) : Int → Option (Int ⊕ (Unit ⊕ Bool))
  | x1 => (if x1 < (p0.length : Int) then (ix p0 x1).bind fun x2 => (ix p1 x1).bind fun x3 => (if (!(decide (x2.1 = x3.1 ∧ x2.2.1 = x3.2.1 ∧ x2.2.2.1 = x3.2.2.1 ∧ x2.2.2.2.1 = x3.2.2.2.1 ∧ x2.2.2.2.2 = x3.2.2.2.2))) = true then some (.inr (.inr false)) else some (.inl (AO (x1 + 1)))) else some (.inr (.inl ())))
noncomputable def IP (p0 : List (Int × (Int × Int × Int × Int))) (p1 : List (Int × (Int × Int × Int × Int))) : Option Bool := (if (p0.length : Int) ≠ (p1.length : Int) then some false else Ko (AW (FG p0 p1) 0) fun _ => some true)
theorem Oz (Y : Nat → Prop) (w0 : World) (v1 : Value) (v2 : Value) (p0 : List (Int × (Int × Int × Int × Int))) (p1 : List (Int × (Int × Int × Int × Int))) (r : Bool) (H : IP p0 p1 = some r) (h_v1 : Sl w0 (NX []) Bg v1 p0) (h_v2 : Sl w0 (NX []) Bg v2 p1) :
    Calls Tryz.prog 19 #[v1, v2] w0 fun e w' => e = .returned (.bool r) ∧ Below w0.heap.size w0 w' := by
 refine enter Tryz.func19 Aa Tryz.ntmps19 Aa fun a W => ?_
 have F := Stw.start Y w0
 unfold IP at H
 refine vc tk 9 W F fun a w W F => ?_
 refine ls W F Aa (CS (r := Bg) (l := p0) SH Aa W Aa (Af h_v1)).q fun a w W F => ?_
 refine ls W F Aa (An W Aa).q fun a w W F => ?_
 refine ls W F Aa (CS (r := Bg) (l := p1) SH Aa W Aa (Af h_v2)).q fun a w W F => ?_
 refine Cl tk 3 W F fun a w W F => ?_
 refine BJ W Aa H (fun W H => ?_) fun W H => ?_
 ·
  refine vc tk 5 W F fun a w W F => ?_
  refine Ak (Ay ?_)
  have H := AA H
  subst H
  refine Au (.inl Aa) W F Aa (Am W Aa) ?_
  exact ⟨rfl, F.done⟩
 refine AX (Ac ?_)
 obtain ⟨o1, G1, K1, L1⟩ := QS H
 refine Ax (fun a w => some (Sum.inl ()) = some o1 ∧ Fr 26 [] [(4, .bool false)] a ∧ Stw ⟨Y, [], w0⟩ [] [] w) ?_ ?_
 ·
  have H := G1
  clear G1 K1
  refine vc tk 6 W F fun a w W F => ?_
  refine BF H (fun s a w => Fr 26 [] [(0, v1), (1, v2), (4, .bool false), (5, .int .i64 s)] a ∧ Stw ⟨Y, [], w0⟩ [] [] w) ⟨W.ra Aa, F⟩ fun s o a w H L2 hR => ?_
  obtain ⟨x1, rfl⟩ : ∃ x, x = s := ⟨s, rfl⟩
  obtain ⟨W, F⟩ := hR
  have W : Fr 26 [] [(0, v1), (1, v2), (4, .bool false), (5, .int .i64 x1)] a := W
  have F : Stw ⟨Y, [], w0⟩ [] [] w := F
  rw [FG] at H
  refine vc tk 5 W F fun a w W F => ?_
  refine ls W F Aa (CS (r := Bg) (l := p0) SH Aa W Aa (Af h_v1)).q fun a w W F => ?_
  refine Cl tk 3 W F fun a w W F => ?_
  refine BJ W Aa H (fun W H => ?_) fun W H => ?_
  ·
   refine FL tk 5 W F fun a w W F => ?_
   refine Cw F MO (by kernel_rfl) ?_
   iterate 2 refine qs W Aa (An W Aa).q fun a W => ?_
   obtain ⟨x2, h1, H⟩ := Ad H
   refine qs W Aa (Av (r := Bg) Eg W Aa Aa (Af h_v1) h1).q fun a W => ?_
   refine qs W Aa (Al (y := Value.agg #[.int .i64 x2.1, .int .i64 x2.2.1, .int .i64 x2.2.2.1, .int .i64 x2.2.2.2.1, .int .i64 x2.2.2.2.2]) (j := 0) (i := x1) W Aa Aa (Af h_v1) h1 Ej.to DP Aa).q fun a W => ?_
   iterate 2 refine qs W Aa (An W Aa).q fun a W => ?_
   obtain ⟨x3, h2, H⟩ := Ad H
   refine qs W Aa (Av (r := Bg) Eg W Aa Aa (Af h_v2) h2).q fun a W => ?_
   refine qs W Aa (Al (y := Value.agg #[.int .i64 x3.1, .int .i64 x3.2.1, .int .i64 x3.2.2.1, .int .i64 x3.2.2.2.1, .int .i64 x3.2.2.2.2]) (j := 0) (i := x1) W Aa Aa (Af h_v2) h2 Ej.to DP Aa).q fun a W => ?_
   refine qs W Aa (V3 (t := decide (x2.1 = x3.1 ∧ x2.2.1 = x3.2.1 ∧ x2.2.2.1 = x3.2.2.1 ∧ x2.2.2.2.1 = x3.2.2.2.1 ∧ x2.2.2.2.2 = x3.2.2.2.2)) X9 (W2 _ _ _ _ _ _ _ _ _ _) W Aa Aa).q fun a W => ?_
   refine AJ fun w F => ?_
   refine Ac ?_
   refine Cz W Aa H (fun W H => ?_) fun W H => ?_
   ·
    refine vc tk 5 W F fun a w W F => ?_
    refine Ak (AD ?_)
    iterate 2 refine Ay ?_
    refine AD (Ay ?_)
    have H := L2 _ H
    have H := L1 _ H
    have H := AA H
    subst H
    refine Au (.inl Aa) W F Aa (Am W Aa) ?_
    exact ⟨rfl, F.done⟩
   refine AX (AG ?_)
   refine vn tk 5 W F fun a w W F => ?_
   refine Ac ?_
   exact ⟨_, H, W.ra Aa, F⟩
  refine Bu ?_
  iterate 2 refine BL ?_
  refine Bp (Ac ?_)
  have H := L2 _ H
  exact ⟨H, W.ra Aa, F⟩
 rintro a w ⟨hj, W, F⟩
 have H := K1 _ hj
 clear hj G1 K1 L1
 refine vc tk 5 W F fun a w W F => ?_
 refine Ak ?_
 have H := AA H
 subst H
 refine Au (.inl Aa) W F Aa (Am W Aa) ?_
 exact ⟨rfl, F.done⟩
end Go.Proofs.YtpckgggmgijiiaaGreatDoor
