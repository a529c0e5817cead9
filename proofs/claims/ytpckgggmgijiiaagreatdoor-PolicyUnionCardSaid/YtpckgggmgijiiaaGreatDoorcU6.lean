/- The functions of layer 27, Jw. Conditions: none. -/
import Derived.Test.YtpckgggmgijiiaaGreatDoorcU5
namespace Go.Proofs.YtpckgggmgijiiaaGreatDoor
noncomputable section
open Go Go.RowKit
set_option linter.unusedVariables false
set_option linter.unusedSimpArgs false
set_option maxRecDepth 20000
theorem W9 : type_of% Tryz.underlying57 := Tryz.underlying57
theorem Zk : (Tryz.prog.info? 35).bind (·.zero) = some (.slice none 0 0) := by kernel_rfl
theorem X1 : Et Tryz.prog 57 35 1 24 := Et.of W9 (by kernel_rfl) (by kernel_rfl) (by kernel_rfl) (by decide)
abbrev X7 (p : Value × List Tr37) : List Tr37 := p.2
theorem UH : Ex (Rp.slice Bl) (Rp.vsl Bl) X7 := Ex.sliceF
abbrev Tw (a : Value × List Tr37) : List Value := [a.1]
theorem W4 : Fj (Rp.vsl Bl) Tw := Fj.vsl
theorem Xm : (Tryz.prog.info? 27).bind (·.zero) = some (.agg #[.int .i64 0, .int .i64 0, .int .i64 0, .int .i64 0, .slice none 0 0, .int .i64 0, .int .i64 0, .slice none 0 0]) := by kernel_rfl
theorem Ye : (Tryz.prog.info? 24).bind (·.zero) = some (.agg #[.int .i64 0, .int .i64 0, .int .i64 0, .slice none 0 0]) := by kernel_rfl
theorem X0 : Has Tryz.prog 64 := CP Tryz.func64
abbrev OC (a0 : Nat) (a1 : Tr34) (a2 : Value) (a3 : Nat) (a4 : Nat) (a5 : Value) : List (Nat × List Value) := [(a0, [.int .i64 a1.un.1, .int .i64 a1.un.2.1, .int .i64 a1.un.2.2.1, a2]), (a3, [.int .i64 0, .int .i64 0, .int .i64 0, .slice none 0 0]), (a4, [.int .i64 a1.un.1, .int .i64 a1.un.2.1, .int .i64 a1.un.2.2.1, a5])]
def Dl (fRec : Tr34 → Option Tr24) (p0 : Tr34) : (Int × List Tr24) → Option ((Int × List Tr24) ⊕ (List Tr24))
  | (x2, x3) => (if x2 < (p0.un.2.2.2.length : Int) then (ix p0.un.2.2.2 x2).bind fun x4 => (fRec x4).bind fun x5 => (IF x3 ([x5] : List Tr24)).bind fun x6 => some (.inl (AU (x2 + 1), x6)) else some (.inr x3))
def Ed (fRec : Tr34 → Option Tr24) (p0 : Tr34) : Option Tr24 := (Ba (Dl fRec p0) (0, [])).bind fun x1 => some (Tr24.of (p0.un.1, p0.un.2.1, p0.un.2.2.1, x1))
def Dr : Nat → Tr34 → Option Tr24
  | 0 => fun _ => none
  | n + 1 => Ed (Dr n)
def LL (p0 : Tr34) : Option Tr24 := HC fun n => Dr n p0
theorem Oq (fRec : Tr34 → Option Tr24) (ih : ∀ (Y : Nat → Prop) (w0 : World) (v1 : Value) (p0 : Tr34) (r : Tr24) (H : fRec p0 = some r) (h_v1 : Sl w0 (NX []) Bj v1 p0.un.2.2.2), Calls Tryz.prog 64 #[.agg #[.int .i64 p0.un.1, .int .i64 p0.un.2.1, .int .i64 p0.un.2.2.1, v1]] w0 fun e w' => ∃ x : Value, e = .returned (.agg #[.int .i64 r.un.1, .int .i64 r.un.2.1, .int .i64 r.un.2.2.1, x]) ∧ Stw ⟨Y, [], w0⟩ [] [row (x) 24 DT r.un.2.2.2] w') (Y : Nat → Prop) (w0 : World) (v1 : Value) (p0 : Tr34) (r : Tr24) (H : Ed fRec p0 = some r) (h_v1 : Sl w0 (NX []) Bj v1 p0.un.2.2.2) :
    Calls Tryz.prog 64 #[.agg #[.int .i64 p0.un.1, .int .i64 p0.un.2.1, .int .i64 p0.un.2.2.1, v1]] w0 fun e w' => ∃ x : Value, e = .returned (.agg #[.int .i64 r.un.1, .int .i64 r.un.2.1, .int .i64 r.un.2.2.1, x]) ∧ Stw ⟨Y, [], w0⟩ [] [row (x) 24 DT r.un.2.2.2] w' := by
 refine enter Tryz.func64 Aa Tryz.ntmps64 Aa fun a W => ?_
 have F := Stw.start Y w0
 obtain ⟨v2, h1, h_v1⟩ := h_v1.ex Co
 unfold Ed at H
 refine vc tk 2 W F fun a w W F => ?_
 refine CX (cs := (F1 p0 v1)) W F Aa Aa Aa fun b1 a w W F => ?_
 refine AF (cs := (LH)) W F Aa Ye Aa fun b2 a w W F => ?_
 refine Gz tk 10 [1, 1, 1] W F (ai (ai (ai fun a w W F => ?_)))
 refine ls W F Aa (CM (v := Value.agg #[.int .i64 p0.un.1, .int .i64 p0.un.2.1, .int .i64 p0.un.2.2.1, .slice none 0 0]) YU W Aa Aa Aa).q fun a w W F => ?_
 refine AF (cs := (LH)) W F Aa Ye Aa fun b3 a w W F => ?_
 refine DZ 0 W F Aa Aa Aa RY Aa Aa Aa fun w F => ?_
 refine Fd (Ad ?_)
 obtain ⟨o1, G1, K1⟩ := Ag H
 refine AA (fun a w => ∃ x1 : List Tr24, ∃ v3 : Value, some (x1) = some o1 ∧ Fr 31 [] [(2, .pointer (some ⟨b2, 0, none⟩)), (3, .pointer (some ⟨b3, 0, none⟩))] a ∧ Stw ⟨Y, [], w0⟩ (OC b3 p0 v3 b2 b1 v1) [row v3 24 DT x1] w) ?_ ?_
 ·
  have H := G1
  clear G1 K1
  refine vc tk 6 W F fun a w W F => ?_
  have F := F.nilRow 24 DT
  have F := F.frontM (i := 2) Aa Aa
  have F := F.frontM (i := 2) Aa Aa
  have F := F.frontM (i := 2) Aa Aa
  refine BN H (fun s a w => ∃ v4 : Value, Fr 31 [] [(1, .pointer (some ⟨b1, 0, none⟩)), (2, .pointer (some ⟨b2, 0, none⟩)), (3, .pointer (some ⟨b3, 0, none⟩)), (4, .int .i64 s.1)] a ∧ Stw ⟨Y, [], w0⟩ (OC b3 p0 v4 b2 b1 v1) [row v4 24 DT s.2] w) ⟨(Value.slice none 0 0), W.ra Aa, F⟩ fun s o a w H L2 hR => ?_
  obtain ⟨x2, x3⟩ := s
  obtain ⟨v4, W, F⟩ := hR
  have W : Fr 31 [] [(1, .pointer (some ⟨b1, 0, none⟩)), (2, .pointer (some ⟨b2, 0, none⟩)), (3, .pointer (some ⟨b3, 0, none⟩)), (4, .int .i64 x2)] a := W
  have F : Stw ⟨Y, [], w0⟩ (OC b3 p0 v4 b2 b1 v1) [row v4 24 DT x3] w := F
  rw [Dl] at H
  refine FR tk 6 [2] W F (ai fun a w W F => ?_)
  refine ls W F Aa (C2 (r := Bj) (l := p0.un.2.2.2) Lk Aa W Aa (Ak Co h1 (Ah h_v1))).q fun a w W F => ?_
  refine Cv tk 3 W F fun a w W F => ?_
  refine BU W Aa H (fun W H => ?_) fun W H => ?_
  ·
   refine Gp tk 4 W F fun a w W F => ?_
   obtain ⟨v5, h2, F⟩ := F.exR Da
   refine EX [(true, 0), (true, 1), (true, 2), (true, 3), (true, 4), (true, 5), (true, 6), (false, 7), (false, 8), (false, 9), (true, 10), (false, 11)] (CN ⟨Y, [], w0⟩ [(some 9, b3, [.int .i64 p0.un.1, .int .i64 p0.un.2.1, .int .i64 p0.un.2.2.1, v4]), (some 7, b1, [.int .i64 p0.un.1, .int .i64 p0.un.2.1, .int .i64 p0.un.2.2.1, v1])] []) (fun ch a d v w h => by cases d <;> exact h) MO (by kernel_rfl) F (fun w F => ⟨_, _, F, (all_cons (fun _ => (.head _)) (all_cons (fun _ => (.tail _ (.tail _ (.head _)))) Ab)), Ab⟩) fun w F => ?_
   refine BD (R := []) W Aa Aa (yC fun M Z hN hZ => As NV Aa Aa Aa Uz W Aa 3 Aa) Aa Aa fun a W => ?_
   refine BD (R := [9]) W Aa Aa (yC fun M Z hN hZ => Cw (cs := (F1 p0 v4)) (v := v4) W Aa (hN ((some 9), b3, (F1 p0 v4)) (.head _) Aa) Uz Aa) (by kernel_rfl) Aa fun a W => ?_
   refine BD (R := []) W Aa Aa (yC fun M Z hN hZ => As Lj Aa Aa Aa Th W Aa 3 Aa) Aa Aa fun a W => ?_
   refine BD (R := [7, 6, 5]) W Aa Aa (yC fun M Z hN hZ => Cw (cs := (F1 p0 v1)) (v := v1) W Aa (hN ((some 7), b1, (F1 p0 v1)) (.tail _ (.head _)) Aa) Th Aa) (by kernel_rfl) Aa fun a W => ?_
   refine BD (R := []) W Aa Aa (yC fun M Z hN hZ => Aq W Aa) Aa Aa fun a W => ?_
   obtain ⟨x4, h3, H⟩ := Ag H
   obtain ⟨v6, h4, h5⟩ := DQ h1 h3
   have h6 : J4 v6 = [.int .i64 x4.un.1, .int .i64 x4.un.2.1, .int .i64 x4.un.2.2.1, (v6.2.2.2.1)] := congrArg (fun q : Tr34 => ([.int .i64 q.un.1, .int .i64 q.un.2.1, .int .i64 q.un.2.2.1, (v6.2.2.2.1)] : List Value)) h5
   refine BD (R := []) W Aa Aa (yC fun M Z hN hZ => Aw (r := Gr) Tk W Aa Aa (Ah h_v1) h4) Aa Aa fun a W => ?_
   refine BD (R := []) W Aa Aa (yC fun M Z hN hZ => An (y := Value.agg #[.int .i64 x4.un.1, .int .i64 x4.un.2.1, .int .i64 x4.un.2.2.1, (v6.2.2.2.1)]) (j := 0) (i := x2) (enc := J4) W Aa Aa (Ah h_v1) h4 Qn MT (by rw [h6]; rfl)) Aa Aa fun a W => ?_
   refine DU Aa ?_
   obtain ⟨x5, h7, H⟩ := Ag H
   refine A7 (Ml := []) (Zl := []) (β := Value) (rv := fun x => .agg #[.int .i64 x5.un.1, .int .i64 x5.un.2.1, .int .i64 x5.un.2.2.1, x]) (MM := fun x => []) (ZZ := fun x => [row x 24 DT x5.un.2.2.2]) W F X0 Aa Aa (fun hL => ih _ w ((v6.2.2.2.1)) x4 _ h7 ((Br (Ah h_v1) h4 (Ai.snd (Ai.snd (Ai.snd Ai.here))) (congrArg (fun q : Tr34 => q.un.2.2.2) h5)) w F).nx) fun x a w W F => ?_
   obtain ⟨v7, rfl⟩ : ∃ y, y = x := ⟨x, rfl⟩
   have F : Stw ⟨Y, [], w0⟩ (OC b3 p0 v4 b2 b1 v1) [row v7 24 DT x5.un.2.2.2, row v4 24 M0 v5] w := F
   refine BG (N2 := []) (NZ2 := []) (N3 := [(some 9, b3, [.int .i64 p0.un.1, .int .i64 p0.un.2.1, .int .i64 p0.un.2.2.1, v4]), (some 7, b1, [.int .i64 p0.un.1, .int .i64 p0.un.2.1, .int .i64 p0.un.2.2.1, v1])]) (NZ3 := []) F Aa Aa (all_cons (fun _ => (.head _)) (all_cons (fun h => Ae (by kernel_rfl) h) Ab)) Ab ?_
   refine DU Aa ?_
   have F := F.freeze
   refine Gs (z := Value.agg #[.int .i64 0, .int .i64 0, .int .i64 0, .slice none 0 0]) (cs := (CD x5 v7)) DT ([x5] : List Tr24) W F Aa UE Ye Aa Aa Aa (A9 Aa Aa Aa Dc) Aa Aa ⟨[Value.int .i64 x5.un.1, Value.int .i64 x5.un.2.1, Value.int .i64 x5.un.2.2.1, v7], _, Aa, (SZ.2 ⟨[Value.int .i64 x5.un.1], [Value.int .i64 x5.un.2.1, Value.int .i64 x5.un.2.2.1, v7], Aa, Aa, ⟨[Value.int .i64 x5.un.2.1], [Value.int .i64 x5.un.2.2.1, v7], Aa, Aa, ⟨[Value.int .i64 x5.un.2.2.1], [v7], Aa, Aa, ⟨_, Aa, (F.item (i := 0) Aa)⟩⟩⟩⟩), Aa⟩ fun v8 a w W F => ?_
   refine BG (N2 := []) (NZ2 := []) (N3 := [(some 9, b3, [.int .i64 p0.un.1, .int .i64 p0.un.2.1, .int .i64 p0.un.2.2.1, v4]), (some 7, b1, [.int .i64 p0.un.1, .int .i64 p0.un.2.1, .int .i64 p0.un.2.2.1, v1])]) (NZ3 := []) F Aa Aa (all_cons (fun _ => (.head _)) (all_cons (fun h => Ae (by kernel_rfl) h) Ab)) Ab ?_
   refine DU Aa ?_
   have F := F.frontZ (i := 2) Aa Aa
   have F := F.hideR Da h2
   obtain ⟨x6, h8, H⟩ := Ag H
   refine IQ (r := DT) (i := 0) W F Aa UE Aa Aa Aa Aa (JX F 1 Aa) h8 Aa fun v9 a w W F => ?_
   have F : Stw ⟨Y, [], w0⟩ (OC b3 p0 v4 b2 b1 v1) [row v9 24 DT x6, row v8 24 DT ([x5] : List Tr24), B7 v7 DT x5.un.2.2.2] w := F
   refine BG (N2 := []) (NZ2 := []) (N3 := [(some 9, b3, [.int .i64 p0.un.1, .int .i64 p0.un.2.1, .int .i64 p0.un.2.2.1, v4]), (some 7, b1, [.int .i64 p0.un.1, .int .i64 p0.un.2.1, .int .i64 p0.un.2.2.1, v1])]) (NZ3 := []) F Aa Aa (all_cons (fun h => Ae (by kernel_rfl) h) (all_cons (fun h => Ae (by kernel_rfl) h) Ab)) Ab ?_
   refine BD (R := []) W Aa Aa (yC fun M Z hN hZ => As NV Aa Aa Aa Uz W Aa 3 Aa) Aa Aa fun a W => ?_
   refine DU Aa ?_
   refine Mo (M' := (OC b3 p0 v9 b2 b1 v1)) 0 W F Aa Aa Aa Uz (F.one (k := 0) Aa) Aa Aa fun w F => ?_
   refine BG (N2 := []) (NZ2 := []) (N3 := [(some 9, b3, [.int .i64 p0.un.1, .int .i64 p0.un.2.1, .int .i64 p0.un.2.2.1, v4]), (some 7, b1, [.int .i64 p0.un.1, .int .i64 p0.un.2.1, .int .i64 p0.un.2.2.1, v1])]) (NZ3 := []) F Aa Aa (all_cons (fun h => Ae (by kernel_rfl) h) (all_cons (fun h => Ae (by kernel_rfl) h) Ab)) Ab ?_
   refine GM (AM ?_)
   refine vn tk 5 W F fun a w W F => ?_
   refine Ad ?_
   have F := F.frontM (i := 2) Aa Aa
   have F := F.frontM (i := 2) Aa Aa
   have F := F.frontM (i := 2) Aa Aa
   have F := F.sub (M' := (OC b3 p0 v9 b2 b1 v1)) (Z' := [row v9 24 DT x6]) (List.Sublist.refl _) (List.Sublist.cons_cons _ (List.nil_sublist _))
   exact ⟨_, H, (v9), W.ra Aa, F⟩
  refine BB ?_
  iterate 2 refine BR ?_
  refine Bx (Ad ?_)
  have F := F.frontM (i := 2) Aa Aa
  have F := F.frontM (i := 2) Aa Aa
  have F := F.frontM (i := 2) Aa Aa
  have H := L2 _ H
  exact ⟨_, (v4), H, W.ra Aa, F⟩
 rintro a w ⟨x1, v3, hj, W, F⟩
 have hj := AC hj
 subst hj
 have H := K1
 clear G1 K1
 refine FR tk 3 [0] W F (ai fun a w W F => ?_)
 refine DZ 1 W F Aa Aa Aa RY Aa Aa (Af Aa (Af Aa (Af Aa (Af (F.one (k := 0) Aa) CT)))) fun w F => ?_
 refine Cv tk 2 W F fun a w W F => ?_
 refine Am ?_
 have H := AC H
 subst H
 refine Ax (.inl Aa) W F Aa (Jc 1 W Aa Aa RY Aa) ?_
 have F := F.sub (M' := []) (Z' := [row v3 24 DT x1]) (List.nil_sublist _) (List.Sublist.refl _)
 exact ⟨(v3), Aa, F⟩
theorem PD : ∀ (n : Nat) (Y : Nat → Prop) (w0 : World) (v1 : Value) (p0 : Tr34) (r : Tr24) (H : Dr n p0 = some r) (h_v1 : Sl w0 (NX []) Bj v1 p0.un.2.2.2), Calls Tryz.prog 64 #[.agg #[.int .i64 p0.un.1, .int .i64 p0.un.2.1, .int .i64 p0.un.2.2.1, v1]] w0 fun e w' => ∃ x : Value, e = .returned (.agg #[.int .i64 r.un.1, .int .i64 r.un.2.1, .int .i64 r.un.2.2.1, x]) ∧ Stw ⟨Y, [], w0⟩ [] [row (x) 24 DT r.un.2.2.2] w' := by
  intro n
  induction n with
  | zero => intro Y w0 v1 p0 r H; exact nomatch H
  | succ n ih => intro Y w0 v1 p0 r H h_v1; exact Oq (Dr n) ih Y w0 v1 p0 r H h_v1
theorem Mn (Y : Nat → Prop) (w0 : World) (v1 : Value) (p0 : Tr34) (r : Tr24) (H : LL p0 = some r) (h_v1 : Sl w0 (NX []) Bj v1 p0.un.2.2.2) :
    Calls Tryz.prog 64 #[.agg #[.int .i64 p0.un.1, .int .i64 p0.un.2.1, .int .i64 p0.un.2.2.1, v1]] w0 fun e w' => ∃ x : Value, e = .returned (.agg #[.int .i64 r.un.1, .int .i64 r.un.2.1, .int .i64 r.un.2.2.1, x]) ∧ Stw ⟨Y, [], w0⟩ [] [row (x) 24 DT r.un.2.2.2] w' := by
  obtain ⟨n, H⟩ := CZ H
  exact PD n Y w0 v1 p0 r H h_v1
theorem YZ : Bt Tryz.prog 27 [.int .i64 0, .int .i64 0, .int .i64 0, .int .i64 0, .slice none 0 0, .int .i64 0, .int .i64 0, .slice none 0 0] [(0, 1), (1, 4), (5, 1), (6, 1), (7, 1)] := ⟨⟨.agg #[.int .i64 0, .int .i64 0, .int .i64 0, .int .i64 0, .slice none 0 0, .int .i64 0, .int .i64 0, .slice none 0 0], by kernel_rfl, rfl⟩, ⟨_, Mr, fun w => by kernel_rfl⟩⟩
theorem XK : Has Tryz.prog 29 := CP Tryz.func29
abbrev WI (a0 : Nat) (a1 : Tr37) (a2 : Tr24) (a3 : Value) (a4 : Nat) (a5 : Nat) (a6 : Value) (a7 : Value) : List (Nat × List Value) := [(a0, [.int .i64 a1.un.1, .int .i64 a2.un.1, .int .i64 a2.un.2.1, .int .i64 a2.un.2.2.1, a3, .int .i64 a1.un.2.2.1, .int .i64 a1.un.2.2.2.1, .slice none 0 0]), (a4, [.int .i64 0, .int .i64 0, .int .i64 0, .int .i64 0, .slice none 0 0, .int .i64 0, .int .i64 0, .slice none 0 0]), (a5, [.int .i64 a1.un.1, .int .i64 a1.un.2.1.un.1, .int .i64 a1.un.2.1.un.2.1, .int .i64 a1.un.2.1.un.2.2.1, a6, .int .i64 a1.un.2.2.1, .int .i64 a1.un.2.2.2.1, a7])]
abbrev Xh (a0 : Nat) (a1 : Nat) (a2 : Tr37) (a3 : Value) (a4 : Value) : List (Nat × List Value) := [(a0, [.int .i64 0, .int .i64 0, .int .i64 0, .int .i64 0, .slice none 0 0, .int .i64 0, .int .i64 0, .slice none 0 0]), (a1, [.int .i64 a2.un.1, .int .i64 a2.un.2.1.un.1, .int .i64 a2.un.2.1.un.2.1, .int .i64 a2.un.2.1.un.2.2.1, a3, .int .i64 a2.un.2.2.1, .int .i64 a2.un.2.2.2.1, a4])]
abbrev W7 (a0 : Nat) (a1 : Nat) (a2 : Nat) (a3 : Tr37) (a4 : Value) (a5 : Value) : List (Nat × List Value) := [(a0, [.int .i64 0, .int .i64 0, .int .i64 0, .int .i64 0, .slice none 0 0, .int .i64 0, .int .i64 0, .slice none 0 0]), (a1, [.int .i64 0, .int .i64 0, .int .i64 0, .int .i64 0, .slice none 0 0, .int .i64 0, .int .i64 0, .slice none 0 0]), (a2, [.int .i64 a3.un.1, .int .i64 a3.un.2.1.un.1, .int .i64 a3.un.2.1.un.2.1, .int .i64 a3.un.2.1.un.2.2.1, a4, .int .i64 a3.un.2.2.1, .int .i64 a3.un.2.2.2.1, a5])]
abbrev Oy (a0 : Nat) (a1 : Tr37) (a2 : Tr24) (a3 : Value) (a4 : Value) (a5 : Nat) (a6 : Nat) (a7 : Value) (a8 : Value) : List (Nat × List Value) := [(a0, [.int .i64 a1.un.1, .int .i64 a2.un.1, .int .i64 a2.un.2.1, .int .i64 a2.un.2.2.1, a3, .int .i64 a1.un.2.2.1, .int .i64 a1.un.2.2.2.1, a4]), (a5, [.int .i64 0, .int .i64 0, .int .i64 0, .int .i64 0, .slice none 0 0, .int .i64 0, .int .i64 0, .slice none 0 0]), (a6, [.int .i64 a1.un.1, .int .i64 a1.un.2.1.un.1, .int .i64 a1.un.2.1.un.2.1, .int .i64 a1.un.2.1.un.2.2.1, a7, .int .i64 a1.un.2.2.1, .int .i64 a1.un.2.2.2.1, a8])]
abbrev Vo (a0 : Tr37) (a1 : Tr24) (a2 : Value) (a3 : Value) : List Value := [.int .i64 a0.un.1, .int .i64 a1.un.1, .int .i64 a1.un.2.1, .int .i64 a1.un.2.2.1, a2, .int .i64 a0.un.2.2.1, .int .i64 a0.un.2.2.2.1, a3]
def Do (fRec : Tr37 → Option Tr27) (p0 : Tr37) : (Int × List Tr27) → Option ((Int × List Tr27) ⊕ (List Tr27))
  | (x3, x4) => (if x3 < (p0.un.2.2.2.2.length : Int) then (ix p0.un.2.2.2.2 x3).bind fun x5 => (fRec (Tr37.of (x5.un.1, Tr34.of (x5.un.2.1.un.1, x5.un.2.1.un.2.1, x5.un.2.1.un.2.2.1, x5.un.2.1.un.2.2.2), x5.un.2.2.1, x5.un.2.2.2.1, x5.un.2.2.2.2))).bind fun x6 => (IF x4 ([Tr27.of (x6.un.1, Tr24.of (x6.un.2.1.un.1, x6.un.2.1.un.2.1, x6.un.2.1.un.2.2.1, x6.un.2.1.un.2.2.2), x6.un.2.2.1, x6.un.2.2.2.1, x6.un.2.2.2.2)] : List Tr27)).bind fun x7 => some (.inl (AU (x3 + 1), x7)) else some (.inr x4))
def Ef (fRec : Tr37 → Option Tr27) (p0 : Tr37) : Option Tr27 := (LL (Tr34.of (p0.un.2.1.un.1, p0.un.2.1.un.2.1, p0.un.2.1.un.2.2.1, p0.un.2.1.un.2.2.2))).bind fun x1 => (Ba (Do fRec p0) (0, [])).bind fun x2 => some (Tr27.of (p0.un.1, x1, p0.un.2.2.1, p0.un.2.2.2.1, x2))
def DI : Nat → Tr37 → Option Tr27
  | 0 => fun _ => none
  | n + 1 => Ef (DI n)
def J2 (p0 : Tr37) : Option Tr27 := HC fun n => DI n p0
theorem OT (fRec : Tr37 → Option Tr27) (ih : ∀ (Y : Nat → Prop) (w0 : World) (v1 : Value) (v2 : Value) (p0 : Tr37) (r : Tr27) (H : fRec p0 = some r) (h_v1 : Sl w0 (NX []) Bj v1 p0.un.2.1.un.2.2.2) (h_v2 : Sl w0 (NX []) Bl v2 p0.un.2.2.2.2), Calls Tryz.prog 29 #[.agg #[.int .i64 p0.un.1, .int .i64 p0.un.2.1.un.1, .int .i64 p0.un.2.1.un.2.1, .int .i64 p0.un.2.1.un.2.2.1, v1, .int .i64 p0.un.2.2.1, .int .i64 p0.un.2.2.2.1, v2]] w0 fun e w' => ∃ x : Value × Value, e = .returned (.agg #[.int .i64 r.un.1, .int .i64 r.un.2.1.un.1, .int .i64 r.un.2.1.un.2.1, .int .i64 r.un.2.1.un.2.2.1, x.1, .int .i64 r.un.2.2.1, .int .i64 r.un.2.2.2.1, x.2]) ∧ Stw ⟨Y, [], w0⟩ [] [row (x.1) 24 DT r.un.2.1.un.2.2.2, row (x.2) 27 Hx r.un.2.2.2.2] w') (Y : Nat → Prop) (w0 : World) (v1 : Value) (v2 : Value) (p0 : Tr37) (r : Tr27) (H : Ef fRec p0 = some r) (h_v1 : Sl w0 (NX []) Bj v1 p0.un.2.1.un.2.2.2) (h_v2 : Sl w0 (NX []) Bl v2 p0.un.2.2.2.2) :
    Calls Tryz.prog 29 #[.agg #[.int .i64 p0.un.1, .int .i64 p0.un.2.1.un.1, .int .i64 p0.un.2.1.un.2.1, .int .i64 p0.un.2.1.un.2.2.1, v1, .int .i64 p0.un.2.2.1, .int .i64 p0.un.2.2.2.1, v2]] w0 fun e w' => ∃ x : Value × Value, e = .returned (.agg #[.int .i64 r.un.1, .int .i64 r.un.2.1.un.1, .int .i64 r.un.2.1.un.2.1, .int .i64 r.un.2.1.un.2.2.1, x.1, .int .i64 r.un.2.2.1, .int .i64 r.un.2.2.2.1, x.2]) ∧ Stw ⟨Y, [], w0⟩ [] [row (x.1) 24 DT r.un.2.1.un.2.2.2, row (x.2) 27 Hx r.un.2.2.2.2] w' := by
 refine enter Tryz.func29 Aa Tryz.ntmps29 Aa fun a W => ?_
 have F := Stw.start Y w0
 obtain ⟨v3, h1, h_v1⟩ := h_v1.ex Co
 obtain ⟨v4, h2, h_v2⟩ := h_v2.ex Dy
 unfold Ef at H
 refine vc tk 2 W F fun a w W F => ?_
 refine CX (cs := (BE p0 v1 v2)) W F Aa Aa Aa fun b1 a w W F => ?_
 refine AF (cs := (AB)) W F Aa Xm Aa fun b2 a w W F => ?_
 refine Cv tk 3 W F fun a w W F => ?_
 obtain ⟨x1, h3, H⟩ := Ag H
 refine N0 (fun a w => ∃ b3 : Nat, ∃ v5 : Value, Fr 34 [] [(0, .agg #[.int .i64 p0.un.1, .int .i64 p0.un.2.1.un.1, .int .i64 p0.un.2.1.un.2.1, .int .i64 p0.un.2.1.un.2.2.1, v1, .int .i64 p0.un.2.2.1, .int .i64 p0.un.2.2.2.1, v2]), (1, .pointer (some ⟨b1, 0, none⟩)), (2, .pointer (some ⟨b2, 0, none⟩)), (3, .pointer (some ⟨b3, 0, none⟩)), (5, .pointer (some ⟨b1, 0, none⟩)), (6, .int .i64 p0.un.1), (7, .pointer (some ⟨b1, 1, none⟩)), (8, .agg #[.int .i64 p0.un.2.1.un.1, .int .i64 p0.un.2.1.un.2.1, .int .i64 p0.un.2.1.un.2.2.1, v1]), (9, .agg #[.int .i64 x1.un.1, .int .i64 x1.un.2.1, .int .i64 x1.un.2.2.1, v5]), (10, .pointer (some ⟨b1, 5, none⟩)), (11, .int .i64 p0.un.2.2.1), (12, .pointer (some ⟨b1, 6, none⟩)), (13, .int .i64 p0.un.2.2.2.1), (14, .agg #[.int .i64 p0.un.1, .int .i64 x1.un.1, .int .i64 x1.un.2.1, .int .i64 x1.un.2.2.1, v5, .int .i64 p0.un.2.2.1, .int .i64 p0.un.2.2.2.1, .slice none 0 0])] a ∧ Stw ⟨Y, [], w0⟩ (WI b3 p0 x1 v5 b2 b1 v1 v2) [row v5 24 DT x1.un.2.2.2] w) ?_ ?_
 ·
  refine Ms (PT.st 0 (PT.st 1 (PT.st 2 (PT.st 3 (PT.st 5 (PT.st 6 (PT.st 7 (PT.st 8 (PT.alt 4 (PT.st 9 (PT.alt 10 (PT.alt 11 PT.done PT.stop) PT.stop)) (PT.alt 10 (PT.alt 4 (PT.st 9 (PT.alt 11 PT.done PT.stop)) PT.stop) PT.stop)))))))))) (CN ⟨Y, [], w0⟩ [(some 11, b1, [.int .i64 p0.un.1, .int .i64 p0.un.2.1.un.1, .int .i64 p0.un.2.1.un.2.1, .int .i64 p0.un.2.1.un.2.2.1, v1, .int .i64 p0.un.2.2.1, .int .i64 p0.un.2.2.2.1, v2]), (some 4, b1, [.int .i64 p0.un.1, .int .i64 p0.un.2.1.un.1, .int .i64 p0.un.2.1.un.2.1, .int .i64 p0.un.2.1.un.2.2.1, v1, .int .i64 p0.un.2.2.1, .int .i64 p0.un.2.2.2.1, v2])] []) (fun ch a d v w h => by cases d <;> exact h) MO (by kernel_rfl) F (fun w F => ⟨_, _, F, (all_cons (fun _ => (.tail _ (.head _))) (all_cons (fun _ => (.tail _ (.head _))) Ab)), Ab⟩) fun w F => ?_
  refine GT (R := []) W Aa Aa (yC fun M Z hN hZ => As JH Aa Aa Aa T3 W Aa 0 Aa) Aa Aa fun a W => ?_
  refine GT (R := [11]) W Aa Aa (yC fun M Z hN hZ => Cw (cs := (BE p0 v1 v2)) (v := Value.int .i64 p0.un.1) W Aa (hN ((some 11), b1, (BE p0 v1 v2)) (.head _) Aa) T3 Aa) (by kernel_rfl) Aa fun a W => ?_
  refine GT (R := []) W Aa Aa (yC fun M Z hN hZ => As JH Aa Aa Aa MT W Aa 1 Aa) Aa Aa fun a W => ?_
  refine GT (R := [4]) W Aa Aa (yC fun M Z hN hZ => Cw (cs := (BE p0 v1 v2)) (v := Value.agg #[.int .i64 p0.un.2.1.un.1, .int .i64 p0.un.2.1.un.2.1, .int .i64 p0.un.2.1.un.2.2.1, v1]) W Aa (hN ((some 4), b1, (BE p0 v1 v2)) (.tail _ (.head _)) Aa) MT Aa) (by kernel_rfl) Aa fun a W => ?_
  refine GT (R := []) W Aa Aa (yC fun M Z hN hZ => As JH Aa Aa Aa T3 W Aa 5 Aa) Aa Aa fun a W => ?_
  refine GT (R := [11]) W Aa Aa (yC fun M Z hN hZ => Cw (cs := (BE p0 v1 v2)) (v := Value.int .i64 p0.un.2.2.1) W Aa (hN ((some 11), b1, (BE p0 v1 v2)) (.head _) Aa) T3 Aa) (by kernel_rfl) Aa fun a W => ?_
  refine GT (R := []) W Aa Aa (yC fun M Z hN hZ => As JH Aa Aa Aa T3 W Aa 6 Aa) Aa Aa fun a W => ?_
  refine GT (R := [11]) W Aa Aa (yC fun M Z hN hZ => Cw (cs := (BE p0 v1 v2)) (v := Value.int .i64 p0.un.2.2.2.1) W Aa (hN ((some 11), b1, (BE p0 v1 v2)) (.head _) Aa) T3 Aa) (by kernel_rfl) Aa fun a W => ?_
  refine C9 Aa ?_ ?_
  ·
   refine A7 (Ml := []) (Zl := []) (β := Value) (rv := fun x => .agg #[.int .i64 x1.un.1, .int .i64 x1.un.2.1, .int .i64 x1.un.2.2.1, x]) (MM := fun x => []) (ZZ := fun x => [row x 24 DT x1.un.2.2.2]) W F X0 Aa Aa (fun hL => Mn _ w (v1) (Tr34.of (p0.un.2.1.un.1, p0.un.2.1.un.2.1, p0.un.2.1.un.2.2.1, p0.un.2.1.un.2.2.2)) _ h3 ((Ak Co h1 (Ah h_v1)) w F).nx) fun x a w W F => ?_
   obtain ⟨v5, rfl⟩ : ∃ y, y = x := ⟨x, rfl⟩
   have F : Stw ⟨Y, [], w0⟩ (Xh b2 b1 p0 v1 v2) [row v5 24 DT x1.un.2.2.2] w := F
   refine DJ (N2 := []) (NZ2 := []) (N3 := [(some 11, b1, [.int .i64 p0.un.1, .int .i64 p0.un.2.1.un.1, .int .i64 p0.un.2.1.un.2.1, .int .i64 p0.un.2.1.un.2.2.1, v1, .int .i64 p0.un.2.2.1, .int .i64 p0.un.2.2.2.1, v2]), (some 4, b1, [.int .i64 p0.un.1, .int .i64 p0.un.2.1.un.1, .int .i64 p0.un.2.1.un.2.1, .int .i64 p0.un.2.1.un.2.2.1, v1, .int .i64 p0.un.2.2.1, .int .i64 p0.un.2.2.2.1, v2])]) (NZ3 := []) F Aa Aa (all_cons (fun _ => (.tail _ (.head _))) (all_cons (fun h => Ae (by kernel_rfl) h) Ab)) Ab ?_
   refine GT (R := []) W Aa Aa (yC fun M Z hN hZ => CM (v := Value.agg #[.int .i64 p0.un.1, .int .i64 x1.un.1, .int .i64 x1.un.2.1, .int .i64 x1.un.2.2.1, v5, .int .i64 p0.un.2.2.1, .int .i64 p0.un.2.2.2.1, .slice none 0 0]) YZ W Aa (A9 Aa Aa Aa (A9 Aa Aa Aa (A9 Aa Aa Aa (A9 Aa Aa Aa Dc)))) Aa) Aa Aa fun a W => ?_
   refine Gw Aa ?_
   refine AF (cs := (AB)) W F Aa Xm Aa fun b3 a w W F => ?_
   refine DJ (N2 := []) (NZ2 := []) (N3 := [(some 11, b1, [.int .i64 p0.un.1, .int .i64 p0.un.2.1.un.1, .int .i64 p0.un.2.1.un.2.1, .int .i64 p0.un.2.1.un.2.2.1, v1, .int .i64 p0.un.2.2.1, .int .i64 p0.un.2.2.2.1, v2]), (some 4, b1, [.int .i64 p0.un.1, .int .i64 p0.un.2.1.un.1, .int .i64 p0.un.2.1.un.2.1, .int .i64 p0.un.2.1.un.2.2.1, v1, .int .i64 p0.un.2.2.1, .int .i64 p0.un.2.2.2.1, v2])]) (NZ3 := []) F Aa Aa (all_cons (fun _ => (.tail _ (.tail _ (.head _)))) (all_cons (fun h => Ae (by kernel_rfl) h) Ab)) Ab ?_
   refine Gw Aa ?_
   refine DZ 0 W F Aa Aa Aa QI Aa Aa (Af Aa (Af Aa (Af Aa (Af Aa (Af (F.one (k := 0) Aa) (Af Aa (Af Aa (Af Aa CT)))))))) fun w F => ?_
   refine DJ (N2 := []) (NZ2 := []) (N3 := [(some 11, b1, [.int .i64 p0.un.1, .int .i64 p0.un.2.1.un.1, .int .i64 p0.un.2.1.un.2.1, .int .i64 p0.un.2.1.un.2.2.1, v1, .int .i64 p0.un.2.2.1, .int .i64 p0.un.2.2.2.1, v2]), (some 4, b1, [.int .i64 p0.un.1, .int .i64 p0.un.2.1.un.1, .int .i64 p0.un.2.1.un.2.1, .int .i64 p0.un.2.1.un.2.2.1, v1, .int .i64 p0.un.2.2.1, .int .i64 p0.un.2.2.2.1, v2])]) (NZ3 := []) F Aa Aa (all_cons (fun h => Ae (by kernel_rfl) h) (all_cons (fun h => Ae (by kernel_rfl) h) Ab)) Ab ?_
   have F := F.frontM (i := 2) Aa Aa
   have F := F.frontM (i := 2) Aa Aa
   have F := F.frontM (i := 2) Aa Aa
   refine LK ?_
   exact ⟨b3, v5, W.ra Aa, F⟩
  refine C9 Aa ?_ ?_
  ·
   refine AF (cs := (AB)) W F Aa Xm Aa fun b3 a w W F => ?_
   refine DJ (N2 := []) (NZ2 := []) (N3 := [(some 11, b1, [.int .i64 p0.un.1, .int .i64 p0.un.2.1.un.1, .int .i64 p0.un.2.1.un.2.1, .int .i64 p0.un.2.1.un.2.2.1, v1, .int .i64 p0.un.2.2.1, .int .i64 p0.un.2.2.2.1, v2]), (some 4, b1, [.int .i64 p0.un.1, .int .i64 p0.un.2.1.un.1, .int .i64 p0.un.2.1.un.2.1, .int .i64 p0.un.2.1.un.2.2.1, v1, .int .i64 p0.un.2.2.1, .int .i64 p0.un.2.2.2.1, v2])]) (NZ3 := []) F Aa Aa (all_cons (fun _ => (.tail _ (.tail _ (.head _)))) (all_cons (fun _ => (.tail _ (.tail _ (.head _)))) Ab)) Ab ?_
   refine Gw Aa ?_
   refine A7 (Ml := []) (Zl := []) (β := Value) (rv := fun x => .agg #[.int .i64 x1.un.1, .int .i64 x1.un.2.1, .int .i64 x1.un.2.2.1, x]) (MM := fun x => []) (ZZ := fun x => [row x 24 DT x1.un.2.2.2]) W F X0 Aa Aa (fun hL => Mn _ w (v1) (Tr34.of (p0.un.2.1.un.1, p0.un.2.1.un.2.1, p0.un.2.1.un.2.2.1, p0.un.2.1.un.2.2.2)) _ h3 ((Ak Co h1 (Ah h_v1)) w F).nx) fun x a w W F => ?_
   obtain ⟨v5, rfl⟩ : ∃ y, y = x := ⟨x, rfl⟩
   have F : Stw ⟨Y, [], w0⟩ (W7 b3 b2 b1 p0 v1 v2) [row v5 24 DT x1.un.2.2.2] w := F
   refine DJ (N2 := []) (NZ2 := []) (N3 := [(some 11, b1, [.int .i64 p0.un.1, .int .i64 p0.un.2.1.un.1, .int .i64 p0.un.2.1.un.2.1, .int .i64 p0.un.2.1.un.2.2.1, v1, .int .i64 p0.un.2.2.1, .int .i64 p0.un.2.2.2.1, v2]), (some 4, b1, [.int .i64 p0.un.1, .int .i64 p0.un.2.1.un.1, .int .i64 p0.un.2.1.un.2.1, .int .i64 p0.un.2.1.un.2.2.1, v1, .int .i64 p0.un.2.2.1, .int .i64 p0.un.2.2.2.1, v2])]) (NZ3 := []) F Aa Aa (all_cons (fun _ => (.tail _ (.tail _ (.head _)))) (all_cons (fun h => Ae (by kernel_rfl) h) Ab)) Ab ?_
   refine GT (R := []) W Aa Aa (yC fun M Z hN hZ => CM (v := Value.agg #[.int .i64 p0.un.1, .int .i64 x1.un.1, .int .i64 x1.un.2.1, .int .i64 x1.un.2.2.1, v5, .int .i64 p0.un.2.2.1, .int .i64 p0.un.2.2.2.1, .slice none 0 0]) YZ W Aa (A9 Aa Aa Aa (A9 Aa Aa Aa (A9 Aa Aa Aa (A9 Aa Aa Aa Dc)))) Aa) Aa Aa fun a W => ?_
   refine Gw Aa ?_
   refine DZ 0 W F Aa Aa Aa QI Aa Aa (Af Aa (Af Aa (Af Aa (Af Aa (Af (F.one (k := 0) Aa) (Af Aa (Af Aa (Af Aa CT)))))))) fun w F => ?_
   refine DJ (N2 := []) (NZ2 := []) (N3 := [(some 11, b1, [.int .i64 p0.un.1, .int .i64 p0.un.2.1.un.1, .int .i64 p0.un.2.1.un.2.1, .int .i64 p0.un.2.1.un.2.2.1, v1, .int .i64 p0.un.2.2.1, .int .i64 p0.un.2.2.2.1, v2]), (some 4, b1, [.int .i64 p0.un.1, .int .i64 p0.un.2.1.un.1, .int .i64 p0.un.2.1.un.2.1, .int .i64 p0.un.2.1.un.2.2.1, v1, .int .i64 p0.un.2.2.1, .int .i64 p0.un.2.2.2.1, v2])]) (NZ3 := []) F Aa Aa (all_cons (fun h => Ae (by kernel_rfl) h) (all_cons (fun h => Ae (by kernel_rfl) h) Ab)) Ab ?_
   have F := F.frontM (i := 2) Aa Aa
   have F := F.frontM (i := 2) Aa Aa
   have F := F.frontM (i := 2) Aa Aa
   refine LK ?_
   exact ⟨b3, v5, W.ra Aa, F⟩
  exact trivial
 rintro a w ⟨b3, v5, W, F⟩
 refine Ad ?_
 obtain ⟨o1, G1, K1⟩ := Ag H
 refine AA (fun a w => ∃ x2 : List Tr27, ∃ v6 : Value, some (x2) = some o1 ∧ Fr 34 [] [(2, .pointer (some ⟨b2, 0, none⟩)), (3, .pointer (some ⟨b3, 0, none⟩))] a ∧ Stw ⟨Y, [], w0⟩ (Oy b3 p0 x1 v5 v6 b2 b1 v1 v2) [row v5 24 DT x1.un.2.2.2, row v6 27 Hx x2] w) ?_ ?_
 ·
  have H := G1
  clear G1 K1
  refine vc tk 6 W F fun a w W F => ?_
  have F := F.nilRow 27 Hx
  have F := F.frontZ (i := 1) Aa Aa
  have F := F.frontM (i := 2) Aa Aa
  have F := F.frontM (i := 2) Aa Aa
  have F := F.frontM (i := 2) Aa Aa
  refine BN H (fun s a w => ∃ v7 : Value, Fr 34 [] [(1, .pointer (some ⟨b1, 0, none⟩)), (2, .pointer (some ⟨b2, 0, none⟩)), (3, .pointer (some ⟨b3, 0, none⟩)), (4, .int .i64 s.1)] a ∧ Stw ⟨Y, [], w0⟩ (Oy b3 p0 x1 v5 v7 b2 b1 v1 v2) [row v5 24 DT x1.un.2.2.2, row v7 27 Hx s.2] w) ⟨(Value.slice none 0 0), W.ra Aa, F⟩ fun s o a w H L2 hR => ?_
  obtain ⟨x3, x4⟩ := s
  obtain ⟨v7, W, F⟩ := hR
  have W : Fr 34 [] [(1, .pointer (some ⟨b1, 0, none⟩)), (2, .pointer (some ⟨b2, 0, none⟩)), (3, .pointer (some ⟨b3, 0, none⟩)), (4, .int .i64 x3)] a := W
  have F : Stw ⟨Y, [], w0⟩ (Oy b3 p0 x1 v5 v7 b2 b1 v1 v2) [row v5 24 DT x1.un.2.2.2, row v7 27 Hx x4] w := F
  rw [Do] at H
  refine FR tk 6 [2] W F (ai fun a w W F => ?_)
  refine ls W F Aa (C2 (r := Bl) (l := p0.un.2.2.2.2) LU Aa W Aa (Ak Dy h2 (Ah h_v2))).q fun a w W F => ?_
  refine Cv tk 3 W F fun a w W F => ?_
  refine BU W Aa H (fun W H => ?_) fun W H => ?_
  ·
   refine Gp tk 4 W F fun a w W F => ?_
   obtain ⟨v8, h4, F⟩ := F.exR Da
   have F := F.frontZ (i := 1) Aa Aa
   obtain ⟨v9, h5, F⟩ := F.exR Ej
   refine EX [(true, 0), (true, 1), (true, 2), (true, 3), (true, 4), (true, 5), (true, 6), (false, 7), (false, 8), (false, 9), (true, 10), (false, 11)] (CN ⟨Y, [], w0⟩ [(some 9, b3, [.int .i64 p0.un.1, .int .i64 x1.un.1, .int .i64 x1.un.2.1, .int .i64 x1.un.2.2.1, v5, .int .i64 p0.un.2.2.1, .int .i64 p0.un.2.2.2.1, v7]), (some 7, b1, [.int .i64 p0.un.1, .int .i64 p0.un.2.1.un.1, .int .i64 p0.un.2.1.un.2.1, .int .i64 p0.un.2.1.un.2.2.1, v1, .int .i64 p0.un.2.2.1, .int .i64 p0.un.2.2.2.1, v2])] []) (fun ch a d v w h => by cases d <;> exact h) MO (by kernel_rfl) F (fun w F => ⟨_, _, F, (all_cons (fun _ => (.head _)) (all_cons (fun _ => (.tail _ (.tail _ (.head _)))) Ab)), Ab⟩) fun w F => ?_
   refine BD (R := []) W Aa Aa (yC fun M Z hN hZ => As Mr Aa Aa Aa Wl W Aa 7 Aa) Aa Aa fun a W => ?_
   refine BD (R := [9]) W Aa Aa (yC fun M Z hN hZ => Cw (cs := (Vo p0 x1 v5 v7)) (v := v7) W Aa (hN ((some 9), b3, (Vo p0 x1 v5 v7)) (.head _) Aa) Wl Aa) (by kernel_rfl) Aa fun a W => ?_
   refine BD (R := []) W Aa Aa (yC fun M Z hN hZ => As JH Aa Aa Aa Ti W Aa 7 Aa) Aa Aa fun a W => ?_
   refine BD (R := [7, 6, 5]) W Aa Aa (yC fun M Z hN hZ => Cw (cs := (BE p0 v1 v2)) (v := v2) W Aa (hN ((some 7), b1, (BE p0 v1 v2)) (.tail _ (.head _)) Aa) Ti Aa) (by kernel_rfl) Aa fun a W => ?_
   refine BD (R := []) W Aa Aa (yC fun M Z hN hZ => Aq W Aa) Aa Aa fun a W => ?_
   obtain ⟨x5, h6, H⟩ := Ag H
   obtain ⟨v10, h7, h8⟩ := DQ h2 h6
   have h9 : IU v10 = [.int .i64 x5.un.1, .int .i64 x5.un.2.1.un.1, .int .i64 x5.un.2.1.un.2.1, .int .i64 x5.un.2.1.un.2.2.1, (v10.2.1.2.2.2.1), .int .i64 x5.un.2.2.1, .int .i64 x5.un.2.2.2.1, (v10.2.2.2.2.1)] := congrArg (fun q : Tr37 => ([.int .i64 q.un.1, .int .i64 q.un.2.1.un.1, .int .i64 q.un.2.1.un.2.1, .int .i64 q.un.2.1.un.2.2.1, (v10.2.1.2.2.2.1), .int .i64 q.un.2.2.1, .int .i64 q.un.2.2.2.1, (v10.2.2.2.2.1)] : List Value)) h8
   refine BD (R := []) W Aa Aa (yC fun M Z hN hZ => Aw (r := Dd) NC W Aa Aa (Ah h_v2) h7) Aa Aa fun a W => ?_
   refine BD (R := []) W Aa Aa (yC fun M Z hN hZ => An (y := Value.agg #[.int .i64 x5.un.1, .int .i64 x5.un.2.1.un.1, .int .i64 x5.un.2.1.un.2.1, .int .i64 x5.un.2.1.un.2.2.1, (v10.2.1.2.2.2.1), .int .i64 x5.un.2.2.1, .int .i64 x5.un.2.2.2.1, (v10.2.2.2.2.1)]) (j := 0) (i := x3) (enc := IU) W Aa Aa (Ah h_v2) h7 OA Is (by rw [h9]; rfl)) Aa Aa fun a W => ?_
   refine DU Aa ?_
   obtain ⟨x6, h10, H⟩ := Ag H
   refine A7 (Ml := []) (Zl := []) (β := Value × Value) (rv := fun x => .agg #[.int .i64 x6.un.1, .int .i64 x6.un.2.1.un.1, .int .i64 x6.un.2.1.un.2.1, .int .i64 x6.un.2.1.un.2.2.1, x.1, .int .i64 x6.un.2.2.1, .int .i64 x6.un.2.2.2.1, x.2]) (MM := fun x => []) (ZZ := fun x => [row x.1 24 DT x6.un.2.1.un.2.2.2, row x.2 27 Hx x6.un.2.2.2.2]) W F XK Aa Aa (fun hL => ih _ w ((v10.2.1.2.2.2.1)) ((v10.2.2.2.2.1)) (Tr37.of (x5.un.1, Tr34.of (x5.un.2.1.un.1, x5.un.2.1.un.2.1, x5.un.2.1.un.2.2.1, x5.un.2.1.un.2.2.2), x5.un.2.2.1, x5.un.2.2.2.1, x5.un.2.2.2.2)) _ h10 ((Br (Ah h_v2) h7 (Ai.snd (Ai.fst (Ai.snd (Ai.snd (Ai.snd Ai.here))))) (congrArg (fun q : Tr37 => q.un.2.1.un.2.2.2) h8)) w F).nx ((Br (Ah h_v2) h7 (Ai.snd (Ai.snd (Ai.snd (Ai.snd Ai.here)))) (congrArg (fun q : Tr37 => q.un.2.2.2.2) h8)) w F).nx) fun x a w W F => ?_
   obtain ⟨v11, v12⟩ := x
   have F : Stw ⟨Y, [], w0⟩ (Oy b3 p0 x1 v5 v7 b2 b1 v1 v2) [row v11 24 DT x6.un.2.1.un.2.2.2, row v12 27 Hx x6.un.2.2.2.2, row v7 27 P1 v9, row v5 24 M0 v8] w := F
   refine BG (N2 := []) (NZ2 := []) (N3 := [(some 9, b3, [.int .i64 p0.un.1, .int .i64 x1.un.1, .int .i64 x1.un.2.1, .int .i64 x1.un.2.2.1, v5, .int .i64 p0.un.2.2.1, .int .i64 p0.un.2.2.2.1, v7]), (some 7, b1, [.int .i64 p0.un.1, .int .i64 p0.un.2.1.un.1, .int .i64 p0.un.2.1.un.2.1, .int .i64 p0.un.2.1.un.2.2.1, v1, .int .i64 p0.un.2.2.1, .int .i64 p0.un.2.2.2.1, v2])]) (NZ3 := []) F Aa Aa (all_cons (fun _ => (.head _)) (all_cons (fun h => Ae (by kernel_rfl) h) Ab)) Ab ?_
   refine DU Aa ?_
   have F := F.freeze
   have F := F.frontZ (i := 1) Aa Aa
   have F := F.freeze
   refine Gs (z := Value.agg #[.int .i64 0, .int .i64 0, .int .i64 0, .int .i64 0, .slice none 0 0, .int .i64 0, .int .i64 0, .slice none 0 0]) (cs := (Av x6 v11 v12)) Hx ([Tr27.of (x6.un.1, Tr24.of (x6.un.2.1.un.1, x6.un.2.1.un.2.1, x6.un.2.1.un.2.2.1, x6.un.2.1.un.2.2.2), x6.un.2.2.1, x6.un.2.2.2.1, x6.un.2.2.2.2)] : List Tr27) W F Aa U8 Xm Aa Aa Aa (A9 Aa Aa Aa Dc) Aa Aa ⟨[Value.int .i64 x6.un.1, Value.int .i64 x6.un.2.1.un.1, Value.int .i64 x6.un.2.1.un.2.1, Value.int .i64 x6.un.2.1.un.2.2.1, v11, Value.int .i64 x6.un.2.2.1, Value.int .i64 x6.un.2.2.2.1, v12], _, Aa, (U3.2 ⟨[Value.int .i64 x6.un.1], [Value.int .i64 x6.un.2.1.un.1, Value.int .i64 x6.un.2.1.un.2.1, Value.int .i64 x6.un.2.1.un.2.2.1, v11, Value.int .i64 x6.un.2.2.1, Value.int .i64 x6.un.2.2.2.1, v12], Aa, Aa, ⟨[Value.int .i64 x6.un.2.1.un.1, Value.int .i64 x6.un.2.1.un.2.1, Value.int .i64 x6.un.2.1.un.2.2.1, v11], [Value.int .i64 x6.un.2.2.1, Value.int .i64 x6.un.2.2.2.1, v12], Aa, (SZ.2 ⟨[Value.int .i64 x6.un.2.1.un.1], [Value.int .i64 x6.un.2.1.un.2.1, Value.int .i64 x6.un.2.1.un.2.2.1, v11], Aa, Aa, ⟨[Value.int .i64 x6.un.2.1.un.2.1], [Value.int .i64 x6.un.2.1.un.2.2.1, v11], Aa, Aa, ⟨[Value.int .i64 x6.un.2.1.un.2.2.1], [v11], Aa, Aa, ⟨_, Aa, (F.item (i := 1) Aa)⟩⟩⟩⟩), ⟨[Value.int .i64 x6.un.2.2.1], [Value.int .i64 x6.un.2.2.2.1, v12], Aa, Aa, ⟨[Value.int .i64 x6.un.2.2.2.1], [v12], Aa, Aa, ⟨_, Aa, (F.item (i := 0) Aa)⟩⟩⟩⟩⟩), Aa⟩ fun v13 a w W F => ?_
   refine BG (N2 := []) (NZ2 := []) (N3 := [(some 9, b3, [.int .i64 p0.un.1, .int .i64 x1.un.1, .int .i64 x1.un.2.1, .int .i64 x1.un.2.2.1, v5, .int .i64 p0.un.2.2.1, .int .i64 p0.un.2.2.2.1, v7]), (some 7, b1, [.int .i64 p0.un.1, .int .i64 p0.un.2.1.un.1, .int .i64 p0.un.2.1.un.2.1, .int .i64 p0.un.2.1.un.2.2.1, v1, .int .i64 p0.un.2.2.1, .int .i64 p0.un.2.2.2.1, v2])]) (NZ3 := []) F Aa Aa (all_cons (fun _ => (.head _)) (all_cons (fun h => Ae (by kernel_rfl) h) Ab)) Ab ?_
   refine DU Aa ?_
   have F := F.frontZ (i := 3) Aa Aa
   have F := F.hideR Ej h5
   obtain ⟨x7, h11, H⟩ := Ag H
   refine IQ (r := Hx) (i := 0) W F Aa U8 Aa Aa Aa Aa (JX F 1 Aa) h11 Aa fun v14 a w W F => ?_
   have F : Stw ⟨Y, [], w0⟩ (Oy b3 p0 x1 v5 v7 b2 b1 v1 v2) [row v14 27 Hx x7, row v13 27 Hx ([Tr27.of (x6.un.1, Tr24.of (x6.un.2.1.un.1, x6.un.2.1.un.2.1, x6.un.2.1.un.2.2.1, x6.un.2.1.un.2.2.2), x6.un.2.2.1, x6.un.2.2.2.1, x6.un.2.2.2.2)] : List Tr27), B7 v12 Hx x6.un.2.2.2.2, B7 v11 DT x6.un.2.1.un.2.2.2, row v5 24 M0 v8] w := F
   refine BG (N2 := []) (NZ2 := []) (N3 := [(some 9, b3, [.int .i64 p0.un.1, .int .i64 x1.un.1, .int .i64 x1.un.2.1, .int .i64 x1.un.2.2.1, v5, .int .i64 p0.un.2.2.1, .int .i64 p0.un.2.2.2.1, v7]), (some 7, b1, [.int .i64 p0.un.1, .int .i64 p0.un.2.1.un.1, .int .i64 p0.un.2.1.un.2.1, .int .i64 p0.un.2.1.un.2.2.1, v1, .int .i64 p0.un.2.2.1, .int .i64 p0.un.2.2.2.1, v2])]) (NZ3 := []) F Aa Aa (all_cons (fun h => Ae (by kernel_rfl) h) (all_cons (fun h => Ae (by kernel_rfl) h) Ab)) Ab ?_
   refine BD (R := []) W Aa Aa (yC fun M Z hN hZ => As Mr Aa Aa Aa Wl W Aa 7 Aa) Aa Aa fun a W => ?_
   refine DU Aa ?_
   refine Mo (M' := (Oy b3 p0 x1 v5 v14 b2 b1 v1 v2)) 0 W F Aa Aa Aa Wl (F.one (k := 0) Aa) Aa Aa fun w F => ?_
   refine BG (N2 := []) (NZ2 := []) (N3 := [(some 9, b3, [.int .i64 p0.un.1, .int .i64 x1.un.1, .int .i64 x1.un.2.1, .int .i64 x1.un.2.2.1, v5, .int .i64 p0.un.2.2.1, .int .i64 p0.un.2.2.2.1, v7]), (some 7, b1, [.int .i64 p0.un.1, .int .i64 p0.un.2.1.un.1, .int .i64 p0.un.2.1.un.2.1, .int .i64 p0.un.2.1.un.2.2.1, v1, .int .i64 p0.un.2.2.1, .int .i64 p0.un.2.2.2.1, v2])]) (NZ3 := []) F Aa Aa (all_cons (fun h => Ae (by kernel_rfl) h) (all_cons (fun h => Ae (by kernel_rfl) h) Ab)) Ab ?_
   refine GM (AM ?_)
   refine vn tk 5 W F fun a w W F => ?_
   refine Ad ?_
   have F := F.frontZ (i := 4) Aa Aa
   have F := F.hideR Da h4
   have F := F.frontZ (i := 1) Aa Aa
   have F := F.frontZ (i := 1) Aa Aa
   have F := F.frontM (i := 2) Aa Aa
   have F := F.frontM (i := 2) Aa Aa
   have F := F.frontM (i := 2) Aa Aa
   have F := F.sub (M' := (Oy b3 p0 x1 v5 v14 b2 b1 v1 v2)) (Z' := [row v5 24 DT x1.un.2.2.2, row v14 27 Hx x7]) (List.Sublist.refl _) (List.Sublist.cons_cons _ (List.Sublist.cons_cons _ (List.nil_sublist _)))
   exact ⟨_, H, (v14), W.ra Aa, F⟩
  refine BB ?_
  iterate 2 refine BR ?_
  refine Bx (Ad ?_)
  have F := F.frontZ (i := 1) Aa Aa
  have F := F.frontZ (i := 1) Aa Aa
  have F := F.frontM (i := 2) Aa Aa
  have F := F.frontM (i := 2) Aa Aa
  have F := F.frontM (i := 2) Aa Aa
  have H := L2 _ H
  exact ⟨_, (v7), H, W.ra Aa, F⟩
 rintro a w ⟨x2, v6, hj, W, F⟩
 have hj := AC hj
 subst hj
 have H := K1
 clear G1 K1
 refine FR tk 3 [0] W F (ai fun a w W F => ?_)
 refine DZ 1 W F Aa Aa Aa QI Aa Aa (Af Aa (Af Aa (Af Aa (Af Aa (Af (F.one (k := 0) Aa) (Af Aa (Af Aa (Af (F.one (k := 1) Aa) CT)))))))) fun w F => ?_
 refine Cv tk 2 W F fun a w W F => ?_
 refine Am ?_
 have H := AC H
 subst H
 refine Ax (.inl Aa) W F Aa (Jc 1 W Aa Aa QI Aa) ?_
 have F := F.frontZ (i := 1) Aa Aa
 have F := F.frontZ (i := 1) Aa Aa
 have F := F.sub (M' := []) (Z' := [row v5 24 DT x1.un.2.2.2, row v6 27 Hx x2]) (List.nil_sublist _) (List.Sublist.refl _)
 exact ⟨((v5), (v6)), Aa, F⟩
theorem Pv : ∀ (n : Nat) (Y : Nat → Prop) (w0 : World) (v1 : Value) (v2 : Value) (p0 : Tr37) (r : Tr27) (H : DI n p0 = some r) (h_v1 : Sl w0 (NX []) Bj v1 p0.un.2.1.un.2.2.2) (h_v2 : Sl w0 (NX []) Bl v2 p0.un.2.2.2.2), Calls Tryz.prog 29 #[.agg #[.int .i64 p0.un.1, .int .i64 p0.un.2.1.un.1, .int .i64 p0.un.2.1.un.2.1, .int .i64 p0.un.2.1.un.2.2.1, v1, .int .i64 p0.un.2.2.1, .int .i64 p0.un.2.2.2.1, v2]] w0 fun e w' => ∃ x : Value × Value, e = .returned (.agg #[.int .i64 r.un.1, .int .i64 r.un.2.1.un.1, .int .i64 r.un.2.1.un.2.1, .int .i64 r.un.2.1.un.2.2.1, x.1, .int .i64 r.un.2.2.1, .int .i64 r.un.2.2.2.1, x.2]) ∧ Stw ⟨Y, [], w0⟩ [] [row (x.1) 24 DT r.un.2.1.un.2.2.2, row (x.2) 27 Hx r.un.2.2.2.2] w' := by
  intro n
  induction n with
  | zero => intro Y w0 v1 v2 p0 r H; exact nomatch H
  | succ n ih => intro Y w0 v1 v2 p0 r H h_v1 h_v2; exact OT (DI n) ih Y w0 v1 v2 p0 r H h_v1 h_v2
theorem ML (Y : Nat → Prop) (w0 : World) (v1 : Value) (v2 : Value) (p0 : Tr37) (r : Tr27) (H : J2 p0 = some r) (h_v1 : Sl w0 (NX []) Bj v1 p0.un.2.1.un.2.2.2) (h_v2 : Sl w0 (NX []) Bl v2 p0.un.2.2.2.2) :
    Calls Tryz.prog 29 #[.agg #[.int .i64 p0.un.1, .int .i64 p0.un.2.1.un.1, .int .i64 p0.un.2.1.un.2.1, .int .i64 p0.un.2.1.un.2.2.1, v1, .int .i64 p0.un.2.2.1, .int .i64 p0.un.2.2.2.1, v2]] w0 fun e w' => ∃ x : Value × Value, e = .returned (.agg #[.int .i64 r.un.1, .int .i64 r.un.2.1.un.1, .int .i64 r.un.2.1.un.2.1, .int .i64 r.un.2.1.un.2.2.1, x.1, .int .i64 r.un.2.2.1, .int .i64 r.un.2.2.2.1, x.2]) ∧ Stw ⟨Y, [], w0⟩ [] [row (x.1) 24 DT r.un.2.1.un.2.2.2, row (x.2) 27 Hx r.un.2.2.2.2] w' := by
  obtain ⟨n, H⟩ := CZ H
  exact Pv n Y w0 v1 v2 p0 r H h_v1 h_v2
def Gq (p0 : List (Int × (Int × Int × Int × Int))) (p1 : List (Int × (Int × Int × Int × Int))) : Int → Option (Int ⊕ (Unit ⊕ Bool))
  | x1 => (if x1 < (p0.length : Int) then (ix p0 x1).bind fun x2 => (ix p1 x1).bind fun x3 => (if (!(decide (x2.1 = x3.1 ∧ x2.2.1 = x3.2.1 ∧ x2.2.2.1 = x3.2.2.1 ∧ x2.2.2.2.1 = x3.2.2.2.1 ∧ x2.2.2.2.2 = x3.2.2.2.2))) = true then some (.inr (.inr false)) else some (.inl (AU (x1 + 1)))) else some (.inr (.inl ())))
def KI (p0 : List (Int × (Int × Int × Int × Int))) (p1 : List (Int × (Int × Int × Int × Int))) : Option Bool := (if (p0.length : Int) ≠ (p1.length : Int) then some false else Ku (Ba (Gq p0 p1) 0) fun _ => some true)
theorem RR (Y : Nat → Prop) (w0 : World) (v1 : Value) (v2 : Value) (p0 : List (Int × (Int × Int × Int × Int))) (p1 : List (Int × (Int × Int × Int × Int))) (r : Bool) (H : KI p0 p1 = some r) (h_v1 : Sl w0 (NX []) Bo v1 p0) (h_v2 : Sl w0 (NX []) Bo v2 p1) :
    Calls Tryz.prog 19 #[v1, v2] w0 fun e w' => e = .returned (.bool r) ∧ Below w0.heap.size w0 w' := by
 refine enter Tryz.func19 Aa Tryz.ntmps19 Aa fun a W => ?_
 have F := Stw.start Y w0
 unfold KI at H
 refine vc tk 9 W F fun a w W F => ?_
 refine ls W F Aa (C2 (r := Bo) (l := p0) ST Aa W Aa (Ah h_v1)).q fun a w W F => ?_
 refine ls W F Aa (Aq W Aa).q fun a w W F => ?_
 refine ls W F Aa (C2 (r := Bo) (l := p1) ST Aa W Aa (Ah h_v2)).q fun a w W F => ?_
 refine Cv tk 3 W F fun a w W F => ?_
 refine BU W Aa H (fun W H => ?_) fun W H => ?_
 ·
  refine vc tk 5 W F fun a w W F => ?_
  refine Am (Az ?_)
  have H := AC H
  subst H
  refine Ax (.inl Aa) W F Aa (Ap W Aa) ?_
  exact ⟨rfl, F.done⟩
 refine Bc (Ad ?_)
 obtain ⟨o1, G1, K1, L1⟩ := RM H
 refine AA (fun a w => some (Sum.inl ()) = some o1 ∧ Fr 26 [] [(4, .bool false)] a ∧ Stw ⟨Y, [], w0⟩ [] [] w) ?_ ?_
 ·
  have H := G1
  clear G1 K1
  refine vc tk 6 W F fun a w W F => ?_
  refine BN H (fun s a w => Fr 26 [] [(0, v1), (1, v2), (4, .bool false), (5, .int .i64 s)] a ∧ Stw ⟨Y, [], w0⟩ [] [] w) ⟨W.ra Aa, F⟩ fun s o a w H L2 hR => ?_
  obtain ⟨x1, rfl⟩ : ∃ x, x = s := ⟨s, rfl⟩
  obtain ⟨W, F⟩ := hR
  have W : Fr 26 [] [(0, v1), (1, v2), (4, .bool false), (5, .int .i64 x1)] a := W
  have F : Stw ⟨Y, [], w0⟩ [] [] w := F
  rw [Gq] at H
  refine vc tk 5 W F fun a w W F => ?_
  refine ls W F Aa (C2 (r := Bo) (l := p0) ST Aa W Aa (Ah h_v1)).q fun a w W F => ?_
  refine Cv tk 3 W F fun a w W F => ?_
  refine BU W Aa H (fun W H => ?_) fun W H => ?_
  ·
   refine Gp tk 5 W F fun a w W F => ?_
   refine CH F MO (by kernel_rfl) ?_
   iterate 2 refine qs W Aa (Aq W Aa).q fun a W => ?_
   obtain ⟨x2, h1, H⟩ := Ag H
   refine qs W Aa (Aw (r := Bo) EJ W Aa Aa (Ah h_v1) h1).q fun a W => ?_
   refine qs W Aa (An (y := Value.agg #[.int .i64 x2.1, .int .i64 x2.2.1, .int .i64 x2.2.2.1, .int .i64 x2.2.2.2.1, .int .i64 x2.2.2.2.2]) (j := 0) (i := x1) W Aa Aa (Ah h_v1) h1 EM.to D4 Aa).q fun a W => ?_
   iterate 2 refine qs W Aa (Aq W Aa).q fun a W => ?_
   obtain ⟨x3, h2, H⟩ := Ag H
   refine qs W Aa (Aw (r := Bo) EJ W Aa Aa (Ah h_v2) h2).q fun a W => ?_
   refine qs W Aa (An (y := Value.agg #[.int .i64 x3.1, .int .i64 x3.2.1, .int .i64 x3.2.2.1, .int .i64 x3.2.2.2.1, .int .i64 x3.2.2.2.2]) (j := 0) (i := x1) W Aa Aa (Ah h_v2) h2 EM.to D4 Aa).q fun a W => ?_
   refine qs W Aa (WG (t := decide (x2.1 = x3.1 ∧ x2.2.1 = x3.2.1 ∧ x2.2.2.1 = x3.2.2.1 ∧ x2.2.2.2.1 = x3.2.2.2.1 ∧ x2.2.2.2.2 = x3.2.2.2.2)) YH (X5 _ _ _ _ _ _ _ _ _ _) W Aa Aa).q fun a W => ?_
   refine AO fun w F => ?_
   refine Ad ?_
   refine CK W Aa H (fun W H => ?_) fun W H => ?_
   ·
    refine vc tk 5 W F fun a w W F => ?_
    refine Am (AH ?_)
    iterate 2 refine Az ?_
    refine AH (Az ?_)
    have H := L2 _ H
    have H := L1 _ H
    have H := AC H
    subst H
    refine Ax (.inl Aa) W F Aa (Ap W Aa) ?_
    exact ⟨rfl, F.done⟩
   refine Bc (AM ?_)
   refine vn tk 5 W F fun a w W F => ?_
   refine Ad ?_
   exact ⟨_, H, W.ra Aa, F⟩
  refine BB ?_
  iterate 2 refine BR ?_
  refine Bx (Ad ?_)
  have H := L2 _ H
  exact ⟨H, W.ra Aa, F⟩
 rintro a w ⟨hj, W, F⟩
 have H := K1 _ hj
 clear hj G1 K1 L1
 refine vc tk 5 W F fun a w W F => ?_
 refine Am ?_
 have H := AC H
 subst H
 refine Ax (.inl Aa) W F Aa (Ap W Aa) ?_
 exact ⟨rfl, F.done⟩
end
end Go.Proofs.YtpckgggmgijiiaaGreatDoor
