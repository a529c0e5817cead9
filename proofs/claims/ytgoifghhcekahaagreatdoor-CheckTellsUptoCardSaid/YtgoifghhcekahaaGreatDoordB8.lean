/- The functions of layer 30, HQ. Conditions: none. -/
import Derived.Test.YtgoifghhcekahaaGreatDoordB7
namespace Go.Proofs.YtgoifghhcekahaaGreatDoor
noncomputable section
open Go Go.RowKit
set_option linter.unusedVariables false
set_option linter.unusedSimpArgs false
set_option maxRecDepth 20000
theorem XG : Has Tryz.prog 19 := BM Tryz.func19
abbrev QT (a0 : Nat) (a1 : Tr28) (a2 : Value) (a3 : Nat) (a4 : Nat) (a5 : Tr31) (a6 : Value) (a7 : Value) : List (Nat × List Value) := [(a0, [Jint a1.un.1, Jint a1.un.2.1, Jint a1.un.2.2.1, a2]), (a3, [Jint 0, Jint 0, Jint 0, Jint 0, .slice none 0 0, Jint 0, Jint 0, .slice none 0 0]), (a4, [Jint a5.un.1, Jint a5.un.2.1.un.1, Jint a5.un.2.1.un.2.1, Jint a5.un.2.1.un.2.2.1, a6, Jint a5.un.2.2.1, Jint a5.un.2.2.2.1, a7])]
abbrev KS (a0 : Nat) (a1 : Tr31) (a2 : Value) (a3 : Nat) (a4 : Nat) (a5 : Value) (a6 : Value) : List (Nat × List Value) := [(a0, [Jint a1.un.1, Jint 0, Jint 0, Jint 0, .slice none 0 0, Jint 0, Jint 0, a2]), (a3, [Jint 0, Jint 0, Jint 0, Jint 0, .slice none 0 0, Jint 0, Jint 0, .slice none 0 0]), (a4, [Jint a1.un.1, Jint a1.un.2.1.un.1, Jint a1.un.2.1.un.2.1, Jint a1.un.2.1.un.2.2.1, a5, Jint a1.un.2.2.1, Jint a1.un.2.2.2.1, a6])]
abbrev UW (a0 : Tr31) (a1 : Value) : List Value := [Jint a0.un.1, Jint 0, Jint 0, Jint 0, .slice none 0 0, Jint 0, Jint 0, a1]
def EQ (fRec : Tr31 → Int → Option Tr31) (p0 : Tr31) (p1 : Int) : (Int × List Tr31) → Option ((Int × List Tr31) ⊕ (List Tr31))
  | (x12, x13) => (if x12 < (p0.un.2.2.2.2.length : Int) then (ix p0.un.2.2.2.2 x12).bind fun x14 => (fRec (Tr31.of (x14.un.1, Tr28.of (x14.un.2.1.un.1, x14.un.2.1.un.2.1, x14.un.2.1.un.2.2.1, x14.un.2.1.un.2.2.2), x14.un.2.2.1, x14.un.2.2.2.1, x14.un.2.2.2.2)) p1).bind fun x15 => (GP x13 ([Tr31.of (x15.un.1, Tr28.of (x15.un.2.1.un.1, x15.un.2.1.un.2.1, x15.un.2.1.un.2.2.1, x15.un.2.1.un.2.2.2), x15.un.2.2.1, x15.un.2.2.2.1, x15.un.2.2.2.2)] : List Tr31)).bind fun x16 => some (.inl (AJ (x12 + 1), x16)) else some (.inr x13))
def Gn (fRec : Tr31 → Int → Option Tr31) (p0 : Tr31) (p1 : Int) : Option Tr31 := (if p0.un.1 = 1 then (Ns (Tr28.of (p0.un.2.1.un.1, p0.un.2.1.un.2.1, p0.un.2.1.un.2.2.1, p0.un.2.1.un.2.2.2)) p1).bind fun x1 => some (Tr31.of (1, x1, 0, 0, ([] : List Tr31))) else (if p0.un.1 = 2 then some (Tr31.of (p0.un.1, Tr28.of (p0.un.2.1.un.1, p0.un.2.1.un.2.1, p0.un.2.1.un.2.2.1, p0.un.2.1.un.2.2.2), p0.un.2.2.1, p0.un.2.2.2.1, p0.un.2.2.2.2)) else (if p0.un.1 = 5 then (Ns (Tr28.of (p0.un.2.1.un.1, p0.un.2.1.un.2.1, p0.un.2.1.un.2.2.1, p0.un.2.1.un.2.2.2)) p1).bind fun x2 => (if x2.un.1 = 1 then (ix p0.un.2.2.2.2 0).bind fun x3 => (fRec (Tr31.of (x3.un.1, Tr28.of (x3.un.2.1.un.1, x3.un.2.1.un.2.1, x3.un.2.1.un.2.2.1, x3.un.2.1.un.2.2.2), x3.un.2.2.1, x3.un.2.2.2.1, x3.un.2.2.2.2)) p1).bind fun x4 => some (Tr31.of (x4.un.1, Tr28.of (x4.un.2.1.un.1, x4.un.2.1.un.2.1, x4.un.2.1.un.2.2.1, x4.un.2.1.un.2.2.2), x4.un.2.2.1, x4.un.2.2.2.1, x4.un.2.2.2.2)) else (if x2.un.1 = 2 then (ix p0.un.2.2.2.2 1).bind fun x5 => (fRec (Tr31.of (x5.un.1, Tr28.of (x5.un.2.1.un.1, x5.un.2.1.un.2.1, x5.un.2.1.un.2.2.1, x5.un.2.1.un.2.2.2), x5.un.2.2.1, x5.un.2.2.2.1, x5.un.2.2.2.2)) p1).bind fun x6 => some (Tr31.of (x6.un.1, Tr28.of (x6.un.2.1.un.1, x6.un.2.1.un.2.1, x6.un.2.1.un.2.2.1, x6.un.2.1.un.2.2.2), x6.un.2.2.1, x6.un.2.2.2.1, x6.un.2.2.2.2)) else (ix p0.un.2.2.2.2 0).bind fun x7 => (ix p0.un.2.2.2.2 1).bind fun x8 => (fRec (Tr31.of (x7.un.1, Tr28.of (x7.un.2.1.un.1, x7.un.2.1.un.2.1, x7.un.2.1.un.2.2.1, x7.un.2.1.un.2.2.2), x7.un.2.2.1, x7.un.2.2.2.1, x7.un.2.2.2.2)) p1).bind fun x9 => (fRec (Tr31.of (x8.un.1, Tr28.of (x8.un.2.1.un.1, x8.un.2.1.un.2.1, x8.un.2.1.un.2.2.1, x8.un.2.1.un.2.2.2), x8.un.2.2.1, x8.un.2.2.2.1, x8.un.2.2.2.2)) p1).bind fun x10 => some (Tr31.of (5, x2, 0, 0, ([Tr31.of (x9.un.1, Tr28.of (x9.un.2.1.un.1, x9.un.2.1.un.2.1, x9.un.2.1.un.2.2.1, x9.un.2.1.un.2.2.2), x9.un.2.2.1, x9.un.2.2.2.1, x9.un.2.2.2.2), Tr31.of (x10.un.1, Tr28.of (x10.un.2.1.un.1, x10.un.2.1.un.2.1, x10.un.2.1.un.2.2.1, x10.un.2.1.un.2.2.2), x10.un.2.2.1, x10.un.2.2.2.1, x10.un.2.2.2.2)] : List Tr31))))) else (AB (EQ fRec p0 p1) (0, [])).bind fun x11 => some (Tr31.of (p0.un.1, Tr28.of (0, 0, 0, ([] : List Tr28)), 0, 0, x11)))))
def EC : Nat → Tr31 → Int → Option Tr31
  | 0 => fun _ _ => none
  | n + 1 => Gn (EC n)
def SG (p0 : Tr31) (p1 : Int) : Option Tr31 := FT fun n => EC n p0 p1
theorem SJ (fRec : Tr31 → Int → Option Tr31) (ih : ∀ (Y : Nat → Prop) (w0 : World) (v1 : Value) (v2 : Value) (p0 : Tr31) (p1 : Int) (r : Tr31) (H : fRec p0 p1 = some r) (s_v1 : Sl w0 Y B0 v1 p0.un.2.1.un.2.2.2) (s_v2 : Sl w0 Y Dw v2 p0.un.2.2.2.2), ca_ 19 #[.agg #[Jint p0.un.1, Jint p0.un.2.1.un.1, Jint p0.un.2.1.un.2.1, Jint p0.un.2.1.un.2.2.1, v1, Jint p0.un.2.2.1, Jint p0.un.2.2.2.1, v2], Jint p1] w0 fun e w' => ∃ x : Value × Value, e = .returned (.agg #[Jint r.un.1, Jint r.un.2.1.un.1, Jint r.un.2.1.un.2.1, Jint r.un.2.1.un.2.2.1, x.1, Jint r.un.2.2.1, Jint r.un.2.2.2.1, x.2]) ∧ sy Y w0 [] [Ch (x.1) B0 r.un.2.1.un.2.2.2, Ch (x.2) Dw r.un.2.2.2.2] w') (Y : Nat → Prop) (w0 : World) (v1 : Value) (v2 : Value) (p0 : Tr31) (p1 : Int) (r : Tr31) (H : Gn fRec p0 p1 = some r) (s_v1 : Sl w0 Y B0 v1 p0.un.2.1.un.2.2.2) (s_v2 : Sl w0 Y Dw v2 p0.un.2.2.2.2) :
    ca_ 19 #[.agg #[Jint p0.un.1, Jint p0.un.2.1.un.1, Jint p0.un.2.1.un.2.1, Jint p0.un.2.1.un.2.2.1, v1, Jint p0.un.2.2.1, Jint p0.un.2.2.2.1, v2], Jint p1] w0 fun e w' => ∃ x : Value × Value, e = .returned (.agg #[Jint r.un.1, Jint r.un.2.1.un.1, Jint r.un.2.1.un.2.1, Jint r.un.2.1.un.2.2.1, x.1, Jint r.un.2.2.1, Jint r.un.2.2.2.1, x.2]) ∧ sy Y w0 [] [Ch (x.1) B0 r.un.2.1.un.2.2.2, Ch (x.2) Dw r.un.2.2.2.2] w' := by
 refine enter Tryz.func19 Aa Tryz.ntmps19 Aa fun a W => ?_
 have F := Stw.start Y w0
 obtain ⟨v3, h1, s_v1⟩ := s_v1.ex CA
 obtain ⟨v4, h2, s_v2⟩ := s_v2.ex D3
 have h_v1 := F.nx s_v1
 have h_v2 := F.nx s_v2
 unfold Gn at H
 refine vc tk 2 W F fun a w W F => ?_
 refine BQ (cs := (EA p0 v1 v2)) W F Aa Aa Aa fun b1 a w W F => ?_
 refine Bw (cs := (Gt)) W F Aa WP Aa fun b2 a w W F => ?_
 refine Es tk 10 [1] W F (ai fun a w W F => ?_)
 refine A1 W Aa H (fun W H => ?_) fun W H => ?_
 ·
  refine CT tk 5 [1] W F (ai fun a w W F => ?_)
  obtain ⟨x1, h3, H⟩ := Af H
  refine AO (Ml := []) (Zl := []) (β := Value) (rv := fun x => .agg #[Jint x1.un.1, Jint x1.un.2.1, Jint x1.un.2.2.1, x]) (MM := fun x => []) (ZZ := fun x => [Ch x B0 x1.un.2.2.2]) W F YP Aa Aa (fun hL => PJ _ w (v1) (Tr28.of (p0.un.2.1.un.1, p0.un.2.1.un.2.1, p0.un.2.1.un.2.2.1, p0.un.2.1.un.2.2.2)) p1 _ h3 (Sl.hide CA h1 (F.old s_v1))) fun x a w W F => ?_
  obtain ⟨v5, rfl⟩ : ∃ y, y = x := ⟨x, rfl⟩
  have F : sy Y w0 (VA b2 b1 p0 v1 v2) [Ch v5 B0 x1.un.2.2.2] w := F
  refine ls W F Aa (Cf (v := Value.agg #[Jint 1, Jint x1.un.1, Jint x1.un.2.1, Jint x1.un.2.2.1, v5, Jint 0, Jint 0, .slice none 0 0]) YG W Aa (AY Aa Aa Aa (AY Aa Aa Aa CQ)) Aa).q fun a w W F => ?_
  refine CE 0 W F Aa Aa Aa Ji Aa Aa (Ac Aa (Ac Aa (Ac Aa (Ac Aa (Ac (F.oneF (k := 0) Aa) (Ac Aa (Ac Aa (Ac Aa Bn)))))))) fun w F => ?_
  refine Bo tk 2 W F fun a w W F => ?_
  refine Ah (Aw ?_)
  have H := Ay H
  subst H
  refine Av (.inl Aa) W F Aa (Cm 0 W Aa Aa Ji Aa) ?_
  have F := F.note (Sl.nil (r := Dw))
  have F := F.frontZ (i := 1) Aa Aa
  have F := F.sub (M' := []) (Z' := [Ch v5 B0 x1.un.2.2.2, Ch (Value.slice none 0 0) Dw ([])]) nl sr
  exact ⟨((v5), (Value.slice none 0 0)), Aa, F⟩
 refine Hr tk 10 [1] W F (ai fun a w W F => ?_)
 refine A1 W Aa H (fun W H => ?_) fun W H => ?_
 ·
  refine CT tk 3 [1] W F (ai fun a w W F => ?_)
  refine CE 0 W F Aa Aa Aa Ji Aa Aa (Ac Aa (Ac Aa (Ac Aa (Ac Aa (Ac h_v1.one (Ac Aa (Ac Aa (Ac h_v2.one Bn)))))))) fun w F => ?_
  refine Bo tk 2 W F fun a w W F => ?_
  refine Ah (Aw ?_)
  have H := Ay H
  subst H
  refine Av (.inl Aa) W F Aa (Cm 0 W Aa Aa Ji Aa) ?_
  have F := F.note (Sl.hide CA h1 (F.old s_v1))
  have F := F.note (Sl.hide D3 h2 (F.old s_v2))
  have F := F.frontZ (i := 1) Aa Aa
  have F := F.sub (M' := []) (Z' := [Ch v1 B0 p0.un.2.1.un.2.2.2, Ch v2 Dw p0.un.2.2.2.2]) nl sr
  exact ⟨((v1), (v2)), Aa, F⟩
 refine Hr tk 10 [1] W F (ai fun a w W F => ?_)
 refine A1 W Aa H (fun W H => ?_) fun W H => ?_
 ·
  refine CT tk 5 [1] W F (ai fun a w W F => ?_)
  obtain ⟨x2, h4, H⟩ := Af H
  refine AO (Ml := []) (Zl := []) (β := Value) (rv := fun x => .agg #[Jint x2.un.1, Jint x2.un.2.1, Jint x2.un.2.2.1, x]) (MM := fun x => []) (ZZ := fun x => [Ch x B0 x2.un.2.2.2]) W F YP Aa Aa (fun hL => PJ _ w (v1) (Tr28.of (p0.un.2.1.un.1, p0.un.2.1.un.2.1, p0.un.2.1.un.2.2.1, p0.un.2.1.un.2.2.2)) p1 _ h4 (Sl.hide CA h1 (F.old s_v1))) fun x a w W F => ?_
  obtain ⟨v6, rfl⟩ : ∃ y, y = x := ⟨x, rfl⟩
  have F : sy Y w0 (VA b2 b1 p0 v1 v2) [Ch v6 B0 x2.un.2.2.2] w := F
  refine Bw (cs := (Is)) W F Aa VT Aa fun b3 a w W F => ?_
  refine CE 0 W F Aa Aa Aa I2 Aa Aa (Ac Aa (Ac Aa (Ac Aa (Ac (F.oneF (k := 0) Aa) Bn)))) fun w F => ?_
  refine Es tk 10 [0] W F (ai fun a w W F => ?_)
  refine A1 W Aa H (fun W H => ?_) fun W H => ?_
  ·
   refine FG ?_
   obtain ⟨v7, h5, F⟩ := F.exF CA
   refine CT tk 3 [2] W F (ai fun a w W F => ?_)
   obtain ⟨x3, h6, H⟩ := Af H
   obtain ⟨v8, h7, h8⟩ := CS h2 h6
   have h9 : GH v8 = [Jint x3.un.1, Jint x3.un.2.1.un.1, Jint x3.un.2.1.un.2.1, Jint x3.un.2.1.un.2.2.1, (v8.2.1.2.2.2.1), Jint x3.un.2.2.1, Jint x3.un.2.2.2.1, (v8.2.2.2.2.1)] := congrArg (fun q : Tr31 => ([Jint q.un.1, Jint q.un.2.1.un.1, Jint q.un.2.1.un.2.1, Jint q.un.2.1.un.2.2.1, (v8.2.1.2.2.2.1), Jint q.un.2.2.1, Jint q.un.2.2.2.1, (v8.2.2.2.2.1)] : List Value)) h8
   refine ls W F Aa (Au (r := Jq) Qx W Aa Aa (Ae h_v2) h7).q fun a w W F => ?_
   refine ls W F Aa (Aj (y := Value.agg #[Jint x3.un.1, Jint x3.un.2.1.un.1, Jint x3.un.2.1.un.2.1, Jint x3.un.2.1.un.2.2.1, (v8.2.1.2.2.2.1), Jint x3.un.2.2.1, Jint x3.un.2.2.2.1, (v8.2.2.2.2.1)]) (j := 0) (i := 0) (enc := GH) W Aa Aa (Ae h_v2) h7 LH Ji (by rw [h9]; rfl)).q fun a w W F => ?_
   refine ls W F Aa (Ao W Aa).q fun a w W F => ?_
   obtain ⟨x4, h10, H⟩ := Af H
   refine AO (Ml := []) (Zl := []) (β := Value × Value) (rv := fun x => .agg #[Jint x4.un.1, Jint x4.un.2.1.un.1, Jint x4.un.2.1.un.2.1, Jint x4.un.2.1.un.2.2.1, x.1, Jint x4.un.2.2.1, Jint x4.un.2.2.2.1, x.2]) (MM := fun x => []) (ZZ := fun x => [Ch x.1 B0 x4.un.2.1.un.2.2.2, Ch x.2 Dw x4.un.2.2.2.2]) W F XG Aa Aa (fun hL => ih _ w ((v8.2.1.2.2.2.1)) ((v8.2.2.2.2.1)) (Tr31.of (x3.un.1, Tr28.of (x3.un.2.1.un.1, x3.un.2.1.un.2.1, x3.un.2.1.un.2.2.1, x3.un.2.1.un.2.2.2), x3.un.2.2.1, x3.un.2.2.2.1, x3.un.2.2.2.2)) p1 _ h10 (Sl.at_ (F.old s_v2) h7 (Ag.snd (Ag.fst (Ag.snd (Ag.snd (Ag.snd Ag.here))))) (congrArg (fun q : Tr31 => q.un.2.1.un.2.2.2) h8)) (Sl.at_ (F.old s_v2) h7 (Ag.snd (Ag.snd (Ag.snd (Ag.snd Ag.here)))) (congrArg (fun q : Tr31 => q.un.2.2.2.2) h8))) fun x a w W F => ?_
   obtain ⟨v9, v10⟩ := x
   have F : sy Y w0 (QT b3 x2 v6 b2 b1 p0 v1 v2) [Ch v9 B0 x4.un.2.1.un.2.2.2, Ch v10 Dw x4.un.2.2.2.2, Ch v6 Ia v7] w := F
   refine CE 1 W F Aa Aa Aa Ji Aa Aa (Ac Aa (Ac Aa (Ac Aa (Ac Aa (Ac (F.oneF (k := 0) Aa) (Ac Aa (Ac Aa (Ac (F.oneF (k := 1) Aa) Bn)))))))) fun w F => ?_
   refine Bo tk 2 W F fun a w W F => ?_
   refine Ah ?_
   iterate 2 refine Aw ?_
   have H := Ay H
   subst H
   refine Av (.inl Aa) W F Aa (Cm 1 W Aa Aa Ji Aa) ?_
   have F := F.frontZ (i := 1) Aa Aa
   have F := F.frontZ (i := 1) Aa Aa
   have F := F.sub (M' := []) (Z' := [Ch v9 B0 x4.un.2.1.un.2.2.2, Ch v10 Dw x4.un.2.2.2.2]) nl (sc (sc nl))
   exact ⟨((v9), (v10)), Aa, F⟩
  refine Hr tk 10 [0] W F (ai fun a w W F => ?_)
  refine A1 W Aa H (fun W H => ?_) fun W H => ?_
  ·
   refine FG ?_
   obtain ⟨v11, h11, F⟩ := F.exF CA
   refine CT tk 3 [2] W F (ai fun a w W F => ?_)
   obtain ⟨x5, h12, H⟩ := Af H
   obtain ⟨v12, h13, h14⟩ := CS h2 h12
   have h15 : GH v12 = [Jint x5.un.1, Jint x5.un.2.1.un.1, Jint x5.un.2.1.un.2.1, Jint x5.un.2.1.un.2.2.1, (v12.2.1.2.2.2.1), Jint x5.un.2.2.1, Jint x5.un.2.2.2.1, (v12.2.2.2.2.1)] := congrArg (fun q : Tr31 => ([Jint q.un.1, Jint q.un.2.1.un.1, Jint q.un.2.1.un.2.1, Jint q.un.2.1.un.2.2.1, (v12.2.1.2.2.2.1), Jint q.un.2.2.1, Jint q.un.2.2.2.1, (v12.2.2.2.2.1)] : List Value)) h14
   refine ls W F Aa (Au (r := Jq) Qx W Aa Aa (Ae h_v2) h13).q fun a w W F => ?_
   refine ls W F Aa (Aj (y := Value.agg #[Jint x5.un.1, Jint x5.un.2.1.un.1, Jint x5.un.2.1.un.2.1, Jint x5.un.2.1.un.2.2.1, (v12.2.1.2.2.2.1), Jint x5.un.2.2.1, Jint x5.un.2.2.2.1, (v12.2.2.2.2.1)]) (j := 0) (i := 1) (enc := GH) W Aa Aa (Ae h_v2) h13 LH Ji (by rw [h15]; rfl)).q fun a w W F => ?_
   refine ls W F Aa (Ao W Aa).q fun a w W F => ?_
   obtain ⟨x6, h16, H⟩ := Af H
   refine AO (Ml := []) (Zl := []) (β := Value × Value) (rv := fun x => .agg #[Jint x6.un.1, Jint x6.un.2.1.un.1, Jint x6.un.2.1.un.2.1, Jint x6.un.2.1.un.2.2.1, x.1, Jint x6.un.2.2.1, Jint x6.un.2.2.2.1, x.2]) (MM := fun x => []) (ZZ := fun x => [Ch x.1 B0 x6.un.2.1.un.2.2.2, Ch x.2 Dw x6.un.2.2.2.2]) W F XG Aa Aa (fun hL => ih _ w ((v12.2.1.2.2.2.1)) ((v12.2.2.2.2.1)) (Tr31.of (x5.un.1, Tr28.of (x5.un.2.1.un.1, x5.un.2.1.un.2.1, x5.un.2.1.un.2.2.1, x5.un.2.1.un.2.2.2), x5.un.2.2.1, x5.un.2.2.2.1, x5.un.2.2.2.2)) p1 _ h16 (Sl.at_ (F.old s_v2) h13 (Ag.snd (Ag.fst (Ag.snd (Ag.snd (Ag.snd Ag.here))))) (congrArg (fun q : Tr31 => q.un.2.1.un.2.2.2) h14)) (Sl.at_ (F.old s_v2) h13 (Ag.snd (Ag.snd (Ag.snd (Ag.snd Ag.here)))) (congrArg (fun q : Tr31 => q.un.2.2.2.2) h14))) fun x a w W F => ?_
   obtain ⟨v13, v14⟩ := x
   have F : sy Y w0 (QT b3 x2 v6 b2 b1 p0 v1 v2) [Ch v13 B0 x6.un.2.1.un.2.2.2, Ch v14 Dw x6.un.2.2.2.2, Ch v6 Ia v11] w := F
   refine CE 1 W F Aa Aa Aa Ji Aa Aa (Ac Aa (Ac Aa (Ac Aa (Ac Aa (Ac (F.oneF (k := 0) Aa) (Ac Aa (Ac Aa (Ac (F.oneF (k := 1) Aa) Bn)))))))) fun w F => ?_
   refine Bo tk 2 W F fun a w W F => ?_
   refine Ah ?_
   iterate 2 refine Aw ?_
   have H := Ay H
   subst H
   refine Av (.inl Aa) W F Aa (Cm 1 W Aa Aa Ji Aa) ?_
   have F := F.frontZ (i := 1) Aa Aa
   have F := F.frontZ (i := 1) Aa Aa
   have F := F.sub (M' := []) (Z' := [Ch v13 B0 x6.un.2.1.un.2.2.2, Ch v14 Dw x6.un.2.2.2.2]) nl (sc (sc nl))
   exact ⟨((v13), (v14)), Aa, F⟩
  refine EX tk 3 W F fun a w W F => ?_
  obtain ⟨v15, h17, F⟩ := F.exF CA
  refine Ef [(true, 0), (true, 1), (true, 2), (true, 3), (true, 4), (true, 5), (true, 7), (true, 8), (true, 9), (true, 10), (true, 11), (false, 6), (false, 12), (false, 13), (true, 14), (false, 15)] (CN ⟨Y, [], w0⟩ [(some 15, b3, [Jint x2.un.1, Jint x2.un.2.1, Jint x2.un.2.2.1, v6]), (some 6, b1, pz31 p0 v1 v2), (some 12, b1, pz31 p0 v1 v2)] []) (fun ch a d v w h => by cases d <;> exact h) MO (by kernel_rfl) F (fun w F => ⟨_, _, F, (all_cons (fun _ => (.head _)) (all_cons (fun _ => (.tail _ (.tail _ (.head _)))) (all_cons (fun _ => (.tail _ (.tail _ (.head _)))) Ak))), Ak⟩) fun w F => ?_
  refine A9 (R := [15]) W Aa Aa (yC fun M Z hN hZ => Cx (cs := (Jp x2 v6)) (v := Value.agg #[Jint x2.un.1, Jint x2.un.2.1, Jint x2.un.2.2.1, v6]) W Aa (hN ((some 15), b3, (Jp x2 v6)) (.head _) Aa) I2 Aa) (by kernel_rfl) Aa fun a W => ?_
  refine A9 (R := []) W Aa Aa (yC fun M Z hN hZ => Aq Ii Aa Aa Aa PE W Aa 7 Aa) Aa Aa fun a W => ?_
  refine A9 (R := [6, 4, 3]) W Aa Aa (yC fun M Z hN hZ => Cx (cs := (EA p0 v1 v2)) (v := v2) W Aa (hN ((some 6), b1, (EA p0 v1 v2)) (.tail _ (.head _)) Aa) PE Aa) (by kernel_rfl) Aa fun a W => ?_
  obtain ⟨x7, h18, H⟩ := Af H
  obtain ⟨v16, h19, h20⟩ := CS h2 h18
  have h21 : GH v16 = [Jint x7.un.1, Jint x7.un.2.1.un.1, Jint x7.un.2.1.un.2.1, Jint x7.un.2.1.un.2.2.1, (v16.2.1.2.2.2.1), Jint x7.un.2.2.1, Jint x7.un.2.2.2.1, (v16.2.2.2.2.1)] := congrArg (fun q : Tr31 => ([Jint q.un.1, Jint q.un.2.1.un.1, Jint q.un.2.1.un.2.1, Jint q.un.2.1.un.2.2.1, (v16.2.1.2.2.2.1), Jint q.un.2.2.1, Jint q.un.2.2.2.1, (v16.2.2.2.2.1)] : List Value)) h20
  refine A9 (R := []) W Aa Aa (yC fun M Z hN hZ => Au (r := Jq) Qx W Aa Aa (Ae h_v2) h19) Aa Aa fun a W => ?_
  refine A9 (R := []) W Aa Aa (yC fun M Z hN hZ => Aj (y := Value.agg #[Jint x7.un.1, Jint x7.un.2.1.un.1, Jint x7.un.2.1.un.2.1, Jint x7.un.2.1.un.2.2.1, (v16.2.1.2.2.2.1), Jint x7.un.2.2.1, Jint x7.un.2.2.2.1, (v16.2.2.2.2.1)]) (j := 0) (i := 0) (enc := GH) W Aa Aa (Ae h_v2) h19 LH Ji (by rw [h21]; rfl)) Aa Aa fun a W => ?_
  refine A9 (R := []) W Aa Aa (yC fun M Z hN hZ => Ao W Aa) Aa Aa fun a W => ?_
  refine A9 (R := []) W Aa Aa (yC fun M Z hN hZ => Aq Ii Aa Aa Aa PE W Aa 7 Aa) Aa Aa fun a W => ?_
  refine A9 (R := [12, 10, 9]) W Aa Aa (yC fun M Z hN hZ => Cx (cs := (EA p0 v1 v2)) (v := v2) W Aa (hN ((some 12), b1, (EA p0 v1 v2)) (.tail _ (.tail _ (.head _))) Aa) PE Aa) (by kernel_rfl) Aa fun a W => ?_
  obtain ⟨x8, h22, H⟩ := Af H
  obtain ⟨v17, h23, h24⟩ := CS h2 h22
  have h25 : GH v17 = [Jint x8.un.1, Jint x8.un.2.1.un.1, Jint x8.un.2.1.un.2.1, Jint x8.un.2.1.un.2.2.1, (v17.2.1.2.2.2.1), Jint x8.un.2.2.1, Jint x8.un.2.2.2.1, (v17.2.2.2.2.1)] := congrArg (fun q : Tr31 => ([Jint q.un.1, Jint q.un.2.1.un.1, Jint q.un.2.1.un.2.1, Jint q.un.2.1.un.2.2.1, (v17.2.1.2.2.2.1), Jint q.un.2.2.1, Jint q.un.2.2.2.1, (v17.2.2.2.2.1)] : List Value)) h24
  refine A9 (R := []) W Aa Aa (yC fun M Z hN hZ => Au (r := Jq) Qx W Aa Aa (Ae h_v2) h23) Aa Aa fun a W => ?_
  refine A9 (R := []) W Aa Aa (yC fun M Z hN hZ => Aj (y := Value.agg #[Jint x8.un.1, Jint x8.un.2.1.un.1, Jint x8.un.2.1.un.2.1, Jint x8.un.2.1.un.2.2.1, (v17.2.1.2.2.2.1), Jint x8.un.2.2.1, Jint x8.un.2.2.2.1, (v17.2.2.2.2.1)]) (j := 0) (i := 1) (enc := GH) W Aa Aa (Ae h_v2) h23 LH Ji (by rw [h25]; rfl)) Aa Aa fun a W => ?_
  refine A9 (R := []) W Aa Aa (yC fun M Z hN hZ => Ao W Aa) Aa Aa fun a W => ?_
  refine Dt Aa ?_
  obtain ⟨x9, h26, H⟩ := Af H
  refine AO (Ml := []) (Zl := []) (β := Value × Value) (rv := fun x => .agg #[Jint x9.un.1, Jint x9.un.2.1.un.1, Jint x9.un.2.1.un.2.1, Jint x9.un.2.1.un.2.2.1, x.1, Jint x9.un.2.2.1, Jint x9.un.2.2.2.1, x.2]) (MM := fun x => []) (ZZ := fun x => [Ch x.1 B0 x9.un.2.1.un.2.2.2, Ch x.2 Dw x9.un.2.2.2.2]) W F XG Aa Aa (fun hL => ih _ w ((v16.2.1.2.2.2.1)) ((v16.2.2.2.2.1)) (Tr31.of (x7.un.1, Tr28.of (x7.un.2.1.un.1, x7.un.2.1.un.2.1, x7.un.2.1.un.2.2.1, x7.un.2.1.un.2.2.2), x7.un.2.2.1, x7.un.2.2.2.1, x7.un.2.2.2.2)) p1 _ h26 (Sl.at_ (F.old s_v2) h19 (Ag.snd (Ag.fst (Ag.snd (Ag.snd (Ag.snd Ag.here))))) (congrArg (fun q : Tr31 => q.un.2.1.un.2.2.2) h20)) (Sl.at_ (F.old s_v2) h19 (Ag.snd (Ag.snd (Ag.snd (Ag.snd Ag.here)))) (congrArg (fun q : Tr31 => q.un.2.2.2.2) h20))) fun x a w W F => ?_
  obtain ⟨v18, v19⟩ := x
  have F : sy Y w0 (QT b3 x2 v6 b2 b1 p0 v1 v2) [Ch v18 B0 x9.un.2.1.un.2.2.2, Ch v19 Dw x9.un.2.2.2.2, Ch v6 Ia v15] w := F
  refine Bc (N2 := []) (NZ2 := []) (N3 := [(some 15, b3, [Jint x2.un.1, Jint x2.un.2.1, Jint x2.un.2.2.1, v6]), (some 6, b1, pz31 p0 v1 v2), (some 12, b1, pz31 p0 v1 v2)]) (NZ3 := []) F Aa Aa (all_cons (fun _ => (.head _)) (all_cons (fun h => An (by kernel_rfl) h) (all_cons (fun _ => (.tail _ (.tail _ (.head _)))) Ak))) Ak ?_
  refine Dt Aa ?_
  obtain ⟨x10, h27, H⟩ := Af H
  refine AO (Ml := []) (Zl := []) (β := Value × Value) (rv := fun x => .agg #[Jint x10.un.1, Jint x10.un.2.1.un.1, Jint x10.un.2.1.un.2.1, Jint x10.un.2.1.un.2.2.1, x.1, Jint x10.un.2.2.1, Jint x10.un.2.2.2.1, x.2]) (MM := fun x => []) (ZZ := fun x => [Ch x.1 B0 x10.un.2.1.un.2.2.2, Ch x.2 Dw x10.un.2.2.2.2]) W F XG Aa Aa (fun hL => ih _ w ((v17.2.1.2.2.2.1)) ((v17.2.2.2.2.1)) (Tr31.of (x8.un.1, Tr28.of (x8.un.2.1.un.1, x8.un.2.1.un.2.1, x8.un.2.1.un.2.2.1, x8.un.2.1.un.2.2.2), x8.un.2.2.1, x8.un.2.2.2.1, x8.un.2.2.2.2)) p1 _ h27 (Sl.at_ (F.old s_v2) h23 (Ag.snd (Ag.fst (Ag.snd (Ag.snd (Ag.snd Ag.here))))) (congrArg (fun q : Tr31 => q.un.2.1.un.2.2.2) h24)) (Sl.at_ (F.old s_v2) h23 (Ag.snd (Ag.snd (Ag.snd (Ag.snd Ag.here)))) (congrArg (fun q : Tr31 => q.un.2.2.2.2) h24))) fun x a w W F => ?_
  obtain ⟨v20, v21⟩ := x
  have F : sy Y w0 (QT b3 x2 v6 b2 b1 p0 v1 v2) [Ch v20 B0 x10.un.2.1.un.2.2.2, Ch v21 Dw x10.un.2.2.2.2, Ch v18 B0 x9.un.2.1.un.2.2.2, Ch v19 Dw x9.un.2.2.2.2, Ch v6 Ia v15] w := F
  refine Bc (N2 := []) (NZ2 := []) (N3 := [(some 15, b3, [Jint x2.un.1, Jint x2.un.2.1, Jint x2.un.2.2.1, v6]), (some 6, b1, pz31 p0 v1 v2), (some 12, b1, pz31 p0 v1 v2)]) (NZ3 := []) F Aa Aa (all_cons (fun _ => (.head _)) (all_cons (fun h => An (by kernel_rfl) h) (all_cons (fun h => An (by kernel_rfl) h) Ak))) Ak ?_
  refine Dt Aa ?_
  refine GT (z := Value.agg #[Jint 0, Jint 0, Jint 0, Jint 0, .slice none 0 0, Jint 0, Jint 0, .slice none 0 0]) (cs := [Jint x9.un.1, Jint x9.un.2.1.un.1, Jint x9.un.2.1.un.2.1, Jint x9.un.2.1.un.2.2.1, v18, Jint x9.un.2.2.1, Jint x9.un.2.2.2.1, v19, Jint x10.un.1, Jint x10.un.2.1.un.1, Jint x10.un.2.1.un.2.1, Jint x10.un.2.1.un.2.2.1, v20, Jint x10.un.2.2.1, Jint x10.un.2.2.2.1, v21]) Dw ([Tr31.of (x9.un.1, Tr28.of (x9.un.2.1.un.1, x9.un.2.1.un.2.1, x9.un.2.1.un.2.2.1, x9.un.2.1.un.2.2.2), x9.un.2.2.1, x9.un.2.2.2.1, x9.un.2.2.2.2), Tr31.of (x10.un.1, Tr28.of (x10.un.2.1.un.1, x10.un.2.1.un.2.1, x10.un.2.1.un.2.2.1, x10.un.2.1.un.2.2.2), x10.un.2.2.1, x10.un.2.2.2.1, x10.un.2.2.2.2)] : List Tr31) W F Aa Qx WP Aa Aa Aa (AY Aa Aa Aa (AY Aa Aa Aa CQ)) Aa Aa ⟨[Jint x9.un.1, Jint x9.un.2.1.un.1, Jint x9.un.2.1.un.2.1, Jint x9.un.2.1.un.2.2.1, v18, Jint x9.un.2.2.1, Jint x9.un.2.2.2.1, v19], _, Aa, (Ug.2 ⟨[Jint x9.un.1], [Jint x9.un.2.1.un.1, Jint x9.un.2.1.un.2.1, Jint x9.un.2.1.un.2.2.1, v18, Jint x9.un.2.2.1, Jint x9.un.2.2.2.1, v19], Aa, Aa, ⟨[Jint x9.un.2.1.un.1, Jint x9.un.2.1.un.2.1, Jint x9.un.2.1.un.2.2.1, v18], [Jint x9.un.2.2.1, Jint x9.un.2.2.2.1, v19], Aa, (RL.2 ⟨[Jint x9.un.2.1.un.1], [Jint x9.un.2.1.un.2.1, Jint x9.un.2.1.un.2.2.1, v18], Aa, Aa, ⟨[Jint x9.un.2.1.un.2.1], [Jint x9.un.2.1.un.2.2.1, v18], Aa, Aa, ⟨[Jint x9.un.2.1.un.2.2.1], [v18], Aa, Aa, ⟨_, Aa, (F.item (i := 2) Aa)⟩⟩⟩⟩), ⟨[Jint x9.un.2.2.1], [Jint x9.un.2.2.2.1, v19], Aa, Aa, ⟨[Jint x9.un.2.2.2.1], [v19], Aa, Aa, ⟨_, Aa, (F.item (i := 3) Aa)⟩⟩⟩⟩⟩), ⟨[Jint x10.un.1, Jint x10.un.2.1.un.1, Jint x10.un.2.1.un.2.1, Jint x10.un.2.1.un.2.2.1, v20, Jint x10.un.2.2.1, Jint x10.un.2.2.2.1, v21], _, Aa, (Ug.2 ⟨[Jint x10.un.1], [Jint x10.un.2.1.un.1, Jint x10.un.2.1.un.2.1, Jint x10.un.2.1.un.2.2.1, v20, Jint x10.un.2.2.1, Jint x10.un.2.2.2.1, v21], Aa, Aa, ⟨[Jint x10.un.2.1.un.1, Jint x10.un.2.1.un.2.1, Jint x10.un.2.1.un.2.2.1, v20], [Jint x10.un.2.2.1, Jint x10.un.2.2.2.1, v21], Aa, (RL.2 ⟨[Jint x10.un.2.1.un.1], [Jint x10.un.2.1.un.2.1, Jint x10.un.2.1.un.2.2.1, v20], Aa, Aa, ⟨[Jint x10.un.2.1.un.2.1], [Jint x10.un.2.1.un.2.2.1, v20], Aa, Aa, ⟨[Jint x10.un.2.1.un.2.2.1], [v20], Aa, Aa, ⟨_, Aa, (F.item (i := 0) Aa)⟩⟩⟩⟩), ⟨[Jint x10.un.2.2.1], [Jint x10.un.2.2.2.1, v21], Aa, Aa, ⟨[Jint x10.un.2.2.2.1], [v21], Aa, Aa, ⟨_, Aa, (F.item (i := 1) Aa)⟩⟩⟩⟩⟩), Aa⟩⟩ fun v22 a w W F => ?_
  refine Bc (N2 := []) (NZ2 := []) (N3 := [(some 15, b3, [Jint x2.un.1, Jint x2.un.2.1, Jint x2.un.2.2.1, v6]), (some 6, b1, pz31 p0 v1 v2), (some 12, b1, pz31 p0 v1 v2)]) (NZ3 := []) F Aa Aa (all_cons (fun _ => (.head _)) (all_cons (fun h => An (by kernel_rfl) h) (all_cons (fun h => An (by kernel_rfl) h) Ak))) Ak ?_
  refine A9 (R := []) W Aa Aa (yC fun M Z hN hZ => Cf (v := Value.agg #[Jint 5, Jint x2.un.1, Jint x2.un.2.1, Jint x2.un.2.2.1, v6, Jint 0, Jint 0, v22]) YG W Aa (AY Aa Aa Aa (AY Aa Aa Aa (AY Aa (GW (F.one (k := 0) Aa)) Aa CQ))) Aa) Aa Aa fun a W => ?_
  refine Dt Aa ?_
  refine CE 1 W F Aa Aa Aa Ji Aa Aa (Ac Aa (Ac Aa (Ac Aa (Ac Aa (Ac (F.oneF (k := 5) Aa) (Ac Aa (Ac Aa (Ac (F.one (k := 0) Aa) Bn)))))))) fun w F => ?_
  refine Bc (N2 := []) (NZ2 := []) (N3 := [(some 15, b3, [Jint x2.un.1, Jint x2.un.2.1, Jint x2.un.2.2.1, v6]), (some 6, b1, pz31 p0 v1 v2), (some 12, b1, pz31 p0 v1 v2)]) (NZ3 := []) F Aa Aa (all_cons (fun h => An (by kernel_rfl) h) (all_cons (fun h => An (by kernel_rfl) h) (all_cons (fun h => An (by kernel_rfl) h) Ak))) Ak ?_
  refine FL (Ab (Ah (Aw ?_)))
  have H := Ay H
  subst H
  refine Av (.inl Aa) W F Aa (Cm 1 W Aa Aa Ji Aa) ?_
  have F := F.freeze
  have F := F.frontZ (i := 5) Aa Aa
  have F := F.hideF CA h17
  have F := F.frontZ (i := 1) Aa Aa
  have F := F.frontZ (i := 1) Aa Aa
  have F := F.sub (M' := []) (Z' := [Ch v6 B0 x2.un.2.2.2, Ch v22 Dw ([Tr31.of (x9.un.1, Tr28.of (x9.un.2.1.un.1, x9.un.2.1.un.2.1, x9.un.2.1.un.2.2.1, x9.un.2.1.un.2.2.2), x9.un.2.2.1, x9.un.2.2.2.1, x9.un.2.2.2.2), Tr31.of (x10.un.1, Tr28.of (x10.un.2.1.un.1, x10.un.2.1.un.2.1, x10.un.2.1.un.2.2.1, x10.un.2.1.un.2.2.2), x10.un.2.2.1, x10.un.2.2.2.1, x10.un.2.2.2.2)] : List Tr31)]) nl (sc (sc nl))
  exact ⟨((v6), (v22)), Aa, F⟩
 refine Hr tk 6 [1] W F (ai fun a w W F => ?_)
 refine ls W F Aa (Cf (v := Value.agg #[Jint p0.un.1, Jint 0, Jint 0, Jint 0, .slice none 0 0, Jint 0, Jint 0, .slice none 0 0]) YG W Aa Aa Aa).q fun a w W F => ?_
 refine Bw (cs := (Gt)) W F Aa WP Aa fun b4 a w W F => ?_
 refine CE 0 W F Aa Aa Aa Ji Aa Aa Aa fun w F => ?_
 refine F6 (Ab ?_)
 obtain ⟨o1, G1, K1⟩ := Af H
 refine Ap (fun a w => ∃ x11 : List Tr31, ∃ v23 : Value, some (x11) = some o1 ∧ Fr 83 [] [(4, pp b2), (6, pp b4)] a ∧ sy Y w0 (KS b4 p0 v23 b2 b1 v1 v2) [row v23 31 Dw x11] w) ?_ ?_
 ·
  have H := G1
  clear G1 K1
  refine vc tk 6 W F fun a w W F => ?_
  have F := F.nilRow 31 Dw
  have F := F.frontM (i := 2) Aa Aa
  have F := F.frontM (i := 2) Aa Aa
  have F := F.frontM (i := 2) Aa Aa
  refine AQ H (fun s a w => ∃ v24 : Value, Fr 83 [] [(1, Jint p1), (2, pp b1), (4, pp b2), (6, pp b4), (7, Jint s.1)] a ∧ sy Y w0 (KS b4 p0 v24 b2 b1 v1 v2) [row v24 31 Dw s.2] w) ⟨(Value.slice none 0 0), W.ra Aa, F⟩ fun s o a w H L2 hR => ?_
  obtain ⟨x12, x13⟩ := s
  obtain ⟨v24, W, F⟩ := hR
  have W : Fr 83 [] [(1, Jint p1), (2, pp b1), (4, pp b2), (6, pp b4), (7, Jint x12)] a := W
  have F : sy Y w0 (KS b4 p0 v24 b2 b1 v1 v2) [row v24 31 Dw x13] w := F
  rw [EQ] at H
  refine CT tk 6 [2] W F (ai fun a w W F => ?_)
  refine ls W F Aa (Bz (r := Dw) (l := p0.un.2.2.2.2) NS Aa W Aa (Al D3 h2 (Ae h_v2))).q fun a w W F => ?_
  refine Bo tk 3 W F fun a w W F => ?_
  refine A1 W Aa H (fun W H => ?_) fun W H => ?_
  ·
   refine EX tk 4 W F fun a w W F => ?_
   obtain ⟨v25, h28, F⟩ := F.exR D3
   refine Ef [(true, 0), (true, 1), (true, 2), (true, 3), (true, 4), (true, 5), (true, 6), (true, 7), (false, 8), (false, 9), (false, 10), (true, 11), (false, 12)] (CN ⟨Y, [], w0⟩ [(some 10, b4, [Jint p0.un.1, Jint 0, Jint 0, Jint 0, .slice none 0 0, Jint 0, Jint 0, v24]), (some 8, b1, pz31 p0 v1 v2)] []) (fun ch a d v w h => by cases d <;> exact h) MO (by kernel_rfl) F (fun w F => ⟨_, _, F, (all_cons (fun _ => (.head _)) (all_cons (fun _ => (.tail _ (.tail _ (.head _)))) Ak)), Ak⟩) fun w F => ?_
   refine A9 (R := []) W Aa Aa (yC fun M Z hN hZ => Aq Ii Aa Aa Aa PE W Aa 7 Aa) Aa Aa fun a W => ?_
   refine A9 (R := [10]) W Aa Aa (yC fun M Z hN hZ => Cx (cs := (UW p0 v24)) (v := v24) W Aa (hN ((some 10), b4, (UW p0 v24)) (.head _) Aa) PE Aa) (by kernel_rfl) Aa fun a W => ?_
   refine A9 (R := []) W Aa Aa (yC fun M Z hN hZ => Aq Ii Aa Aa Aa PE W Aa 7 Aa) Aa Aa fun a W => ?_
   refine A9 (R := [8, 6, 5]) W Aa Aa (yC fun M Z hN hZ => Cx (cs := (EA p0 v1 v2)) (v := v2) W Aa (hN ((some 8), b1, (EA p0 v1 v2)) (.tail _ (.head _)) Aa) PE Aa) (by kernel_rfl) Aa fun a W => ?_
   refine A9 (R := []) W Aa Aa (yC fun M Z hN hZ => Ao W Aa) Aa Aa fun a W => ?_
   obtain ⟨x14, h29, H⟩ := Af H
   obtain ⟨v26, h30, h31⟩ := CS h2 h29
   have h32 : GH v26 = [Jint x14.un.1, Jint x14.un.2.1.un.1, Jint x14.un.2.1.un.2.1, Jint x14.un.2.1.un.2.2.1, (v26.2.1.2.2.2.1), Jint x14.un.2.2.1, Jint x14.un.2.2.2.1, (v26.2.2.2.2.1)] := congrArg (fun q : Tr31 => ([Jint q.un.1, Jint q.un.2.1.un.1, Jint q.un.2.1.un.2.1, Jint q.un.2.1.un.2.2.1, (v26.2.1.2.2.2.1), Jint q.un.2.2.1, Jint q.un.2.2.2.1, (v26.2.2.2.2.1)] : List Value)) h31
   refine A9 (R := []) W Aa Aa (yC fun M Z hN hZ => Au (r := Jq) Qx W Aa Aa (Ae h_v2) h30) Aa Aa fun a W => ?_
   refine A9 (R := []) W Aa Aa (yC fun M Z hN hZ => Aj (y := Value.agg #[Jint x14.un.1, Jint x14.un.2.1.un.1, Jint x14.un.2.1.un.2.1, Jint x14.un.2.1.un.2.2.1, (v26.2.1.2.2.2.1), Jint x14.un.2.2.1, Jint x14.un.2.2.2.1, (v26.2.2.2.2.1)]) (j := 0) (i := x12) (enc := GH) W Aa Aa (Ae h_v2) h30 LH Ji (by rw [h32]; rfl)) Aa Aa fun a W => ?_
   refine A9 (R := []) W Aa Aa (yC fun M Z hN hZ => Ao W Aa) Aa Aa fun a W => ?_
   refine Dt Aa ?_
   obtain ⟨x15, h33, H⟩ := Af H
   refine AO (Ml := []) (Zl := []) (β := Value × Value) (rv := fun x => .agg #[Jint x15.un.1, Jint x15.un.2.1.un.1, Jint x15.un.2.1.un.2.1, Jint x15.un.2.1.un.2.2.1, x.1, Jint x15.un.2.2.1, Jint x15.un.2.2.2.1, x.2]) (MM := fun x => []) (ZZ := fun x => [Ch x.1 B0 x15.un.2.1.un.2.2.2, Ch x.2 Dw x15.un.2.2.2.2]) W F XG Aa Aa (fun hL => ih _ w ((v26.2.1.2.2.2.1)) ((v26.2.2.2.2.1)) (Tr31.of (x14.un.1, Tr28.of (x14.un.2.1.un.1, x14.un.2.1.un.2.1, x14.un.2.1.un.2.2.1, x14.un.2.1.un.2.2.2), x14.un.2.2.1, x14.un.2.2.2.1, x14.un.2.2.2.2)) p1 _ h33 (Sl.at_ (F.old s_v2) h30 (Ag.snd (Ag.fst (Ag.snd (Ag.snd (Ag.snd Ag.here))))) (congrArg (fun q : Tr31 => q.un.2.1.un.2.2.2) h31)) (Sl.at_ (F.old s_v2) h30 (Ag.snd (Ag.snd (Ag.snd (Ag.snd Ag.here)))) (congrArg (fun q : Tr31 => q.un.2.2.2.2) h31))) fun x a w W F => ?_
   obtain ⟨v27, v28⟩ := x
   have F : sy Y w0 (KS b4 p0 v24 b2 b1 v1 v2) [Ch v27 B0 x15.un.2.1.un.2.2.2, Ch v28 Dw x15.un.2.2.2.2, row v24 31 Jq v25] w := F
   refine Bc (N2 := []) (NZ2 := []) (N3 := [(some 10, b4, [Jint p0.un.1, Jint 0, Jint 0, Jint 0, .slice none 0 0, Jint 0, Jint 0, v24]), (some 8, b1, pz31 p0 v1 v2)]) (NZ3 := []) F Aa Aa (all_cons (fun _ => (.head _)) (all_cons (fun h => An (by kernel_rfl) h) Ak)) Ak ?_
   refine Dt Aa ?_
   refine GT (z := Value.agg #[Jint 0, Jint 0, Jint 0, Jint 0, .slice none 0 0, Jint 0, Jint 0, .slice none 0 0]) (cs := (EA x15 v27 v28)) Dw ([Tr31.of (x15.un.1, Tr28.of (x15.un.2.1.un.1, x15.un.2.1.un.2.1, x15.un.2.1.un.2.2.1, x15.un.2.1.un.2.2.2), x15.un.2.2.1, x15.un.2.2.2.1, x15.un.2.2.2.2)] : List Tr31) W F Aa Qx WP Aa Aa Aa (AY Aa Aa Aa CQ) Aa Aa ⟨[Jint x15.un.1, Jint x15.un.2.1.un.1, Jint x15.un.2.1.un.2.1, Jint x15.un.2.1.un.2.2.1, v27, Jint x15.un.2.2.1, Jint x15.un.2.2.2.1, v28], _, Aa, (Ug.2 ⟨[Jint x15.un.1], [Jint x15.un.2.1.un.1, Jint x15.un.2.1.un.2.1, Jint x15.un.2.1.un.2.2.1, v27, Jint x15.un.2.2.1, Jint x15.un.2.2.2.1, v28], Aa, Aa, ⟨[Jint x15.un.2.1.un.1, Jint x15.un.2.1.un.2.1, Jint x15.un.2.1.un.2.2.1, v27], [Jint x15.un.2.2.1, Jint x15.un.2.2.2.1, v28], Aa, (RL.2 ⟨[Jint x15.un.2.1.un.1], [Jint x15.un.2.1.un.2.1, Jint x15.un.2.1.un.2.2.1, v27], Aa, Aa, ⟨[Jint x15.un.2.1.un.2.1], [Jint x15.un.2.1.un.2.2.1, v27], Aa, Aa, ⟨[Jint x15.un.2.1.un.2.2.1], [v27], Aa, Aa, ⟨_, Aa, (F.item (i := 0) Aa)⟩⟩⟩⟩), ⟨[Jint x15.un.2.2.1], [Jint x15.un.2.2.2.1, v28], Aa, Aa, ⟨[Jint x15.un.2.2.2.1], [v28], Aa, Aa, ⟨_, Aa, (F.item (i := 1) Aa)⟩⟩⟩⟩⟩), Aa⟩ fun v29 a w W F => ?_
   refine Bc (N2 := []) (NZ2 := []) (N3 := [(some 10, b4, [Jint p0.un.1, Jint 0, Jint 0, Jint 0, .slice none 0 0, Jint 0, Jint 0, v24]), (some 8, b1, pz31 p0 v1 v2)]) (NZ3 := []) F Aa Aa (all_cons (fun _ => (.head _)) (all_cons (fun h => An (by kernel_rfl) h) Ak)) Ak ?_
   refine Dt Aa ?_
   have F := F.frontZ (i := 3) Aa Aa
   have F := F.hideR D3 h28
   obtain ⟨x16, h34, H⟩ := Af H
   refine DL (r := Dw) (i := 0) W F Aa Qx Aa Aa Aa Aa (EB F 1 Aa) h34 Aa fun v30 a w W F => ?_
   have F : sy Y w0 (KS b4 p0 v24 b2 b1 v1 v2) [row v30 31 Dw x16, row v29 31 Dw ([Tr31.of (x15.un.1, Tr28.of (x15.un.2.1.un.1, x15.un.2.1.un.2.1, x15.un.2.1.un.2.2.1, x15.un.2.1.un.2.2.2), x15.un.2.2.1, x15.un.2.2.2.1, x15.un.2.2.2.2)] : List Tr31), Ch v27 B0 x15.un.2.1.un.2.2.2, Ch v28 Dw x15.un.2.2.2.2] w := F
   refine Bc (N2 := []) (NZ2 := []) (N3 := [(some 10, b4, [Jint p0.un.1, Jint 0, Jint 0, Jint 0, .slice none 0 0, Jint 0, Jint 0, v24]), (some 8, b1, pz31 p0 v1 v2)]) (NZ3 := []) F Aa Aa (all_cons (fun h => An (by kernel_rfl) h) (all_cons (fun h => An (by kernel_rfl) h) Ak)) Ak ?_
   refine A9 (R := []) W Aa Aa (yC fun M Z hN hZ => Aq Ii Aa Aa Aa PE W Aa 7 Aa) Aa Aa fun a W => ?_
   refine Dt Aa ?_
   refine IV (M' := (KS b4 p0 v30 b2 b1 v1 v2)) 0 W F Aa Aa Aa PE (F.one (k := 0) Aa) Aa Aa fun w F => ?_
   refine Bc (N2 := []) (NZ2 := []) (N3 := [(some 10, b4, [Jint p0.un.1, Jint 0, Jint 0, Jint 0, .slice none 0 0, Jint 0, Jint 0, v24]), (some 8, b1, pz31 p0 v1 v2)]) (NZ3 := []) F Aa Aa (all_cons (fun h => An (by kernel_rfl) h) (all_cons (fun h => An (by kernel_rfl) h) Ak)) Ak ?_
   refine FL (Az ?_)
   refine vn tk 5 W F fun a w W F => ?_
   refine Ab ?_
   have F := F.frontM (i := 2) Aa Aa
   have F := F.frontM (i := 2) Aa Aa
   have F := F.frontM (i := 2) Aa Aa
   have F := F.sub (M' := (KS b4 p0 v30 b2 b1 v1 v2)) (Z' := [row v30 31 Dw x16]) sr (sc nl)
   exact ⟨_, H, (v30), W.ra Aa, F⟩
  refine AN ?_
  iterate 2 refine A6 ?_
  refine AP (Ab ?_)
  have F := F.frontM (i := 2) Aa Aa
  have F := F.frontM (i := 2) Aa Aa
  have F := F.frontM (i := 2) Aa Aa
  have H := L2 _ H
  exact ⟨_, (v24), H, W.ra Aa, F⟩
 rintro a w ⟨x11, v23, hj, W, F⟩
 have hj := Ay hj
 subst hj
 have H := K1
 clear G1 K1
 refine CT tk 3 [0] W F (ai fun a w W F => ?_)
 refine CE 1 W F Aa Aa Aa Ji Aa Aa (Ac Aa (Ac Aa (Ac Aa (Ac Aa (Ac Aa (Ac Aa (Ac Aa (Ac (F.one (k := 0) Aa) Bn)))))))) fun w F => ?_
 refine Bo tk 2 W F fun a w W F => ?_
 refine Ah ?_
 have H := Ay H
 subst H
 refine Av (.inl Aa) W F Aa (Cm 1 W Aa Aa Ji Aa) ?_
 have F := F.note (Sl.nil (r := B0))
 have F := F.frontZ (i := 1) Aa Aa
 have F := F.freeze
 have F := F.frontZ (i := 1) Aa Aa
 have F := F.sub (M' := []) (Z' := [Ch (Value.slice none 0 0) B0 ([]), Ch v23 Dw x11]) nl sr
 exact ⟨((Value.slice none 0 0), (v23)), Aa, F⟩
theorem T7 : ∀ (n : Nat) (Y : Nat → Prop) (w0 : World) (v1 : Value) (v2 : Value) (p0 : Tr31) (p1 : Int) (r : Tr31) (H : EC n p0 p1 = some r) (s_v1 : Sl w0 Y B0 v1 p0.un.2.1.un.2.2.2) (s_v2 : Sl w0 Y Dw v2 p0.un.2.2.2.2), ca_ 19 #[.agg #[Jint p0.un.1, Jint p0.un.2.1.un.1, Jint p0.un.2.1.un.2.1, Jint p0.un.2.1.un.2.2.1, v1, Jint p0.un.2.2.1, Jint p0.un.2.2.2.1, v2], Jint p1] w0 fun e w' => ∃ x : Value × Value, e = .returned (.agg #[Jint r.un.1, Jint r.un.2.1.un.1, Jint r.un.2.1.un.2.1, Jint r.un.2.1.un.2.2.1, x.1, Jint r.un.2.2.1, Jint r.un.2.2.2.1, x.2]) ∧ sy Y w0 [] [Ch (x.1) B0 r.un.2.1.un.2.2.2, Ch (x.2) Dw r.un.2.2.2.2] w' := by
  intro n
  induction n with
  | zero => intro Y w0 v1 v2 p0 p1 r H; exact nomatch H
  | succ n ih => intro Y w0 v1 v2 p0 p1 r H s_v1 s_v2; exact SJ (EC n) ih Y w0 v1 v2 p0 p1 r H s_v1 s_v2
theorem VN (Y : Nat → Prop) (w0 : World) (v1 : Value) (v2 : Value) (p0 : Tr31) (p1 : Int) (r : Tr31) (H : SG p0 p1 = some r) (s_v1 : Sl w0 Y B0 v1 p0.un.2.1.un.2.2.2) (s_v2 : Sl w0 Y Dw v2 p0.un.2.2.2.2) :
    ca_ 19 #[.agg #[Jint p0.un.1, Jint p0.un.2.1.un.1, Jint p0.un.2.1.un.2.1, Jint p0.un.2.1.un.2.2.1, v1, Jint p0.un.2.2.1, Jint p0.un.2.2.2.1, v2], Jint p1] w0 fun e w' => ∃ x : Value × Value, e = .returned (.agg #[Jint r.un.1, Jint r.un.2.1.un.1, Jint r.un.2.1.un.2.1, Jint r.un.2.1.un.2.2.1, x.1, Jint r.un.2.2.1, Jint r.un.2.2.2.1, x.2]) ∧ sy Y w0 [] [Ch (x.1) B0 r.un.2.1.un.2.2.2, Ch (x.2) Dw r.un.2.2.2.2] w' := by
  obtain ⟨n, H⟩ := BP H
  exact T7 n Y w0 v1 v2 p0 p1 r H s_v1 s_v2
theorem aV : Has Tryz.prog 16 := BM Tryz.func16
abbrev Qp (a0 : Nat) (a1 : Tr31) (a2 : Value) (a3 : Value) (a4 : Nat) (a5 : Tr31) (a6 : Value) (a7 : Value) : List (Nat × List Value) := [(a0, [Jint a1.un.1, Jint a1.un.2.1.un.1, Jint a1.un.2.1.un.2.1, Jint a1.un.2.1.un.2.2.1, a2, Jint a1.un.2.2.1, Jint a1.un.2.2.2.1, a3]), (a4, [Jint a5.un.1, Jint a5.un.2.1.un.1, Jint a5.un.2.1.un.2.1, Jint a5.un.2.1.un.2.2.1, a6, Jint a5.un.2.2.1, Jint a5.un.2.2.2.1, a7])]
def E8 (fRec : Tr31 → Tr31 → Option Bool) (p0 : Tr31) (p1 : Tr31) : Int → Option (Int ⊕ (Unit ⊕ Bool))
  | x3 => (if x3 < (p0.un.2.2.2.2.length : Int) then (ix p0.un.2.2.2.2 x3).bind fun x4 => (ix p1.un.2.2.2.2 x3).bind fun x5 => (fRec (Tr31.of (x4.un.1, Tr28.of (x4.un.2.1.un.1, x4.un.2.1.un.2.1, x4.un.2.1.un.2.2.1, x4.un.2.1.un.2.2.2), x4.un.2.2.1, x4.un.2.2.2.1, x4.un.2.2.2.2)) (Tr31.of (x5.un.1, Tr28.of (x5.un.2.1.un.1, x5.un.2.1.un.2.1, x5.un.2.1.un.2.2.1, x5.un.2.1.un.2.2.2), x5.un.2.2.1, x5.un.2.2.2.1, x5.un.2.2.2.2))).bind fun x6 => (if (!x6) = true then some (.inr (.inr false)) else some (.inl (AJ (x3 + 1)))) else some (.inr (.inl ())))
def Fa (fRec : Tr31 → Tr31 → Option Bool) (p0 : Tr31) (p1 : Tr31) : Option Bool := (if p0.un.1 ≠ p1.un.1 then some true else (if p0.un.2.2.1 ≠ p1.un.2.2.1 then some true else (if p0.un.2.2.2.1 ≠ p1.un.2.2.2.1 then some true else (JU (Tr28.of (p0.un.2.1.un.1, p0.un.2.1.un.2.1, p0.un.2.1.un.2.2.1, p0.un.2.1.un.2.2.2)) (Tr28.of (p1.un.2.1.un.1, p1.un.2.1.un.2.1, p1.un.2.1.un.2.2.1, p1.un.2.1.un.2.2.2))).bind fun x2 => (if (!x2) = true then some true else some (decide ((p0.un.2.2.2.2.length : Int) ≠ (p1.un.2.2.2.2.length : Int))))))).bind fun x1 => (if x1 = true then some false else HA (AB (E8 fRec p0 p1) 0) fun _ => some true)
def EK : Nat → Tr31 → Tr31 → Option Bool
  | 0 => fun _ _ => none
  | n + 1 => Fa (EK n)
def NG (p0 : Tr31) (p1 : Tr31) : Option Bool := FT fun n => EK n p0 p1
theorem QI (fRec : Tr31 → Tr31 → Option Bool) (ih : ∀ (Y : Nat → Prop) (w0 : World) (v1 : Value) (v2 : Value) (v3 : Value) (v4 : Value) (p0 : Tr31) (p1 : Tr31) (r : Bool) (H : fRec p0 p1 = some r) (h_v1 : Sl w0 (NX []) B0 v1 p0.un.2.1.un.2.2.2) (h_v2 : Sl w0 (NX []) Dw v2 p0.un.2.2.2.2) (h_v3 : Sl w0 (NX []) B0 v3 p1.un.2.1.un.2.2.2) (h_v4 : Sl w0 (NX []) Dw v4 p1.un.2.2.2.2), ca_ 16 #[.agg #[Jint p0.un.1, Jint p0.un.2.1.un.1, Jint p0.un.2.1.un.2.1, Jint p0.un.2.1.un.2.2.1, v1, Jint p0.un.2.2.1, Jint p0.un.2.2.2.1, v2], .agg #[Jint p1.un.1, Jint p1.un.2.1.un.1, Jint p1.un.2.1.un.2.1, Jint p1.un.2.1.un.2.2.1, v3, Jint p1.un.2.2.1, Jint p1.un.2.2.2.1, v4]] w0 fun e w' => e = .returned (.bool r) ∧ Below w0.heap.size w0 w') (Y : Nat → Prop) (w0 : World) (v1 : Value) (v2 : Value) (v3 : Value) (v4 : Value) (p0 : Tr31) (p1 : Tr31) (r : Bool) (H : Fa fRec p0 p1 = some r) (h_v1 : Sl w0 (NX []) B0 v1 p0.un.2.1.un.2.2.2) (h_v2 : Sl w0 (NX []) Dw v2 p0.un.2.2.2.2) (h_v3 : Sl w0 (NX []) B0 v3 p1.un.2.1.un.2.2.2) (h_v4 : Sl w0 (NX []) Dw v4 p1.un.2.2.2.2) :
    ca_ 16 #[.agg #[Jint p0.un.1, Jint p0.un.2.1.un.1, Jint p0.un.2.1.un.2.1, Jint p0.un.2.1.un.2.2.1, v1, Jint p0.un.2.2.1, Jint p0.un.2.2.2.1, v2], .agg #[Jint p1.un.1, Jint p1.un.2.1.un.1, Jint p1.un.2.1.un.2.1, Jint p1.un.2.1.un.2.2.1, v3, Jint p1.un.2.2.1, Jint p1.un.2.2.2.1, v4]] w0 fun e w' => e = .returned (.bool r) ∧ Below w0.heap.size w0 w' := by
 refine enter Tryz.func16 Aa Tryz.ntmps16 Aa fun a W => ?_
 have F := Stw.start Y w0
 obtain ⟨v5, h1, h_v1⟩ := h_v1.ex CA
 obtain ⟨v6, h2, h_v2⟩ := h_v2.ex D3
 obtain ⟨v7, h3, h_v3⟩ := h_v3.ex CA
 obtain ⟨v8, h4, h_v4⟩ := h_v4.ex D3
 unfold Fa at H
 refine vc tk 2 W F fun a w W F => ?_
 refine BQ (cs := (EA p0 v1 v2)) W F Aa Aa Aa fun b1 a w W F => ?_
 refine BQ (cs := (EA p1 v3 v4)) W F Aa Aa Aa fun b2 a w W F => ?_
 refine Bo tk 4 W F fun a w W F => ?_
 obtain ⟨o1, G1, K1⟩ := Af H
 refine Ap (fun a w => ∃ x1 : Bool, some (x1) = some o1 ∧ Fr 61 [] [(2, pp b1), (3, pp b2), (4, .bool false), (41, .bool x1)] a ∧ sy Y w0 (Qp b2 p1 v3 v4 b1 p0 v1 v2) [] w) ?_ ?_
 ·
  have H := G1
  clear G1 K1
  refine CT tk 7 [1, 0] W F (ai (ai fun a w W F => ?_))
  rcases bxq (decide (p0.un.1 ≠ p1.un.1)) with hb | hb
  ·
   have H := BB (B4 hb) H
   rw [hb] at W
   clear hb
   refine vl tk 31 W F fun a w W F => ?_
   refine Ab ?_
   have F := F.frontM (i := 1) Aa Aa
   have F := F.frontM (i := 1) Aa Aa
   exact ⟨_, H, W.ra Aa, F⟩
  have H := BC (B1 hb) H
  rw [hb] at W
  clear hb
  refine DU tk 7 [1, 0] W F (ai (ai fun a w W F => ?_))
  rcases bxq (decide (p0.un.2.2.1 ≠ p1.un.2.2.1)) with hb | hb
  ·
   have H := BB (B4 hb) H
   rw [hb] at W
   clear hb
   refine vl tk 24 W F fun a w W F => ?_
   refine Ab ?_
   have F := F.frontM (i := 1) Aa Aa
   have F := F.frontM (i := 1) Aa Aa
   exact ⟨_, H, W.ra Aa, F⟩
  have H := BC (B1 hb) H
  rw [hb] at W
  clear hb
  refine DU tk 7 [1, 0] W F (ai (ai fun a w W F => ?_))
  rcases bxq (decide (p0.un.2.2.2.1 ≠ p1.un.2.2.2.1)) with hb | hb
  ·
   have H := BB (B4 hb) H
   rw [hb] at W
   clear hb
   refine vl tk 17 W F fun a w W F => ?_
   refine Ab ?_
   have F := F.frontM (i := 1) Aa Aa
   have F := F.frontM (i := 1) Aa Aa
   exact ⟨_, H, W.ra Aa, F⟩
  have H := BC (B1 hb) H
  rw [hb] at W
  clear hb
  refine DU tk 4 [1, 0] W F (ai (ai fun a w W F => ?_))
  refine FU (Ad W Aa Aa Aa Aa) ?_
  obtain ⟨x2, h5, H⟩ := Af H
  refine ls W F Aa (AA (v := Value.bool x2) W Y0 Aa (fun w F => ND any w (v1) (v3) (Tr28.of (p0.un.2.1.un.1, p0.un.2.1.un.2.1, p0.un.2.1.un.2.2.1, p0.un.2.1.un.2.2.2)) (Tr28.of (p1.un.2.1.un.1, p1.un.2.1.un.2.1, p1.un.2.1.un.2.2.1, p1.un.2.1.un.2.2.2)) _ h5 (Cl (Al CA h1 (Ae h_v1)) F) (Cl (Al CA h3 (Ae h_v3)) F))) fun a w W F => ?_
  refine vl tk 3 W F fun a w W F => ?_
  rcases bxq (!x2) with hb | hb
  ·
   have H := BB hb H
   rw [hb] at W
   clear hb
   refine vl tk 9 W F fun a w W F => ?_
   refine Ab ?_
   have F := F.frontM (i := 1) Aa Aa
   have F := F.frontM (i := 1) Aa Aa
   exact ⟨_, H, W.ra Aa, F⟩
  have H := BC (by rw [hb]; decide) H
  rw [hb] at W
  clear hb
  refine DU tk 2 [1] W F (ai fun a w W F => ?_)
  refine Dy W F (Ad W Aa Aa Aa Aa) Aa (As Aa) (Bz (r := Dw) (l := p0.un.2.2.2.2) NS Aa W Aa (Al D3 h2 (Ae h_v2))).q fun a w W F => ?_
  refine DU tk 2 [0] W F (ai fun a w W F => ?_)
  refine Dy W F (Ad W Aa Aa Aa Aa) Aa (As Aa) (Bz (r := Dw) (l := p1.un.2.2.2.2) NS Aa W Aa (Al D3 h4 (Ae h_v4))).q fun a w W F => ?_
  refine vl tk 3 W F fun a w W F => ?_
  refine Ab ?_
  have F := F.frontM (i := 1) Aa Aa
  have F := F.frontM (i := 1) Aa Aa
  exact ⟨_, H, W.ra Aa, F⟩
 rintro a w ⟨x1, hj, W, F⟩
 have hj := Ay hj
 subst hj
 have H := K1
 clear G1 K1
 refine Bi W Aa H (fun W H => ?_) fun W H => ?_
 ·
  refine vc tk 5 W F fun a w W F => ?_
  refine Ah (Aw ?_)
  have H := Ay H
  subst H
  refine Av (.inl Aa) W F Aa (Am W Aa) ?_
  exact ⟨rfl, F.done⟩
 refine AD (Ab ?_)
 obtain ⟨o2, G2, K2, L2⟩ := Lh H
 refine Ap (fun a w => some (Sum.inl ()) = some o2 ∧ Fr 61 [] [(4, .bool false)] a ∧ sy Y w0 (Qp b2 p1 v3 v4 b1 p0 v1 v2) [] w) ?_ ?_
 ·
  have H := G2
  clear G2 K2
  refine vc tk 6 W F fun a w W F => ?_
  have F := F.frontM (i := 1) Aa Aa
  have F := F.frontM (i := 1) Aa Aa
  refine AQ H (fun s a w => Fr 61 [] [(2, pp b1), (3, pp b2), (4, .bool false), (5, Jint s)] a ∧ sy Y w0 (Qp b2 p1 v3 v4 b1 p0 v1 v2) [] w) ⟨W.ra Aa, F⟩ fun s o a w H L3 hR => ?_
  obtain ⟨x3, rfl⟩ : ∃ x, x = s := ⟨s, rfl⟩
  obtain ⟨W, F⟩ := hR
  have W : Fr 61 [] [(2, pp b1), (3, pp b2), (4, .bool false), (5, Jint x3)] a := W
  have F : sy Y w0 (Qp b2 p1 v3 v4 b1 p0 v1 v2) [] w := F
  rw [E8] at H
  refine CT tk 6 [1] W F (ai fun a w W F => ?_)
  refine ls W F Aa (Bz (r := Dw) (l := p0.un.2.2.2.2) NS Aa W Aa (Al D3 h2 (Ae h_v2))).q fun a w W F => ?_
  refine Bo tk 3 W F fun a w W F => ?_
  refine A1 W Aa H (fun W H => ?_) fun W H => ?_
  ·
   refine EX tk 5 W F fun a w W F => ?_
   refine B5 F MO (by kernel_rfl) ?_
   refine qs W Aa (Aq Ii Aa Aa Aa PE W Aa 7 Aa).q fun a W => ?_
   refine qs W Aa (Bk (v := v2) 1 W Aa Aa PE Aa).q fun a W => ?_
   refine qs W Aa (Ao W Aa).q fun a W => ?_
   obtain ⟨x4, h6, H⟩ := Af H
   obtain ⟨v9, h7, h8⟩ := CS h2 h6
   have h9 : GH v9 = [Jint x4.un.1, Jint x4.un.2.1.un.1, Jint x4.un.2.1.un.2.1, Jint x4.un.2.1.un.2.2.1, (v9.2.1.2.2.2.1), Jint x4.un.2.2.1, Jint x4.un.2.2.2.1, (v9.2.2.2.2.1)] := congrArg (fun q : Tr31 => ([Jint q.un.1, Jint q.un.2.1.un.1, Jint q.un.2.1.un.2.1, Jint q.un.2.1.un.2.2.1, (v9.2.1.2.2.2.1), Jint q.un.2.2.1, Jint q.un.2.2.2.1, (v9.2.2.2.2.1)] : List Value)) h8
   refine qs W Aa (Au (r := Jq) Qx W Aa Aa (Ae h_v2) h7).q fun a W => ?_
   refine qs W Aa (Aj (y := Value.agg #[Jint x4.un.1, Jint x4.un.2.1.un.1, Jint x4.un.2.1.un.2.1, Jint x4.un.2.1.un.2.2.1, (v9.2.1.2.2.2.1), Jint x4.un.2.2.1, Jint x4.un.2.2.2.1, (v9.2.2.2.2.1)]) (j := 0) (i := x3) (enc := GH) W Aa Aa (Ae h_v2) h7 LH Ji (by rw [h9]; rfl)).q fun a W => ?_
   refine qs W Aa (Aq Ii Aa Aa Aa PE W Aa 7 Aa).q fun a W => ?_
   refine qs W Aa (Bk (v := v4) 0 W Aa Aa PE Aa).q fun a W => ?_
   refine qs W Aa (Ao W Aa).q fun a W => ?_
   obtain ⟨x5, h10, H⟩ := Af H
   obtain ⟨v10, h11, h12⟩ := CS h4 h10
   have h13 : GH v10 = [Jint x5.un.1, Jint x5.un.2.1.un.1, Jint x5.un.2.1.un.2.1, Jint x5.un.2.1.un.2.2.1, (v10.2.1.2.2.2.1), Jint x5.un.2.2.1, Jint x5.un.2.2.2.1, (v10.2.2.2.2.1)] := congrArg (fun q : Tr31 => ([Jint q.un.1, Jint q.un.2.1.un.1, Jint q.un.2.1.un.2.1, Jint q.un.2.1.un.2.2.1, (v10.2.1.2.2.2.1), Jint q.un.2.2.1, Jint q.un.2.2.2.1, (v10.2.2.2.2.1)] : List Value)) h12
   refine qs W Aa (Au (r := Jq) Qx W Aa Aa (Ae h_v4) h11).q fun a W => ?_
   refine qs W Aa (Aj (y := Value.agg #[Jint x5.un.1, Jint x5.un.2.1.un.1, Jint x5.un.2.1.un.2.1, Jint x5.un.2.1.un.2.2.1, (v10.2.1.2.2.2.1), Jint x5.un.2.2.1, Jint x5.un.2.2.2.1, (v10.2.2.2.2.1)]) (j := 0) (i := x3) (enc := GH) W Aa Aa (Ae h_v4) h11 LH Ji (by rw [h13]; rfl)).q fun a W => ?_
   obtain ⟨x6, h14, H⟩ := Af H
   refine qs W Aa (AA (v := Value.bool x6) W aV Aa (fun w F => ih any w ((v9.2.1.2.2.2.1)) ((v9.2.2.2.2.1)) ((v10.2.1.2.2.2.1)) ((v10.2.2.2.2.1)) (Tr31.of (x4.un.1, Tr28.of (x4.un.2.1.un.1, x4.un.2.1.un.2.1, x4.un.2.1.un.2.2.1, x4.un.2.1.un.2.2.2), x4.un.2.2.1, x4.un.2.2.2.1, x4.un.2.2.2.2)) (Tr31.of (x5.un.1, Tr28.of (x5.un.2.1.un.1, x5.un.2.1.un.2.1, x5.un.2.1.un.2.2.1, x5.un.2.1.un.2.2.2), x5.un.2.2.1, x5.un.2.2.2.1, x5.un.2.2.2.2)) _ h14 (Cl (Bf (Ae h_v2) h7 (Ag.snd (Ag.fst (Ag.snd (Ag.snd (Ag.snd Ag.here))))) (congrArg (fun q : Tr31 => q.un.2.1.un.2.2.2) h8)) F) (Cl (Bf (Ae h_v2) h7 (Ag.snd (Ag.snd (Ag.snd (Ag.snd Ag.here)))) (congrArg (fun q : Tr31 => q.un.2.2.2.2) h8)) F) (Cl (Bf (Ae h_v4) h11 (Ag.snd (Ag.fst (Ag.snd (Ag.snd (Ag.snd Ag.here))))) (congrArg (fun q : Tr31 => q.un.2.1.un.2.2.2) h12)) F) (Cl (Bf (Ae h_v4) h11 (Ag.snd (Ag.snd (Ag.snd (Ag.snd Ag.here)))) (congrArg (fun q : Tr31 => q.un.2.2.2.2) h12)) F))) fun a W => ?_
   refine qs W Aa (Jn W Aa).q fun a W => ?_
   refine AK fun w F => ?_
   refine Ab ?_
   refine Bi W Aa H (fun W H => ?_) fun W H => ?_
   ·
    refine vc tk 5 W F fun a w W F => ?_
    refine Ah (AC ?_)
    iterate 2 refine Aw ?_
    refine AC (Aw ?_)
    have H := L3 _ H
    have H := L2 _ H
    have H := Ay H
    subst H
    refine Av (.inl Aa) W F Aa (Am W Aa) ?_
    exact ⟨rfl, F.done⟩
   refine AD (Az ?_)
   refine vn tk 5 W F fun a w W F => ?_
   refine Ab ?_
   have F := F.frontM (i := 1) Aa Aa
   have F := F.frontM (i := 1) Aa Aa
   exact ⟨_, H, W.ra Aa, F⟩
  refine AN ?_
  iterate 2 refine A6 ?_
  refine AP (Ab ?_)
  have F := F.frontM (i := 1) Aa Aa
  have F := F.frontM (i := 1) Aa Aa
  have H := L3 _ H
  exact ⟨H, W.ra Aa, F⟩
 rintro a w ⟨hj, W, F⟩
 have H := K2 _ hj
 clear hj G2 K2 L2
 refine vc tk 5 W F fun a w W F => ?_
 refine Ah ?_
 have H := Ay H
 subst H
 refine Av (.inl Aa) W F Aa (Am W Aa) ?_
 exact ⟨rfl, F.done⟩
theorem Rw : ∀ (n : Nat) (Y : Nat → Prop) (w0 : World) (v1 : Value) (v2 : Value) (v3 : Value) (v4 : Value) (p0 : Tr31) (p1 : Tr31) (r : Bool) (H : EK n p0 p1 = some r) (h_v1 : Sl w0 (NX []) B0 v1 p0.un.2.1.un.2.2.2) (h_v2 : Sl w0 (NX []) Dw v2 p0.un.2.2.2.2) (h_v3 : Sl w0 (NX []) B0 v3 p1.un.2.1.un.2.2.2) (h_v4 : Sl w0 (NX []) Dw v4 p1.un.2.2.2.2), ca_ 16 #[.agg #[Jint p0.un.1, Jint p0.un.2.1.un.1, Jint p0.un.2.1.un.2.1, Jint p0.un.2.1.un.2.2.1, v1, Jint p0.un.2.2.1, Jint p0.un.2.2.2.1, v2], .agg #[Jint p1.un.1, Jint p1.un.2.1.un.1, Jint p1.un.2.1.un.2.1, Jint p1.un.2.1.un.2.2.1, v3, Jint p1.un.2.2.1, Jint p1.un.2.2.2.1, v4]] w0 fun e w' => e = .returned (.bool r) ∧ Below w0.heap.size w0 w' := by
  intro n
  induction n with
  | zero => intro Y w0 v1 v2 v3 v4 p0 p1 r H; exact nomatch H
  | succ n ih => intro Y w0 v1 v2 v3 v4 p0 p1 r H h_v1 h_v2 h_v3 h_v4; exact QI (EK n) ih Y w0 v1 v2 v3 v4 p0 p1 r H h_v1 h_v2 h_v3 h_v4
theorem SH (Y : Nat → Prop) (w0 : World) (v1 : Value) (v2 : Value) (v3 : Value) (v4 : Value) (p0 : Tr31) (p1 : Tr31) (r : Bool) (H : NG p0 p1 = some r) (h_v1 : Sl w0 (NX []) B0 v1 p0.un.2.1.un.2.2.2) (h_v2 : Sl w0 (NX []) Dw v2 p0.un.2.2.2.2) (h_v3 : Sl w0 (NX []) B0 v3 p1.un.2.1.un.2.2.2) (h_v4 : Sl w0 (NX []) Dw v4 p1.un.2.2.2.2) :
    ca_ 16 #[.agg #[Jint p0.un.1, Jint p0.un.2.1.un.1, Jint p0.un.2.1.un.2.1, Jint p0.un.2.1.un.2.2.1, v1, Jint p0.un.2.2.1, Jint p0.un.2.2.2.1, v2], .agg #[Jint p1.un.1, Jint p1.un.2.1.un.1, Jint p1.un.2.1.un.2.1, Jint p1.un.2.1.un.2.2.1, v3, Jint p1.un.2.2.1, Jint p1.un.2.2.2.1, v4]] w0 fun e w' => e = .returned (.bool r) ∧ Below w0.heap.size w0 w' := by
  obtain ⟨n, H⟩ := BP H
  exact Rw n Y w0 v1 v2 v3 v4 p0 p1 r H h_v1 h_v2 h_v3 h_v4
theorem cR : type_of% Tryz.underlying4 := Tryz.underlying4
def GE (p0 : Int × (List (Int × Int × Int × Int × Int × Int)) × (List (Int × Int))) (p1 : Tr31) (p2 : Int) (p3 : Int) : Option Bool := (IZ p0 (Tr31.of (p1.un.1, Tr28.of (p1.un.2.1.un.1, p1.un.2.1.un.2.1, p1.un.2.1.un.2.2.1, p1.un.2.1.un.2.2.2), p1.un.2.2.1, p1.un.2.2.2.1, p1.un.2.2.2.2))).bind fun x1 => (if (!x1) = true then (Hf).bind fun x2 => some x2 else (N5 (Tr31.of (p1.un.1, Tr28.of (p1.un.2.1.un.1, p1.un.2.1.un.2.1, p1.un.2.1.un.2.2.1, p1.un.2.1.un.2.2.2), p1.un.2.2.1, p1.un.2.2.2.1, p1.un.2.2.2.2))).bind fun x3 => ((DS p0 (Tr39.of (x3.un.1, Tr36.of (x3.un.2.1.un.1, x3.un.2.1.un.2.1, x3.un.2.1.un.2.2.1, x3.un.2.1.un.2.2.2), x3.un.2.2.1, x3.un.2.2.2.1, x3.un.2.2.2.2))).bind fun x5 => (HH p0 (Tr31.of (p1.un.1, Tr28.of (p1.un.2.1.un.1, p1.un.2.1.un.2.1, p1.un.2.1.un.2.2.1, p1.un.2.1.un.2.2.2), p1.un.2.2.1, p1.un.2.2.2.1, p1.un.2.2.2.2))).bind fun x6 => (if x5 ≠ x6 then some true else (Gm p0 p2).bind fun x7 => (HG p0 p2).bind fun x8 => some (decide (x7 ≠ x8)))).bind fun x4 => (if x4 = true then some false else (HI (Tr31.of (p1.un.1, Tr28.of (p1.un.2.1.un.1, p1.un.2.1.un.2.1, p1.un.2.1.un.2.2.1, p1.un.2.1.un.2.2.2), p1.un.2.2.1, p1.un.2.2.2.1, p1.un.2.2.2.2))).bind fun x9 => (if (!x9) = true then (Hf).bind fun x10 => some x10 else ((Ev (Tr39.of (x3.un.1, Tr36.of (x3.un.2.1.un.1, x3.un.2.1.un.2.1, x3.un.2.1.un.2.2.1, x3.un.2.1.un.2.2.2), x3.un.2.2.1, x3.un.2.2.2.1, x3.un.2.2.2.2))).bind fun x14 => (Gq (Tr31.of (p1.un.1, Tr28.of (p1.un.2.1.un.1, p1.un.2.1.un.2.1, p1.un.2.1.un.2.2.1, p1.un.2.1.un.2.2.2), p1.un.2.2.1, p1.un.2.2.2.1, p1.un.2.2.2.2))).bind fun x15 => (if x14 = x15 then (Ga (Tr39.of (x3.un.1, Tr36.of (x3.un.2.1.un.1, x3.un.2.1.un.2.1, x3.un.2.1.un.2.2.1, x3.un.2.1.un.2.2.2), x3.un.2.2.1, x3.un.2.2.2.1, x3.un.2.2.2.2)) p3).bind fun x16 => (KY (Tr39.of (x16.un.1, Tr36.of (x16.un.2.1.un.1, x16.un.2.1.un.2.1, x16.un.2.1.un.2.2.1, x16.un.2.1.un.2.2.2), x16.un.2.2.1, x16.un.2.2.2.1, x16.un.2.2.2.2))).bind fun x17 => (SG (Tr31.of (p1.un.1, Tr28.of (p1.un.2.1.un.1, p1.un.2.1.un.2.1, p1.un.2.1.un.2.2.1, p1.un.2.1.un.2.2.2), p1.un.2.2.1, p1.un.2.2.2.1, p1.un.2.2.2.2)) p3).bind fun x18 => (NG (Tr31.of (x17.un.1, Tr28.of (x17.un.2.1.un.1, x17.un.2.1.un.2.1, x17.un.2.1.un.2.2.1, x17.un.2.1.un.2.2.2), x17.un.2.2.1, x17.un.2.2.2.1, x17.un.2.2.2.2)) (Tr31.of (x18.un.1, Tr28.of (x18.un.2.1.un.1, x18.un.2.1.un.2.1, x18.un.2.1.un.2.2.1, x18.un.2.1.un.2.2.2), x18.un.2.2.1, x18.un.2.2.2.1, x18.un.2.2.2.2))).bind fun x19 => (if x19 = true then (Hf).bind fun x20 => some (x20, x3.un.2.1.un.2.2.2, x3.un.2.2.2.2) else some (false, x3.un.2.1.un.2.2.2, x3.un.2.2.2.2)) else some (false, x3.un.2.1.un.2.2.2, x3.un.2.2.2.2))).bind fun (x11, x12, x13) => some x11)))
theorem Mv (Y : Nat → Prop) (w0 : World) (v1 : Value) (v2 : Value) (v3 : Value) (v4 : Value) (p0 : Int × (List (Int × Int × Int × Int × Int × Int)) × (List (Int × Int))) (p1 : Tr31) (p2 : Int) (p3 : Int) (r : Bool) (H : GE p0 p1 p2 p3 = some r) (h_v1 : Sl w0 (NX []) IP v1 p0.2.1) (h_v2 : Sl w0 (NX []) Jj v2 p0.2.2) (s_v3 : Sl w0 Y B0 v3 p1.un.2.1.un.2.2.2) (s_v4 : Sl w0 Y Dw v4 p1.un.2.2.2.2) (hG : Gk [] w0) :
    ca_ 3 #[.agg #[Jint p0.1, v1, v2], .agg #[Jint p1.un.1, Jint p1.un.2.1.un.1, Jint p1.un.2.1.un.2.1, Jint p1.un.2.1.un.2.2.1, v3, Jint p1.un.2.2.1, Jint p1.un.2.2.2.1, v4], Jint p2, Jint p3] w0 fun e w' => e = .returned (.bool r) ∧ Below w0.heap.size w0 w' := by
 refine enter Tryz.func3 Aa Tryz.ntmps3 Aa fun a W => ?_
 have F := Stw.start Y w0
 obtain ⟨v5, h1, s_v3⟩ := s_v3.ex CA
 obtain ⟨v6, h2, s_v4⟩ := s_v4.ex D3
 have h_v3 := F.nx s_v3
 have h_v4 := F.nx s_v4
 unfold GE at H
 refine vc tk 2 W F fun a w W F => ?_
 refine BQ (cs := [Jint p0.1, v1, v2]) W F Aa Aa Aa fun b1 a w W F => ?_
 refine BQ (cs := (EA p1 v3 v4)) W F Aa Aa Aa fun b2 a w W F => ?_
 refine Es tk 8 [1, 0] W F (ai (ai fun a w W F => ?_))
 obtain ⟨x1, h3, H⟩ := Af H
 refine ls W F Aa (AA (v := Value.bool x1) W H6 Aa (fun w F => R4 any w (v1) (v2) (v3) (v4) p0 (Tr31.of (p1.un.1, Tr28.of (p1.un.2.1.un.1, p1.un.2.1.un.2.1, p1.un.2.1.un.2.2.1, p1.un.2.1.un.2.2.2), p1.un.2.2.1, p1.un.2.2.2.1, p1.un.2.2.2.2)) _ h3 (Cl (Ae h_v1) F) (Cl (Ae h_v2) F) (Cl (Al CA h1 (Ae h_v3)) F) (Cl (Al D3 h2 (Ae h_v4)) F))) fun a w W F => ?_
 refine Bo tk 3 W F fun a w W F => ?_
 refine Bi W Aa H (fun W H => ?_) fun W H => ?_
 ·
  refine vc tk 2 W F fun a w W F => ?_
  obtain ⟨x2, h4, H⟩ := Af H
  refine ls W F Aa (AA (v := Value.bool x2) W H7 Aa (fun w F => J2 any w _ h4 (hG.go0 F))) fun a w W F => ?_
  refine Bo tk 3 W F fun a w W F => ?_
  refine Ah (Aw ?_)
  have H := Ay H
  subst H
  refine Av (.inl Aa) W F Aa (Am W Aa) ?_
  exact ⟨rfl, F.done⟩
 refine Hr tk 5 [0] W F (ai fun a w W F => ?_)
 obtain ⟨x3, h5, H⟩ := Af H
 refine AO (Ml := []) (Zl := []) (β := Value × Value) (rv := fun x => .agg #[Jint x3.un.1, Jint x3.un.2.1.un.1, Jint x3.un.2.1.un.2.1, Jint x3.un.2.1.un.2.2.1, x.1, Jint x3.un.2.2.1, Jint x3.un.2.2.2.1, x.2]) (MM := fun x => []) (ZZ := fun x => [row x.1 36 Bm x3.un.2.1.un.2.2.2, row x.2 39 DF x3.un.2.2.2.2]) W F H8 Aa Aa (fun hL => Sn _ w (v3) (v4) (Tr31.of (p1.un.1, Tr28.of (p1.un.2.1.un.1, p1.un.2.1.un.2.1, p1.un.2.1.un.2.2.1, p1.un.2.1.un.2.2.2), p1.un.2.2.1, p1.un.2.2.2.1, p1.un.2.2.2.2)) _ h5 ((Al CA h1 (Ae h_v3)) w F).nx ((Al D3 h2 (Ae h_v4)) w F).nx) fun x a w W F => ?_
 obtain ⟨v7, v8⟩ := x
 have F : sy Y w0 (TZ b2 p1 v3 v4 b1 p0 v1 v2) [row v7 36 Bm x3.un.2.1.un.2.2.2, row v8 39 DF x3.un.2.2.2.2] w := F
 refine Bw (cs := (Gt)) W F Aa Sv Aa fun b3 a w W F => ?_
 refine CE 0 W F Aa Aa Aa I7 Aa Aa (Ac Aa (Ac Aa (Ac Aa (Ac Aa (Ac (F.one (k := 0) Aa) (Ac Aa (Ac Aa (Ac (F.one (k := 1) Aa) Bn)))))))) fun w F => ?_
 refine Bo tk 3 W F fun a w W F => ?_
 obtain ⟨o1, G1, K1⟩ := Af H
 refine Ap (fun a w => ∃ x4 : Bool, some (x4) = some o1 ∧ Fr 55 [] [(3, Jint p3), (5, pp b2), (8, .bool false), (9, pp b3), (32, .bool x4)] a ∧ sy Y w0 [(b3, (C7 x3 v7 v8)), (b2, (EA p1 v3 v4)), (b1, [Jint p0.1, v1, v2])] [row v7 36 Bm x3.un.2.1.un.2.2.2, row v8 39 DF x3.un.2.2.2.2] w) ?_ ?_
 ·
  have H := G1
  clear G1 K1
  refine B5 F MO (by kernel_rfl) ?_
  refine qs W Aa (Bk (v := Value.agg #[Jint p0.1, v1, v2]) 2 W Aa Aa XA Aa).q fun a W => ?_
  refine qs W Aa (Bk (v := Value.agg #[Jint x3.un.1, Jint x3.un.2.1.un.1, Jint x3.un.2.1.un.2.1, Jint x3.un.2.1.un.2.2.1, v7, Jint x3.un.2.2.1, Jint x3.un.2.2.2.1, v8]) 0 W Aa Aa I7 Aa).q fun a W => ?_
  obtain ⟨x5, h6, H⟩ := Af H
  refine qs W Aa (AA (v := Jint x5) W H9 Aa (fun w F => Iq any w (v1) (v2) (v7) (v8) p0 (Tr39.of (x3.un.1, Tr36.of (x3.un.2.1.un.1, x3.un.2.1.un.2.1, x3.un.2.1.un.2.2.1, x3.un.2.1.un.2.2.2), x3.un.2.2.1, x3.un.2.2.2.1, x3.un.2.2.2.2)) _ h6 (Cl (Ae h_v1) F) (Cl (Ae h_v2) F) (Cl (Ai 0 Aa) F) (Cl (Ai 1 Aa) F))) fun a W => ?_
  refine qs W Aa (Bk (v := Value.agg #[Jint p0.1, v1, v2]) 2 W Aa Aa XA Aa).q fun a W => ?_
  refine qs W Aa (Bk (v := Value.agg #[Jint p1.un.1, Jint p1.un.2.1.un.1, Jint p1.un.2.1.un.2.1, Jint p1.un.2.1.un.2.2.1, v3, Jint p1.un.2.2.1, Jint p1.un.2.2.2.1, v4]) 1 W Aa Aa Ji Aa).q fun a W => ?_
  obtain ⟨x6, h7, H⟩ := Af H
  refine qs W Aa (AA (v := Jint x6) W bV Aa (fun w F => Q6 any w (v1) (v2) (v3) (v4) p0 (Tr31.of (p1.un.1, Tr28.of (p1.un.2.1.un.1, p1.un.2.1.un.2.1, p1.un.2.1.un.2.2.1, p1.un.2.1.un.2.2.2), p1.un.2.2.1, p1.un.2.2.2.1, p1.un.2.2.2.2)) _ h7 (Cl (Ae h_v1) F) (Cl (Ae h_v2) F) (Cl (Al CA h1 (Ae h_v3)) F) (Cl (Al D3 h2 (Ae h_v4)) F))) fun a W => ?_
  refine qs W Aa (UU W Aa Aa).q fun a W => ?_
  refine qs W Aa (Ao W Aa).q fun a W => ?_
  rcases bxq (decide (x5 ≠ x6)) with hb | hb
  ·
   have H := BB (B4 hb) H
   rw [hb] at W
   clear hb
   iterate 7 refine Bb W (A3 W Aa Aa Aa Aa Aa) Aa Aa fun a W => ?_
   refine qs W Aa (Bq W Aa Aa Aa).q fun a W => ?_
   refine AK fun w F => ?_
   refine Ab ?_
   have F := F.frontZ (i := 1) Aa Aa
   have F := F.frontZ (i := 1) Aa Aa
   have F := F.frontM (i := 2) Aa Aa
   have F := F.frontM (i := 2) Aa Aa
   have F := F.frontM (i := 2) Aa Aa
   exact ⟨_, H, W.ra Aa, F⟩
  have H := BC (B1 hb) H
  rw [hb] at W
  clear hb
  refine AR W (Ad W Aa Aa Aa Aa) Aa (As Aa) (Bk (v := Value.agg #[Jint p0.1, v1, v2]) 2 W Aa Aa XA Aa).q fun a W => ?_
  refine AR W (Ad W Aa Aa Aa Aa) Aa (As Aa) (Ao W Aa).q fun a W => ?_
  obtain ⟨x7, h8, H⟩ := Af H
  refine AR W (Ad W Aa Aa Aa Aa) Aa (As Aa) (AA (v := Value.bool x7) W Z8 Aa (fun w F => KH any w (v1) (v2) p0 p2 _ h8 (Cl (Ae h_v1) F) (Cl (Ae h_v2) F))) fun a W => ?_
  refine AR W (Ad W Aa Aa Aa Aa) Aa (As Aa) (Bk (v := Value.agg #[Jint p0.1, v1, v2]) 2 W Aa Aa XA Aa).q fun a W => ?_
  refine AR W (Ad W Aa Aa Aa Aa) Aa (As Aa) (Ao W Aa).q fun a W => ?_
  obtain ⟨x8, h9, H⟩ := Af H
  refine AR W (Ad W Aa Aa Aa Aa) Aa (As Aa) (AA (v := Value.bool x8) W aP Aa (fun w F => MB any w (v1) (v2) p0 p2 _ h9 (Cl (Ae h_v1) F) (Cl (Ae h_v2) F))) fun a W => ?_
  refine AR W (Ad W Aa Aa Aa Aa) Aa (As Aa) (XZ cR W Aa Aa).q fun a W => ?_
  refine qs W Aa (Bh W Aa Aa Aa).q fun a W => ?_
  refine AK fun w F => ?_
  refine Ab ?_
  have F := F.frontZ (i := 1) Aa Aa
  have F := F.frontZ (i := 1) Aa Aa
  have F := F.frontM (i := 2) Aa Aa
  have F := F.frontM (i := 2) Aa Aa
  have F := F.frontM (i := 2) Aa Aa
  exact ⟨_, H, W.ra Aa, F⟩
 rintro a w ⟨x4, hj, W, F⟩
 have hj := Ay hj
 subst hj
 have H := K1
 clear G1 K1
 refine Bi W Aa H (fun W H => ?_) fun W H => ?_
 ·
  refine vc tk 5 W F fun a w W F => ?_
  refine Ah (Aw ?_)
  have H := Ay H
  subst H
  refine Av (.inl Aa) W F Aa (Am W Aa) ?_
  exact ⟨rfl, F.done⟩
 refine Hr tk 6 [1] W F (ai fun a w W F => ?_)
 obtain ⟨x9, h10, H⟩ := Af H
 refine ls W F Aa (AA (v := Value.bool x9) W Z7 Aa (fun w F => MQ any w (v3) (v4) (Tr31.of (p1.un.1, Tr28.of (p1.un.2.1.un.1, p1.un.2.1.un.2.1, p1.un.2.1.un.2.2.1, p1.un.2.1.un.2.2.2), p1.un.2.2.1, p1.un.2.2.2.1, p1.un.2.2.2.2)) _ h10 (Cl (Al CA h1 (Ae h_v3)) F) (Cl (Al D3 h2 (Ae h_v4)) F))) fun a w W F => ?_
 refine Bo tk 3 W F fun a w W F => ?_
 refine Bi W Aa H (fun W H => ?_) fun W H => ?_
 ·
  refine vc tk 2 W F fun a w W F => ?_
  obtain ⟨x10, h11, H⟩ := Af H
  refine ls W F Aa (AA (v := Value.bool x10) W H7 Aa (fun w F => J2 any w _ h11 (hG.go0 F))) fun a w W F => ?_
  refine Bo tk 3 W F fun a w W F => ?_
  refine Ah (Aw ?_)
  have H := Ay H
  subst H
  refine Av (.inl Aa) W F Aa (Am W Aa) ?_
  exact ⟨rfl, F.done⟩
 refine AD (Ab ?_)
 obtain ⟨o2, G2, K2⟩ := Af H
 refine Ap (fun a w => ∃ x11 : Bool, ∃ x12 : List Tr36, ∃ x13 : List Tr39, some ((x11, x12, x13)) = some o2 ∧ Fr 55 [] [(8, .bool x11)] a ∧ sy Y w0 [(b3, (C7 x3 v7 v8)), (b2, (EA p1 v3 v4)), (b1, [Jint p0.1, v1, v2])] [Ch v7 Bm x12, Ch v8 DF x13] w) ?_ ?_
 ·
  have H := G2
  clear G2 K2
  refine Ef [(true, 0), (true, 2), (false, 1), (false, 3), (true, 4), (true, 5), (true, 6), (true, 7), (true, 10), (true, 11), (false, 8), (false, 9), (false, 12), (false, 13), (true, 14), (true, 15), (false, 16), (true, 17), (false, 18)] (CN ⟨Y, [], w0⟩ [(some 1, b3, pz39 x3 v7 v8), (some 3, b2, pz31 p1 v3 v4)] []) (fun ch a d v w h => by cases d <;> exact h) MO (by kernel_rfl) F (fun w F => ⟨_, _, F, (all_cons (fun _ => (.head _)) (all_cons (fun _ => (.tail _ (.head _))) Ak)), Ak⟩) fun w F => ?_
  refine A9 (R := [1]) W Aa Aa (yC fun M Z hN hZ => Cx (cs := (C7 x3 v7 v8)) (v := Value.agg #[Jint x3.un.1, Jint x3.un.2.1.un.1, Jint x3.un.2.1.un.2.1, Jint x3.un.2.1.un.2.2.1, v7, Jint x3.un.2.2.1, Jint x3.un.2.2.2.1, v8]) W Aa (hN ((some 1), b3, (C7 x3 v7 v8)) (.head _) Aa) I7 Aa) (by kernel_rfl) Aa fun a W => ?_
  refine A9 (R := [3]) W Aa Aa (yC fun M Z hN hZ => Cx (cs := (EA p1 v3 v4)) (v := Value.agg #[Jint p1.un.1, Jint p1.un.2.1.un.1, Jint p1.un.2.1.un.2.1, Jint p1.un.2.1.un.2.2.1, v3, Jint p1.un.2.2.1, Jint p1.un.2.2.2.1, v4]) W Aa (hN ((some 3), b2, (EA p1 v3 v4)) (.tail _ (.head _)) Aa) Ji Aa) (by kernel_rfl) Aa fun a W => ?_
  refine Dt Aa ?_
  obtain ⟨x14, h12, H⟩ := Af H
  refine ls W F Aa (AA (v := Jint x14) W ZU Aa (fun w F => Iz any w (v7) (v8) (Tr39.of (x3.un.1, Tr36.of (x3.un.2.1.un.1, x3.un.2.1.un.2.1, x3.un.2.1.un.2.2.1, x3.un.2.1.un.2.2.2), x3.un.2.2.1, x3.un.2.2.2.1, x3.un.2.2.2.2)) _ h12 (Cl (Ai 0 Aa) F) (Cl (Ai 1 Aa) F))) fun a w W F => ?_
  refine Bc (N2 := []) (NZ2 := []) (N3 := [(some 1, b3, pz39 x3 v7 v8), (some 3, b2, pz31 p1 v3 v4)]) (NZ3 := []) F Aa Aa (all_cons (fun h => An (by kernel_rfl) h) (all_cons (fun _ => (.tail _ (.head _))) Ak)) Ak ?_
  refine Dt Aa ?_
  obtain ⟨x15, h13, H⟩ := Af H
  refine ls W F Aa (AA (v := Jint x15) W aN Aa (fun w F => MG any w (v3) (v4) (Tr31.of (p1.un.1, Tr28.of (p1.un.2.1.un.1, p1.un.2.1.un.2.1, p1.un.2.1.un.2.2.1, p1.un.2.1.un.2.2.2), p1.un.2.2.1, p1.un.2.2.2.1, p1.un.2.2.2.2)) _ h13 (Cl (Al CA h1 (Ae h_v3)) F) (Cl (Al D3 h2 (Ae h_v4)) F))) fun a w W F => ?_
  refine Bc (N2 := [(some 8, b3, pz39 x3 v7 v8), (some 12, b2, pz31 p1 v3 v4)]) (NZ2 := []) (N3 := [(some 1, b3, pz39 x3 v7 v8), (some 3, b2, pz31 p1 v3 v4), (some 8, b3, pz39 x3 v7 v8), (some 12, b2, pz31 p1 v3 v4)]) (NZ3 := []) F Aa Aa (all_cons (fun h => An (by kernel_rfl) h) (all_cons (fun h => An (by kernel_rfl) h) (all_cons (fun _ => (.head _)) (all_cons (fun _ => (.tail _ (.head _))) Ak)))) Ak ?_
  refine A9 (R := []) W Aa Aa (yC fun M Z hN hZ => NK W Aa Aa) Aa Aa fun a W => ?_
  refine A9 (R := []) W Aa Aa (yC fun M Z hN hZ => Ao W Aa) Aa Aa fun a W => ?_
  rcases bxq (decide (x14 = x15)) with hb | hb
  ·
   have H := BB (B4 hb) H
   rw [hb] at W
   clear hb
   refine Wb (R := [8]) W Aa (Ad W Aa Aa Aa Aa) Aa Aa (yC fun M Z hN hZ => Cx (cs := (C7 x3 v7 v8)) (v := Value.agg #[Jint x3.un.1, Jint x3.un.2.1.un.1, Jint x3.un.2.1.un.2.1, Jint x3.un.2.1.un.2.2.1, v7, Jint x3.un.2.2.1, Jint x3.un.2.2.2.1, v8]) W Aa (hN ((some 8), b3, (C7 x3 v7 v8)) (.tail _ (.tail _ (.head _))) Aa) I7 Aa) (by kernel_rfl) Aa fun a W => ?_
   refine Wb (R := []) W Aa (Ad W Aa Aa Aa Aa) Aa Aa (yC fun M Z hN hZ => Ao W Aa) Aa Aa fun a W => ?_
   refine Wb (R := [12]) W Aa (Ad W Aa Aa Aa Aa) Aa Aa (yC fun M Z hN hZ => Cx (cs := (EA p1 v3 v4)) (v := Value.agg #[Jint p1.un.1, Jint p1.un.2.1.un.1, Jint p1.un.2.1.un.2.1, Jint p1.un.2.1.un.2.2.1, v3, Jint p1.un.2.2.1, Jint p1.un.2.2.2.1, v4]) W Aa (hN ((some 12), b2, (EA p1 v3 v4)) (.tail _ (.tail _ (.tail _ (.head _)))) Aa) Ji Aa) (by kernel_rfl) Aa fun a W => ?_
   refine Wb (R := []) W Aa (Ad W Aa Aa Aa Aa) Aa Aa (yC fun M Z hN hZ => Ao W Aa) Aa Aa fun a W => ?_
   refine Dt Aa ?_
   refine FU (Ad W Aa Aa Aa Aa) ?_
   obtain ⟨x16, h14, H⟩ := Af H
   have F := F.freeze
   have F := F.frontZ (i := 1) Aa Aa
   have F := F.freeze
   refine AO (Ml := []) (Zl := []) (β := Value × Value) (rv := fun x => .agg #[Jint x16.un.1, Jint x16.un.2.1.un.1, Jint x16.un.2.1.un.2.1, Jint x16.un.2.1.un.2.2.1, x.1, Jint x16.un.2.2.1, Jint x16.un.2.2.2.1, x.2]) (MM := fun x => []) (ZZ := fun x => [Ch x.1 Bm x16.un.2.1.un.2.2.2, row x.2 39 DF x16.un.2.2.2.2]) W F XD Aa Aa (fun hL => KR _ w (v7) (v8) (Tr39.of (x3.un.1, Tr36.of (x3.un.2.1.un.1, x3.un.2.1.un.2.1, x3.un.2.1.un.2.2.1, x3.un.2.1.un.2.2.2), x3.un.2.2.1, x3.un.2.2.2.1, x3.un.2.2.2.2)) p3 _ h14 (F.item (i := 1) Aa) (F.item (i := 0) Aa)) fun x a w W F => ?_
   obtain ⟨v9, v10⟩ := x
   have F : sy Y w0 [(b3, (C7 x3 v7 v8)), (b2, (EA p1 v3 v4)), (b1, [Jint p0.1, v1, v2])] [Ch v9 Bm x16.un.2.1.un.2.2.2, row v10 39 DF x16.un.2.2.2.2, Ch v8 DF x3.un.2.2.2.2, Ch v7 Bm x3.un.2.1.un.2.2.2] w := F
   refine Bc (N2 := []) (NZ2 := []) (N3 := [(some 1, b3, pz39 x3 v7 v8), (some 3, b2, pz31 p1 v3 v4), (some 8, b3, pz39 x3 v7 v8), (some 12, b2, pz31 p1 v3 v4)]) (NZ3 := []) F Aa Aa (all_cons (fun h => An (by kernel_rfl) h) (all_cons (fun h => An (by kernel_rfl) h) (all_cons (fun h => An (by kernel_rfl) h) (all_cons (fun _ => (.tail _ (.head _))) Ak)))) Ak ?_
   refine Dt Aa ?_
   refine FU (Ad W Aa Aa Aa Aa) ?_
   obtain ⟨x17, h15, H⟩ := Af H
   refine AO (Ml := []) (Zl := []) (β := Value × Value) (rv := fun x => .agg #[Jint x17.un.1, Jint x17.un.2.1.un.1, Jint x17.un.2.1.un.2.1, Jint x17.un.2.1.un.2.2.1, x.1, Jint x17.un.2.2.1, Jint x17.un.2.2.2.1, x.2]) (MM := fun x => []) (ZZ := fun x => [row x.1 28 B0 x17.un.2.1.un.2.2.2, row x.2 31 Dw x17.un.2.2.2.2]) W F aU Aa Aa (fun hL => QJ _ w (v9) (v10) (Tr39.of (x16.un.1, Tr36.of (x16.un.2.1.un.1, x16.un.2.1.un.2.1, x16.un.2.1.un.2.2.1, x16.un.2.1.un.2.2.2), x16.un.2.2.1, x16.un.2.2.2.1, x16.un.2.2.2.2)) _ h15 ((Ic 0 Aa) w F).nx ((Ai 1 Aa) w F).nx) fun x a w W F => ?_
   obtain ⟨v11, v12⟩ := x
   have F : sy Y w0 [(b3, (C7 x3 v7 v8)), (b2, (EA p1 v3 v4)), (b1, [Jint p0.1, v1, v2])] [row v11 28 B0 x17.un.2.1.un.2.2.2, row v12 31 Dw x17.un.2.2.2.2, Ch v9 Bm x16.un.2.1.un.2.2.2, row v10 39 DF x16.un.2.2.2.2, Ch v8 DF x3.un.2.2.2.2, Ch v7 Bm x3.un.2.1.un.2.2.2] w := F
   refine Bc (N2 := []) (NZ2 := []) (N3 := [(some 1, b3, pz39 x3 v7 v8), (some 3, b2, pz31 p1 v3 v4), (some 8, b3, pz39 x3 v7 v8), (some 12, b2, pz31 p1 v3 v4)]) (NZ3 := []) F Aa Aa (all_cons (fun h => An (by kernel_rfl) h) (all_cons (fun h => An (by kernel_rfl) h) (all_cons (fun h => An (by kernel_rfl) h) (all_cons (fun _ => (.tail _ (.head _))) Ak)))) Ak ?_
   refine Dt Aa ?_
   refine FU (Ad W Aa Aa Aa Aa) ?_
   obtain ⟨x18, h16, H⟩ := Af H
   refine AO (Ml := []) (Zl := []) (β := Value × Value) (rv := fun x => .agg #[Jint x18.un.1, Jint x18.un.2.1.un.1, Jint x18.un.2.1.un.2.1, Jint x18.un.2.1.un.2.2.1, x.1, Jint x18.un.2.2.1, Jint x18.un.2.2.2.1, x.2]) (MM := fun x => []) (ZZ := fun x => [Ch x.1 B0 x18.un.2.1.un.2.2.2, Ch x.2 Dw x18.un.2.2.2.2]) W F XG Aa Aa (fun hL => VN _ w (v3) (v4) (Tr31.of (p1.un.1, Tr28.of (p1.un.2.1.un.1, p1.un.2.1.un.2.1, p1.un.2.1.un.2.2.1, p1.un.2.1.un.2.2.2), p1.un.2.2.1, p1.un.2.2.2.1, p1.un.2.2.2.2)) p3 _ h16 (Sl.hide CA h1 (F.old s_v3)) (Sl.hide D3 h2 (F.old s_v4))) fun x a w W F => ?_
   obtain ⟨v13, v14⟩ := x
   have F : sy Y w0 [(b3, (C7 x3 v7 v8)), (b2, (EA p1 v3 v4)), (b1, [Jint p0.1, v1, v2])] [Ch v13 B0 x18.un.2.1.un.2.2.2, Ch v14 Dw x18.un.2.2.2.2, row v11 28 B0 x17.un.2.1.un.2.2.2, row v12 31 Dw x17.un.2.2.2.2, Ch v9 Bm x16.un.2.1.un.2.2.2, row v10 39 DF x16.un.2.2.2.2, Ch v8 DF x3.un.2.2.2.2, Ch v7 Bm x3.un.2.1.un.2.2.2] w := F
   refine Bc (N2 := []) (NZ2 := []) (N3 := [(some 1, b3, pz39 x3 v7 v8), (some 3, b2, pz31 p1 v3 v4), (some 8, b3, pz39 x3 v7 v8), (some 12, b2, pz31 p1 v3 v4)]) (NZ3 := []) F Aa Aa (all_cons (fun h => An (by kernel_rfl) h) (all_cons (fun h => An (by kernel_rfl) h) (all_cons (fun h => An (by kernel_rfl) h) (all_cons (fun h => An (by kernel_rfl) h) Ak)))) Ak ?_
   refine Dt Aa ?_
   refine FU (Ad W Aa Aa Aa Aa) ?_
   obtain ⟨x19, h17, H⟩ := Af H
   refine ls W F Aa (AA (v := Value.bool x19) W aV Aa (fun w F => SH any w (v11) (v12) (v13) (v14) (Tr31.of (x17.un.1, Tr28.of (x17.un.2.1.un.1, x17.un.2.1.un.2.1, x17.un.2.1.un.2.2.1, x17.un.2.1.un.2.2.2), x17.un.2.2.1, x17.un.2.2.2.1, x17.un.2.2.2.2)) (Tr31.of (x18.un.1, Tr28.of (x18.un.2.1.un.1, x18.un.2.1.un.2.1, x18.un.2.1.un.2.2.1, x18.un.2.1.un.2.2.2), x18.un.2.2.1, x18.un.2.2.2.1, x18.un.2.2.2.2)) _ h17 (Cl (Ai 2 Aa) F) (Cl (Ai 3 Aa) F) (Cl (Ic 0 Aa) F) (Cl (Ic 1 Aa) F))) fun a w W F => ?_
   refine Bc (N2 := []) (NZ2 := []) (N3 := [(some 1, b3, pz39 x3 v7 v8), (some 3, b2, pz31 p1 v3 v4), (some 8, b3, pz39 x3 v7 v8), (some 12, b2, pz31 p1 v3 v4)]) (NZ3 := []) F Aa Aa (all_cons (fun h => An (by kernel_rfl) h) (all_cons (fun h => An (by kernel_rfl) h) (all_cons (fun h => An (by kernel_rfl) h) (all_cons (fun h => An (by kernel_rfl) h) Ak)))) Ak ?_
   refine A9 (R := []) W Aa Aa (yC fun M Z hN hZ => Bq W Aa Aa Aa) Aa Aa fun a W => ?_
   refine A9 (R := []) W Aa Aa (yC fun M Z hN hZ => Ao W Aa) Aa Aa fun a W => ?_
   rcases bxq x19 with hb | hb
   ·
    have H := BB hb H
    rw [hb] at W
    clear hb
    refine Dt Aa ?_
    refine FU (Ad W Aa Aa Aa Aa) ?_
    obtain ⟨x20, h18, H⟩ := Af H
    refine ls W F Aa (AA (v := Value.bool x20) W H7 Aa (fun w F => J2 any w _ h18 (hG.go0 F))) fun a w W F => ?_
    refine Bc (N2 := []) (NZ2 := []) (N3 := [(some 1, b3, pz39 x3 v7 v8), (some 3, b2, pz31 p1 v3 v4), (some 8, b3, pz39 x3 v7 v8), (some 12, b2, pz31 p1 v3 v4)]) (NZ3 := []) F Aa Aa (all_cons (fun h => An (by kernel_rfl) h) (all_cons (fun h => An (by kernel_rfl) h) (all_cons (fun h => An (by kernel_rfl) h) (all_cons (fun h => An (by kernel_rfl) h) Ak)))) Ak ?_
    refine A9 (R := []) W Aa Aa (yC fun M Z hN hZ => Bq W Aa Aa Aa) Aa Aa fun a W => ?_
    refine Dt Aa ?_
    refine ls W F Aa (Bj W Aa).q fun a w W F => ?_
    refine Bc (N2 := []) (NZ2 := []) (N3 := [(some 1, b3, pz39 x3 v7 v8), (some 3, b2, pz31 p1 v3 v4), (some 8, b3, pz39 x3 v7 v8), (some 12, b2, pz31 p1 v3 v4)]) (NZ3 := []) F Aa Aa (all_cons (fun h => An (by kernel_rfl) h) (all_cons (fun h => An (by kernel_rfl) h) (all_cons (fun h => An (by kernel_rfl) h) (all_cons (fun h => An (by kernel_rfl) h) Ak)))) Ak ?_
    refine FL (Ab ?_)
    have F := F.frontZ (i := 6) Aa Aa
    have F := F.frontZ (i := 7) Aa Aa
    have F := F.frontM (i := 2) Aa Aa
    have F := F.frontM (i := 2) Aa Aa
    have F := F.frontM (i := 2) Aa Aa
    have F := F.sub (M' := [(b3, (C7 x3 v7 v8)), (b2, (EA p1 v3 v4)), (b1, [Jint p0.1, v1, v2])]) (Z' := [Ch v7 Bm x3.un.2.1.un.2.2.2, Ch v8 DF x3.un.2.2.2.2]) sr (sc (sc nl))
    exact ⟨_, _, _, H, W.ra Aa, F⟩
   have H := BC (by rw [hb]; decide) H
   rw [hb] at W
   clear hb
   refine Dt Aa ?_
   refine XJ W Aa Aa Aa Aa Aa Aa Aa fun a W => ?_
   refine Bc (N2 := []) (NZ2 := []) (N3 := [(some 1, b3, pz39 x3 v7 v8), (some 3, b2, pz31 p1 v3 v4), (some 8, b3, pz39 x3 v7 v8), (some 12, b2, pz31 p1 v3 v4)]) (NZ3 := []) F Aa Aa (all_cons (fun h => An (by kernel_rfl) h) (all_cons (fun h => An (by kernel_rfl) h) (all_cons (fun h => An (by kernel_rfl) h) (all_cons (fun h => An (by kernel_rfl) h) Ak)))) Ak ?_
   refine A9 (R := []) W Aa Aa (yC fun M Z hN hZ => Bh W Aa Aa Aa) Aa Aa fun a W => ?_
   refine Dt Aa ?_
   refine ls W F Aa (Bj W Aa).q fun a w W F => ?_
   refine Bc (N2 := []) (NZ2 := []) (N3 := [(some 1, b3, pz39 x3 v7 v8), (some 3, b2, pz31 p1 v3 v4), (some 8, b3, pz39 x3 v7 v8), (some 12, b2, pz31 p1 v3 v4)]) (NZ3 := []) F Aa Aa (all_cons (fun h => An (by kernel_rfl) h) (all_cons (fun h => An (by kernel_rfl) h) (all_cons (fun h => An (by kernel_rfl) h) (all_cons (fun h => An (by kernel_rfl) h) Ak)))) Ak ?_
   refine FL (Ab ?_)
   have F := F.frontZ (i := 6) Aa Aa
   have F := F.frontZ (i := 7) Aa Aa
   have F := F.frontM (i := 2) Aa Aa
   have F := F.frontM (i := 2) Aa Aa
   have F := F.frontM (i := 2) Aa Aa
   have F := F.sub (M' := [(b3, (C7 x3 v7 v8)), (b2, (EA p1 v3 v4)), (b1, [Jint p0.1, v1, v2])]) (Z' := [Ch v7 Bm x3.un.2.1.un.2.2.2, Ch v8 DF x3.un.2.2.2.2]) sr (sc (sc nl))
   exact ⟨_, _, _, H, W.ra Aa, F⟩
  have H := BC (B1 hb) H
  rw [hb] at W
  clear hb
  iterate 4 refine V2 W Aa (A3 W Aa Aa Aa Aa Aa) Aa Aa Aa fun a W => ?_
  refine Dt Aa ?_
  refine XJ W Aa Aa Aa Aa Aa Aa Aa fun a W => ?_
  refine Bc (N2 := []) (NZ2 := []) (N3 := [(some 1, b3, pz39 x3 v7 v8), (some 3, b2, pz31 p1 v3 v4), (some 8, b3, pz39 x3 v7 v8), (some 12, b2, pz31 p1 v3 v4)]) (NZ3 := []) F Aa Aa (all_cons (fun h => An (by kernel_rfl) h) (all_cons (fun h => An (by kernel_rfl) h) (all_cons (fun h => An (by kernel_rfl) h) (all_cons (fun _ => (.tail _ (.head _))) Ak)))) Ak ?_
  refine Dt Aa ?_
  refine XJ W Aa Aa Aa Aa Aa Aa Aa fun a W => ?_
  refine Bc (N2 := []) (NZ2 := []) (N3 := [(some 1, b3, pz39 x3 v7 v8), (some 3, b2, pz31 p1 v3 v4), (some 8, b3, pz39 x3 v7 v8), (some 12, b2, pz31 p1 v3 v4)]) (NZ3 := []) F Aa Aa (all_cons (fun h => An (by kernel_rfl) h) (all_cons (fun h => An (by kernel_rfl) h) (all_cons (fun h => An (by kernel_rfl) h) (all_cons (fun _ => (.tail _ (.head _))) Ak)))) Ak ?_
  refine Dt Aa ?_
  refine XJ W Aa Aa Aa Aa Aa Aa Aa fun a W => ?_
  refine Bc (N2 := []) (NZ2 := []) (N3 := [(some 1, b3, pz39 x3 v7 v8), (some 3, b2, pz31 p1 v3 v4), (some 8, b3, pz39 x3 v7 v8), (some 12, b2, pz31 p1 v3 v4)]) (NZ3 := []) F Aa Aa (all_cons (fun h => An (by kernel_rfl) h) (all_cons (fun h => An (by kernel_rfl) h) (all_cons (fun h => An (by kernel_rfl) h) (all_cons (fun h => An (by kernel_rfl) h) Ak)))) Ak ?_
  refine Dt Aa ?_
  refine XJ W Aa Aa Aa Aa Aa Aa Aa fun a W => ?_
  refine Bc (N2 := []) (NZ2 := []) (N3 := [(some 1, b3, pz39 x3 v7 v8), (some 3, b2, pz31 p1 v3 v4), (some 8, b3, pz39 x3 v7 v8), (some 12, b2, pz31 p1 v3 v4)]) (NZ3 := []) F Aa Aa (all_cons (fun h => An (by kernel_rfl) h) (all_cons (fun h => An (by kernel_rfl) h) (all_cons (fun h => An (by kernel_rfl) h) (all_cons (fun h => An (by kernel_rfl) h) Ak)))) Ak ?_
  refine A9 (R := []) W Aa Aa (yC fun M Z hN hZ => Bh W Aa Aa Aa) Aa Aa fun a W => ?_
  refine A9 (R := []) W Aa Aa (yC fun M Z hN hZ => Ao W Aa) Aa Aa fun a W => ?_
  refine Dt Aa ?_
  refine XJ W Aa Aa Aa Aa Aa Aa Aa fun a W => ?_
  refine Bc (N2 := []) (NZ2 := []) (N3 := [(some 1, b3, pz39 x3 v7 v8), (some 3, b2, pz31 p1 v3 v4), (some 8, b3, pz39 x3 v7 v8), (some 12, b2, pz31 p1 v3 v4)]) (NZ3 := []) F Aa Aa (all_cons (fun h => An (by kernel_rfl) h) (all_cons (fun h => An (by kernel_rfl) h) (all_cons (fun h => An (by kernel_rfl) h) (all_cons (fun h => An (by kernel_rfl) h) Ak)))) Ak ?_
  refine A9 (R := []) W Aa Aa (yC fun M Z hN hZ => Bh W Aa Aa Aa) Aa Aa fun a W => ?_
  refine Dt Aa ?_
  refine ls W F Aa (Bj W Aa).q fun a w W F => ?_
  refine Bc (N2 := []) (NZ2 := []) (N3 := [(some 1, b3, pz39 x3 v7 v8), (some 3, b2, pz31 p1 v3 v4), (some 8, b3, pz39 x3 v7 v8), (some 12, b2, pz31 p1 v3 v4)]) (NZ3 := []) F Aa Aa (all_cons (fun h => An (by kernel_rfl) h) (all_cons (fun h => An (by kernel_rfl) h) (all_cons (fun h => An (by kernel_rfl) h) (all_cons (fun h => An (by kernel_rfl) h) Ak)))) Ak ?_
  refine FL (Ab ?_)
  have F := F.freeze
  have F := F.frontZ (i := 1) Aa Aa
  have F := F.freeze
  have F := F.frontZ (i := 1) Aa Aa
  have F := F.frontM (i := 2) Aa Aa
  have F := F.frontM (i := 2) Aa Aa
  have F := F.frontM (i := 2) Aa Aa
  exact ⟨_, _, _, H, W.ra Aa, F⟩
 rintro a w ⟨x11, x12, x13, hj, W, F⟩
 have hj := Ay hj
 subst hj
 have H := K2
 clear G2 K2
 refine Ah ?_
 have H := Ay H
 subst H
 refine Av (.inl Aa) W F Aa (Am W Aa) ?_
 exact ⟨rfl, F.done⟩
end
end Go.Proofs.YtgoifghhcekahaaGreatDoor
