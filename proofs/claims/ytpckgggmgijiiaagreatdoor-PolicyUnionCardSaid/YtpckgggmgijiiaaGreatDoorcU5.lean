/- The functions of layer 27, Jw. Conditions: none. -/
import Derived.Test.YtpckgggmgijiiaaGreatDoorcU4
namespace Go.Proofs.YtpckgggmgijiiaaGreatDoor
noncomputable section
open Go Go.RowKit
set_option linter.unusedVariables false
set_option linter.unusedSimpArgs false
set_option maxRecDepth 20000
theorem X4 : Has Tryz.prog 118 := CP Tryz.func118
theorem YA : Has Tryz.prog 90 := CP Tryz.func90
def Cr (fRec : Int → Tr34 → Int → Option (Bool × Int)) (p1 : Tr34) (p2 : Int) : (Int × Int) → Option ((Int × Int) ⊕ (Int ⊕ (Bool × Int)))
  | (x4, x5) => (if x4 < (p1.un.2.2.2.length : Int) then (ix p1.un.2.2.2 x4).bind fun x6 => (fRec x5 x6 (AU (p2 - 1))).bind fun x7 => (if (!x7.1) = true then some (.inr (.inr (false, x7.2))) else some (.inl (AU (x4 + 1), x7.2))) else some (.inr (.inl x5)))
def CL (fRec : Int → Tr34 → Int → Option (Bool × Int)) (p0 : Int) (p1 : Tr34) (p2 : Int) : Option (Bool × Int) := (if (AU (p0 - 1)) < 0 then some true else (if p2 < 1 then some true else (JK p1).bind fun x2 => some (!x2))).bind fun x1 => (if x1 = true then some (false, AU (p0 - 1)) else Ku (Ba (Cr fRec p1 p2) (0, AU (p0 - 1))) fun x3 => some (true, x3))
def CY : Nat → Int → Tr34 → Int → Option (Bool × Int)
  | 0 => fun _ _ _ => none
  | n + 1 => CL (CY n)
def Hd (p0 : Int) (p1 : Tr34) (p2 : Int) : Option (Bool × Int) := HC fun n => CY n p0 p1 p2
theorem J1 (fRec : Int → Tr34 → Int → Option (Bool × Int)) (ih : ∀ (Y : Nat → Prop) (X : List Nat) (w0 : World) (q_p0 : Nat) (v1 : Value) (p0 : Int) (p1 : Tr34) (p2 : Int) (r : Bool × Int) (H : fRec p0 p1 p2 = some r) (h_v1 : Sl w0 (NX X) Bj v1 p1.un.2.2.2) (hL : Stw ⟨Y, X, w0⟩ [(q_p0, [.int .i64 p0])] [] w0), Calls Tryz.prog 90 #[.pointer (some ⟨q_p0, 0, none⟩), .agg #[.int .i64 p1.un.1, .int .i64 p1.un.2.1, .int .i64 p1.un.2.2.1, v1], .int .i64 p2] w0 fun e w' => ∃ x : Unit, e = .returned (.bool r.1) ∧ Stw ⟨Y, X, w0⟩ [(q_p0, [.int .i64 r.2])] [] w') (Y : Nat → Prop) (X : List Nat) (w0 : World) (q_p0 : Nat) (v1 : Value) (p0 : Int) (p1 : Tr34) (p2 : Int) (r : Bool × Int) (H : CL fRec p0 p1 p2 = some r) (h_v1 : Sl w0 (NX X) Bj v1 p1.un.2.2.2) (hL : Stw ⟨Y, X, w0⟩ [(q_p0, [.int .i64 p0])] [] w0) :
    Calls Tryz.prog 90 #[.pointer (some ⟨q_p0, 0, none⟩), .agg #[.int .i64 p1.un.1, .int .i64 p1.un.2.1, .int .i64 p1.un.2.2.1, v1], .int .i64 p2] w0 fun e w' => ∃ x : Unit, e = .returned (.bool r.1) ∧ Stw ⟨Y, X, w0⟩ [(q_p0, [.int .i64 r.2])] [] w' := by
 refine enter Tryz.func90 Aa Tryz.ntmps90 Aa fun a W => ?_
 have F := hL
 obtain ⟨v2, h1, h_v1⟩ := h_v1.ex Co
 unfold CL at H
 refine vc tk 2 W F fun a w W F => ?_
 refine CX (cs := (F1 p1 v1)) W F Aa Aa Aa fun b1 a w W F => ?_
 refine Cv tk 6 W F fun a w W F => ?_
 refine ls W F Aa (CG W Aa).q fun a w W F => ?_
 refine Hw tk 3 [1] W F (ai fun a w W F => ?_)
 refine ls W F Aa (CG W Aa).q fun a w W F => ?_
 refine ls W F Aa (As Vw Aa Aa Aa T3 W Aa 0 Aa).q fun a w W F => ?_
 refine DZ 1 W F Aa Aa Aa T3 Aa Aa Aa fun w F => ?_
 refine Cv tk 3 W F fun a w W F => ?_
 obtain ⟨o1, G1, K1⟩ := Ag H
 refine AA (fun a w => ∃ x1 : Bool, some (x1) = some o1 ∧ Fr 44 [] [(0, .pointer (some ⟨q_p0, 0, none⟩)), (2, .int .i64 p2), (4, .pointer (some ⟨b1, 0, none⟩)), (6, .bool false), (29, .bool x1)] a ∧ Stw ⟨Y, X, w0⟩ [(b1, (F1 p1 v1)), (q_p0, [.int .i64 (AU (p0 - 1))])] [] w) ?_ ?_
 ·
  have H := G1
  clear G1 K1
  refine vc tk 2 W F fun a w W F => ?_
  refine ls W F Aa (CG W Aa).q fun a w W F => ?_
  refine Hw tk 4 [1] W F (ai fun a w W F => ?_)
  rcases bxq (decide ((AU (p0 - 1)) < 0)) with hb | hb
  ·
   have H := Cg (CQ hb) H
   rw [hb] at W
   clear hb
   refine vl tk 9 W F fun a w W F => ?_
   refine Ad ?_
   have F := F.frontM (i := 1) Aa Aa
   have F := F.frontM (i := 1) Aa Aa
   exact ⟨_, H, W.ra Aa, F⟩
  have H := Cf (CO hb) H
  rw [hb] at W
  clear hb
  refine vl tk 4 W F fun a w W F => ?_
  rcases bxq (decide (p2 < 1)) with hb | hb
  ·
   have H := Cg (CQ hb) H
   rw [hb] at W
   clear hb
   refine vl tk 5 W F fun a w W F => ?_
   refine Ad ?_
   have F := F.frontM (i := 1) Aa Aa
   have F := F.frontM (i := 1) Aa Aa
   exact ⟨_, H, W.ra Aa, F⟩
  have H := Cf (CO hb) H
  rw [hb] at W
  clear hb
  refine Hu W F (Ac W Aa Aa Aa Aa) Aa (Ao Aa) (Bu (v := Value.agg #[.int .i64 p1.un.1, .int .i64 p1.un.2.1, .int .i64 p1.un.2.2.1, v1]) 0 W Aa Aa MT Aa).q fun a w W F => ?_
  refine Iq (Ac W Aa Aa Aa Aa) ?_
  obtain ⟨x2, h2, H⟩ := Ag H
  refine ls W F Aa (AL (v := Value.bool x2) W X4 Aa (fun w F => RC any w (v1) p1 _ h2 (Er (Ak Co h1 (Ah h_v1)) F))) fun a w W F => ?_
  refine vl tk 3 W F fun a w W F => ?_
  refine Ad ?_
  have F := F.frontM (i := 1) Aa Aa
  have F := F.frontM (i := 1) Aa Aa
  exact ⟨_, H, W.ra Aa, F⟩
 rintro a w ⟨x1, hj, W, F⟩
 have hj := AC hj
 subst hj
 have H := K1
 clear G1 K1
 refine CK W Aa H (fun W H => ?_) fun W H => ?_
 ·
  refine vc tk 5 W F fun a w W F => ?_
  refine Am (Az ?_)
  have H := AC H
  subst H
  refine Ax (.inl Aa) W F Aa (Ap W Aa) ?_
  have F := F.frontM (i := 1) Aa Aa
  have F := F.sub (M' := [(q_p0, [.int .i64 (AU (p0 - 1))])]) (Z' := []) (List.Sublist.cons_cons _ (List.nil_sublist _)) (List.Sublist.refl _)
  exact ⟨(), Aa, F⟩
 refine Bc (Ad ?_)
 obtain ⟨o2, G2, K2, L2⟩ := RM H
 refine AA (fun a w => ∃ x3 : Int, some (Sum.inl x3) = some o2 ∧ Fr 44 [] [(6, .bool false)] a ∧ Stw ⟨Y, X, w0⟩ [(b1, [.int .i64 p1.un.1, .int .i64 p1.un.2.1, .int .i64 p1.un.2.2.1, v1]), (q_p0, [.int .i64 x3])] [] w) ?_ ?_
 ·
  have H := G2
  clear G2 K2
  refine FR tk 4 [0] W F (ai fun a w W F => ?_)
  refine ls W F Aa (C2 (r := Bj) (l := p1.un.2.2.2) Lk Aa W Aa (Ak Co h1 (Ah h_v1))).q fun a w W F => ?_
  refine Cv tk 4 W F fun a w W F => ?_
  have F := F.frontM (i := 1) Aa Aa
  have F := F.frontM (i := 1) Aa Aa
  refine BN H (fun s a w => Fr 44 [] [(0, .pointer (some ⟨q_p0, 0, none⟩)), (2, .int .i64 p2), (6, .bool false), (31, v1), (32, .int .i64 (p1.un.2.2.2.length : Int)), (33, .int .i64 s.1)] a ∧ Stw ⟨Y, X, w0⟩ [(b1, (F1 p1 v1)), (q_p0, [.int .i64 s.2])] [] w) ⟨W.ra Aa, F⟩ fun s o a w H L3 hR => ?_
  obtain ⟨x4, x5⟩ := s
  obtain ⟨W, F⟩ := hR
  have W : Fr 44 [] [(0, .pointer (some ⟨q_p0, 0, none⟩)), (2, .int .i64 p2), (6, .bool false), (31, v1), (32, .int .i64 (p1.un.2.2.2.length : Int)), (33, .int .i64 x4)] a := W
  have F : Stw ⟨Y, X, w0⟩ [(b1, [.int .i64 p1.un.1, .int .i64 p1.un.2.1, .int .i64 p1.un.2.2.1, v1]), (q_p0, [.int .i64 x5])] [] w := F
  rw [Cr] at H
  refine vc tk 6 W F fun a w W F => ?_
  refine BU W Aa H (fun W H => ?_) fun W H => ?_
  ·
   refine Gp tk 6 W F fun a w W F => ?_
   obtain ⟨x6, h3, H⟩ := Ag H
   obtain ⟨v3, h4, h5⟩ := DQ h1 h3
   have h6 : J4 v3 = [.int .i64 x6.un.1, .int .i64 x6.un.2.1, .int .i64 x6.un.2.2.1, (v3.2.2.2.1)] := congrArg (fun q : Tr34 => ([.int .i64 q.un.1, .int .i64 q.un.2.1, .int .i64 q.un.2.2.1, (v3.2.2.2.1)] : List Value)) h5
   refine ls W F Aa (Aw (r := Gr) Tk W Aa Aa (Ah h_v1) h4).q fun a w W F => ?_
   refine ls W F Aa (An (y := Value.agg #[.int .i64 x6.un.1, .int .i64 x6.un.2.1, .int .i64 x6.un.2.2.1, (v3.2.2.2.1)]) (j := 0) (i := x4) (enc := J4) W Aa Aa (Ah h_v1) h4 Qn MT (by rw [h6]; rfl)).q fun a w W F => ?_
   refine AF (cs := (LH)) W F Aa Uw Aa fun b2 a w W F => ?_
   refine DZ 0 W F Aa Aa Aa MT Aa Aa (Af Aa (Af Aa (Af Aa (Af ((Br (Ah h_v1) h4 (Ai.snd (Ai.snd (Ai.snd Ai.here))) (congrArg (fun q : Tr34 => q.un.2.2.2) h5)) _ F).one CT)))) fun w F => ?_
   refine Gz tk 8 [0] W F (ai fun a w W F => ?_)
   obtain ⟨x7, h7, H⟩ := Ag H
   have F := F.frontM (i := 2) Aa Aa
   refine A7 (Ml := [(q_p0, [.int .i64 x5])]) (Zl := []) (β := Unit) (rv := fun x => .bool x7.1) (MM := fun x => [(q_p0, [.int .i64 x7.2])]) (ZZ := fun x => []) W F YA Aa Aa (fun hL => ih _ _ w q_p0 ((v3.2.2.2.1)) x5 x6 (AU (p2 - 1)) _ h7 (Sl.at_ (F.roX h_v1 (fun g hg => Gg hg)) h4 (Ai.snd (Ai.snd (Ai.snd Ai.here))) (congrArg (fun q : Tr34 => q.un.2.2.2) h5)) hL) fun x a w W F => ?_
   have F : Stw ⟨Y, X, w0⟩ [(q_p0, [.int .i64 x7.2]), (b2, [.int .i64 x6.un.1, .int .i64 x6.un.2.1, .int .i64 x6.un.2.2.1, (v3.2.2.2.1)]), (b1, (F1 p1 v1))] [] w := F
   refine Cv tk 3 W F fun a w W F => ?_
   refine CK W Aa H (fun W H => ?_) fun W H => ?_
   ·
    refine vc tk 5 W F fun a w W F => ?_
    refine Am (AH ?_)
    iterate 2 refine Az ?_
    refine AH (Az ?_)
    have H := L3 _ H
    have H := L2 _ H
    have H := AC H
    subst H
    refine Ax (.inl Aa) W F Aa (Ap W Aa) ?_
    have F := F.sub (M' := [(q_p0, [.int .i64 x7.2])]) (Z' := []) (List.Sublist.cons_cons _ (List.nil_sublist _)) (List.Sublist.refl _)
    exact ⟨(), Aa, F⟩
   refine Bc (AM ?_)
   refine vn tk 4 W F fun a w W F => ?_
   refine Ad ?_
   have F := F.frontM (i := 2) Aa Aa
   have F := F.sub (M' := [(b1, [.int .i64 p1.un.1, .int .i64 p1.un.2.1, .int .i64 p1.un.2.2.1, v1]), (q_p0, [.int .i64 x7.2])]) (Z' := []) (List.Sublist.cons_cons _ (List.Sublist.cons_cons _ (List.nil_sublist _))) (List.Sublist.refl _)
   exact ⟨_, H, W.ra Aa, F⟩
  refine BB ?_
  iterate 2 refine BR ?_
  refine Bx (Ad ?_)
  have F := F.frontM (i := 1) Aa Aa
  have F := F.frontM (i := 1) Aa Aa
  have H := L3 _ H
  exact ⟨_, H, W.ra Aa, F⟩
 rintro a w ⟨x3, hj, W, F⟩
 have H := K2 _ hj
 clear hj G2 K2 L2
 refine vc tk 5 W F fun a w W F => ?_
 refine Am ?_
 have H := AC H
 subst H
 refine Ax (.inl Aa) W F Aa (Ap W Aa) ?_
 have F := F.frontM (i := 1) Aa Aa
 have F := F.sub (M' := [(q_p0, [.int .i64 x3])]) (Z' := []) (List.Sublist.cons_cons _ (List.nil_sublist _)) (List.Sublist.refl _)
 exact ⟨(), Aa, F⟩
theorem Kb : ∀ (n : Nat) (Y : Nat → Prop) (X : List Nat) (w0 : World) (q_p0 : Nat) (v1 : Value) (p0 : Int) (p1 : Tr34) (p2 : Int) (r : Bool × Int) (H : CY n p0 p1 p2 = some r) (h_v1 : Sl w0 (NX X) Bj v1 p1.un.2.2.2) (hL : Stw ⟨Y, X, w0⟩ [(q_p0, [.int .i64 p0])] [] w0), Calls Tryz.prog 90 #[.pointer (some ⟨q_p0, 0, none⟩), .agg #[.int .i64 p1.un.1, .int .i64 p1.un.2.1, .int .i64 p1.un.2.2.1, v1], .int .i64 p2] w0 fun e w' => ∃ x : Unit, e = .returned (.bool r.1) ∧ Stw ⟨Y, X, w0⟩ [(q_p0, [.int .i64 r.2])] [] w' := by
  intro n
  induction n with
  | zero => intro Y X w0 q_p0 v1 p0 p1 p2 r H; exact nomatch H
  | succ n ih => intro Y X w0 q_p0 v1 p0 p1 p2 r H h_v1 hL; exact J1 (CY n) ih Y X w0 q_p0 v1 p0 p1 p2 r H h_v1 hL
theorem Kp (Y : Nat → Prop) (X : List Nat) (w0 : World) (q_p0 : Nat) (v1 : Value) (p0 : Int) (p1 : Tr34) (p2 : Int) (r : Bool × Int) (H : Hd p0 p1 p2 = some r) (h_v1 : Sl w0 (NX X) Bj v1 p1.un.2.2.2) (hL : Stw ⟨Y, X, w0⟩ [(q_p0, [.int .i64 p0])] [] w0) :
    Calls Tryz.prog 90 #[.pointer (some ⟨q_p0, 0, none⟩), .agg #[.int .i64 p1.un.1, .int .i64 p1.un.2.1, .int .i64 p1.un.2.2.1, v1], .int .i64 p2] w0 fun e w' => ∃ x : Unit, e = .returned (.bool r.1) ∧ Stw ⟨Y, X, w0⟩ [(q_p0, [.int .i64 r.2])] [] w' := by
  obtain ⟨n, H⟩ := CZ H
  exact Kb n Y X w0 q_p0 v1 p0 p1 p2 r H h_v1 hL
def IV (p0 : Tr34) : Option Bool := (Hd 64 p0 8).bind fun x1 => some x1.1
theorem P5 (Y : Nat → Prop) (w0 : World) (v1 : Value) (p0 : Tr34) (r : Bool) (H : IV p0 = some r) (h_v1 : Sl w0 (NX []) Bj v1 p0.un.2.2.2) :
    Calls Tryz.prog 66 #[.agg #[.int .i64 p0.un.1, .int .i64 p0.un.2.1, .int .i64 p0.un.2.2.1, v1]] w0 fun e w' => e = .returned (.bool r) ∧ Below w0.heap.size w0 w' := by
 refine enter Tryz.func66 Aa Tryz.ntmps66 Aa fun a W => ?_
 have F := Stw.start Y w0
 obtain ⟨v2, h1, h_v1⟩ := h_v1.ex Co
 unfold IV at H
 refine vc tk 2 W F fun a w W F => ?_
 refine CX (cs := (F1 p0 v1)) W F Aa Aa Aa fun b1 a w W F => ?_
 refine Cv tk 5 W F fun a w W F => ?_
 refine ls W F Aa (CM (v := Value.agg #[.int .i64 64]) XS W Aa Aa Aa).q fun a w W F => ?_
 refine AF (cs := [.int .i64 0]) W F Aa Yf Aa fun b2 a w W F => ?_
 refine DZ 0 W F Aa Aa Aa XT Aa Aa Aa fun w F => ?_
 refine Gz tk 5 [1] W F (ai fun a w W F => ?_)
 obtain ⟨x1, h2, H⟩ := Ag H
 refine A7 (Ml := [(b2, [.int .i64 64])]) (Zl := []) (β := Unit) (rv := fun x => .bool x1.1) (MM := fun x => [(b2, [.int .i64 x1.2])]) (ZZ := fun x => []) W F YA Aa Aa (fun hL => Kp _ _ w b2 (v1) 64 p0 8 _ h2 (Sl.hide Co h1 (F.roX h_v1 (fun g hg => Gg hg))) hL) fun x a w W F => ?_
 have F : Stw ⟨Y, [], w0⟩ [(b2, [.int .i64 x1.2]), (b1, [.int .i64 p0.un.1, .int .i64 p0.un.2.1, .int .i64 p0.un.2.2.1, v1])] [] w := F
 refine Cv tk 3 W F fun a w W F => ?_
 refine Am ?_
 have H := AC H
 subst H
 refine Ax (.inl Aa) W F Aa (Ap W Aa) ?_
 exact ⟨rfl, F.done⟩
theorem Zj : Has Tryz.prog 66 := CP Tryz.func66
theorem Yz : Has Tryz.prog 34 := CP Tryz.func34
def D9 (fRec : Tr34 → Option Int) (p0 : Tr34) : (Int × Int) → Option ((Int × Int) ⊕ Int)
  | (x2, x3) => (if x3 < (p0.un.2.2.2.length : Int) then (ix p0.un.2.2.2 x3).bind fun x4 => (fRec x4).bind fun x5 => some (.inl (AU (x2 + x5), AU (x3 + 1))) else some (.inr x2))
def EU (fRec : Tr34 → Option Int) (p0 : Tr34) : Option Int := (Ba (D9 fRec p0) (1, 0)).bind fun x1 => some x1
def FC : Nat → Tr34 → Option Int
  | 0 => fun _ => none
  | n + 1 => EU (FC n)
def Nb (p0 : Tr34) : Option Int := HC fun n => FC n p0
theorem PG (fRec : Tr34 → Option Int) (ih : ∀ (Y : Nat → Prop) (w0 : World) (v1 : Value) (p0 : Tr34) (r : Int) (H : fRec p0 = some r) (h_v1 : Sl w0 (NX []) Bj v1 p0.un.2.2.2), Calls Tryz.prog 34 #[.agg #[.int .i64 p0.un.1, .int .i64 p0.un.2.1, .int .i64 p0.un.2.2.1, v1]] w0 fun e w' => e = .returned (.int .i64 r) ∧ Below w0.heap.size w0 w') (Y : Nat → Prop) (w0 : World) (v1 : Value) (p0 : Tr34) (r : Int) (H : EU fRec p0 = some r) (h_v1 : Sl w0 (NX []) Bj v1 p0.un.2.2.2) :
    Calls Tryz.prog 34 #[.agg #[.int .i64 p0.un.1, .int .i64 p0.un.2.1, .int .i64 p0.un.2.2.1, v1]] w0 fun e w' => e = .returned (.int .i64 r) ∧ Below w0.heap.size w0 w' := by
 refine enter Tryz.func34 Aa Tryz.ntmps34 Aa fun a W => ?_
 have F := Stw.start Y w0
 obtain ⟨v2, h1, h_v1⟩ := h_v1.ex Co
 unfold EU at H
 refine vc tk 2 W F fun a w W F => ?_
 refine CX (cs := (F1 p0 v1)) W F Aa Aa Aa fun b1 a w W F => ?_
 refine Cv tk 8 W F fun a w W F => ?_
 obtain ⟨o1, G1, K1⟩ := Ag H
 refine AA (fun a w => ∃ x1 : Int, some (x1) = some o1 ∧ Fr 19 [] [(2, .int .i64 0), (3, .int .i64 x1)] a ∧ Stw ⟨Y, [], w0⟩ (MA b1 p0 v1) [] w) ?_ ?_
 ·
  have H := G1
  clear G1 K1
  refine FR tk 4 [0] W F (ai fun a w W F => ?_)
  refine ls W F Aa (C2 (r := Bj) (l := p0.un.2.2.2) Lk Aa W Aa (Ak Co h1 (Ah h_v1))).q fun a w W F => ?_
  refine Cv tk 4 W F fun a w W F => ?_
  refine BN H (fun s a w => Fr 19 [] [(2, .int .i64 0), (3, .int .i64 s.1), (7, v1), (8, .int .i64 (p0.un.2.2.2.length : Int)), (9, .int .i64 s.2)] a ∧ Stw ⟨Y, [], w0⟩ (MA b1 p0 v1) [] w) ⟨W.ra Aa, F⟩ fun s o a w H L2 hR => ?_
  obtain ⟨x2, x3⟩ := s
  obtain ⟨W, F⟩ := hR
  have W : Fr 19 [] [(2, .int .i64 0), (3, .int .i64 x2), (7, v1), (8, .int .i64 (p0.un.2.2.2.length : Int)), (9, .int .i64 x3)] a := W
  have F : Stw ⟨Y, [], w0⟩ (MA b1 p0 v1) [] w := F
  rw [D9] at H
  refine vc tk 6 W F fun a w W F => ?_
  refine BU W Aa H (fun W H => ?_) fun W H => ?_
  ·
   refine Gp tk 6 W F fun a w W F => ?_
   obtain ⟨x4, h2, H⟩ := Ag H
   obtain ⟨v3, h3, h4⟩ := DQ h1 h2
   have h5 : J4 v3 = [.int .i64 x4.un.1, .int .i64 x4.un.2.1, .int .i64 x4.un.2.2.1, (v3.2.2.2.1)] := congrArg (fun q : Tr34 => ([.int .i64 q.un.1, .int .i64 q.un.2.1, .int .i64 q.un.2.2.1, (v3.2.2.2.1)] : List Value)) h4
   refine ls W F Aa (Aw (r := Gr) Tk W Aa Aa (Ah h_v1) h3).q fun a w W F => ?_
   refine ls W F Aa (An (y := Value.agg #[.int .i64 x4.un.1, .int .i64 x4.un.2.1, .int .i64 x4.un.2.2.1, (v3.2.2.2.1)]) (j := 0) (i := x3) (enc := J4) W Aa Aa (Ah h_v1) h3 Qn MT (by rw [h5]; rfl)).q fun a w W F => ?_
   refine AF (cs := (LH)) W F Aa Uw Aa fun b2 a w W F => ?_
   refine DZ 0 W F Aa Aa Aa MT Aa Aa (Af Aa (Af Aa (Af Aa (Af ((Br (Ah h_v1) h3 (Ai.snd (Ai.snd (Ai.snd Ai.here))) (congrArg (fun q : Tr34 => q.un.2.2.2) h4)) _ F).one CT)))) fun w F => ?_
   refine Gz tk 5 [0] W F (ai fun a w W F => ?_)
   obtain ⟨x5, h6, H⟩ := Ag H
   refine ls W F Aa (AL (v := Value.int .i64 x5) W Yz Aa (fun w F => ih any w ((v3.2.2.2.1)) x4 _ h6 (Er (Br (Ah h_v1) h3 (Ai.snd (Ai.snd (Ai.snd Ai.here))) (congrArg (fun q : Tr34 => q.un.2.2.2) h4)) F))) fun a w W F => ?_
   refine vl tk 3 W F fun a w W F => ?_
   refine AM ?_
   refine vn tk 4 W F fun a w W F => ?_
   refine Ad ?_
   have F := F.frontM (i := 1) Aa Aa
   have F := F.sub (M' := (MA b1 p0 v1)) (Z' := []) (List.Sublist.cons_cons _ (List.nil_sublist _)) (List.Sublist.refl _)
   exact ⟨_, H, W.ra Aa, F⟩
  refine BB ?_
  iterate 2 refine BR ?_
  refine Bx (Ad ?_)
  have H := L2 _ H
  exact ⟨_, H, W.ra Aa, F⟩
 rintro a w ⟨x1, hj, W, F⟩
 have hj := AC hj
 subst hj
 have H := K1
 clear G1 K1
 refine vc tk 6 W F fun a w W F => ?_
 refine Am ?_
 have H := AC H
 subst H
 refine Ax (.inl Aa) W F Aa (Ap W Aa) ?_
 exact ⟨rfl, F.done⟩
theorem P9 : ∀ (n : Nat) (Y : Nat → Prop) (w0 : World) (v1 : Value) (p0 : Tr34) (r : Int) (H : FC n p0 = some r) (h_v1 : Sl w0 (NX []) Bj v1 p0.un.2.2.2), Calls Tryz.prog 34 #[.agg #[.int .i64 p0.un.1, .int .i64 p0.un.2.1, .int .i64 p0.un.2.2.1, v1]] w0 fun e w' => e = .returned (.int .i64 r) ∧ Below w0.heap.size w0 w' := by
  intro n
  induction n with
  | zero => intro Y w0 v1 p0 r H; exact nomatch H
  | succ n ih => intro Y w0 v1 p0 r H h_v1; exact PG (FC n) ih Y w0 v1 p0 r H h_v1
theorem Ru (Y : Nat → Prop) (w0 : World) (v1 : Value) (p0 : Tr34) (r : Int) (H : Nb p0 = some r) (h_v1 : Sl w0 (NX []) Bj v1 p0.un.2.2.2) :
    Calls Tryz.prog 34 #[.agg #[.int .i64 p0.un.1, .int .i64 p0.un.2.1, .int .i64 p0.un.2.2.1, v1]] w0 fun e w' => e = .returned (.int .i64 r) ∧ Below w0.heap.size w0 w' := by
  obtain ⟨n, H⟩ := CZ H
  exact P9 n Y w0 v1 p0 r H h_v1
theorem YD : Has Tryz.prog 31 := CP Tryz.func31
abbrev St (a0 : Nat) (a1 : Tr37) (a2 : Value) (a3 : Value) (a4 : Nat) (a5 : Int) : List (Nat × List Value) := [(a0, [.int .i64 a1.un.1, .int .i64 a1.un.2.1.un.1, .int .i64 a1.un.2.1.un.2.1, .int .i64 a1.un.2.1.un.2.2.1, a2, .int .i64 a1.un.2.2.1, .int .i64 a1.un.2.2.2.1, a3]), (a4, [.int .i64 a5])]
def Cd (fRec : Int → Tr37 → Int → Option (Bool × Int)) (p1 : Tr37) (p2 : Int) : (Int × Int) → Option ((Int × Int) ⊕ (Int ⊕ (Bool × Int)))
  | (x7, x8) => (if x7 < (p1.un.2.2.2.2.length : Int) then (ix p1.un.2.2.2.2 x7).bind fun x9 => (fRec x8 (Tr37.of (x9.un.1, Tr34.of (x9.un.2.1.un.1, x9.un.2.1.un.2.1, x9.un.2.1.un.2.2.1, x9.un.2.1.un.2.2.2), x9.un.2.2.1, x9.un.2.2.2.1, x9.un.2.2.2.2)) (AU (p2 - 1))).bind fun x10 => (if (!x10.1) = true then some (.inr (.inr (false, x10.2))) else some (.inl (AU (x7 + 1), x10.2))) else some (.inr (.inl x8)))
def Cu (fRec : Int → Tr37 → Int → Option (Bool × Int)) (p0 : Int) (p1 : Tr37) (p2 : Int) : Option (Bool × Int) := (if p0 < 1 then some true else (if p2 < 1 then some true else (H2 (Tr37.of (p1.un.1, Tr34.of (p1.un.2.1.un.1, p1.un.2.1.un.2.1, p1.un.2.1.un.2.2.1, p1.un.2.1.un.2.2.2), p1.un.2.2.1, p1.un.2.2.2.1, p1.un.2.2.2.2))).bind fun x2 => some (!x2))).bind fun x1 => (if x1 = true then some (false, p0) else Ku (if (decide (p1.un.1 = 1) || decide (p1.un.1 = 5)) = true then (IV (Tr34.of (p1.un.2.1.un.1, p1.un.2.1.un.2.1, p1.un.2.1.un.2.2.1, p1.un.2.1.un.2.2.2))).bind fun x4 => (if (!x4) = true then some (.inr (false, AU (p0 - 1))) else (Nb (Tr34.of (p1.un.2.1.un.1, p1.un.2.1.un.2.1, p1.un.2.1.un.2.2.1, p1.un.2.1.un.2.2.2))).bind fun x5 => some (.inl (AU ((AU (p0 - 1)) - x5)))) else some (.inl (AU (p0 - 1)))) fun x3 => Ku (Ba (Cd fRec p1 p2) (0, x3)) fun x6 => some (decide (0 ≤ x6), x6))
def CA : Nat → Int → Tr37 → Int → Option (Bool × Int)
  | 0 => fun _ _ _ => none
  | n + 1 => Cu (CA n)
def Gy (p0 : Int) (p1 : Tr37) (p2 : Int) : Option (Bool × Int) := HC fun n => CA n p0 p1 p2
theorem Ju (fRec : Int → Tr37 → Int → Option (Bool × Int)) (ih : ∀ (Y : Nat → Prop) (X : List Nat) (w0 : World) (q_p0 : Nat) (v1 : Value) (v2 : Value) (p0 : Int) (p1 : Tr37) (p2 : Int) (r : Bool × Int) (H : fRec p0 p1 p2 = some r) (h_v1 : Sl w0 (NX X) Bj v1 p1.un.2.1.un.2.2.2) (h_v2 : Sl w0 (NX X) Bl v2 p1.un.2.2.2.2) (hL : Stw ⟨Y, X, w0⟩ [(q_p0, [.int .i64 p0])] [] w0), Calls Tryz.prog 31 #[.pointer (some ⟨q_p0, 0, none⟩), .agg #[.int .i64 p1.un.1, .int .i64 p1.un.2.1.un.1, .int .i64 p1.un.2.1.un.2.1, .int .i64 p1.un.2.1.un.2.2.1, v1, .int .i64 p1.un.2.2.1, .int .i64 p1.un.2.2.2.1, v2], .int .i64 p2] w0 fun e w' => ∃ x : Unit, e = .returned (.bool r.1) ∧ Stw ⟨Y, X, w0⟩ [(q_p0, [.int .i64 r.2])] [] w') (Y : Nat → Prop) (X : List Nat) (w0 : World) (q_p0 : Nat) (v1 : Value) (v2 : Value) (p0 : Int) (p1 : Tr37) (p2 : Int) (r : Bool × Int) (H : Cu fRec p0 p1 p2 = some r) (h_v1 : Sl w0 (NX X) Bj v1 p1.un.2.1.un.2.2.2) (h_v2 : Sl w0 (NX X) Bl v2 p1.un.2.2.2.2) (hL : Stw ⟨Y, X, w0⟩ [(q_p0, [.int .i64 p0])] [] w0) :
    Calls Tryz.prog 31 #[.pointer (some ⟨q_p0, 0, none⟩), .agg #[.int .i64 p1.un.1, .int .i64 p1.un.2.1.un.1, .int .i64 p1.un.2.1.un.2.1, .int .i64 p1.un.2.1.un.2.2.1, v1, .int .i64 p1.un.2.2.1, .int .i64 p1.un.2.2.2.1, v2], .int .i64 p2] w0 fun e w' => ∃ x : Unit, e = .returned (.bool r.1) ∧ Stw ⟨Y, X, w0⟩ [(q_p0, [.int .i64 r.2])] [] w' := by
 refine enter Tryz.func31 Aa Tryz.ntmps31 Aa fun a W => ?_
 have F := hL
 obtain ⟨v3, h1, h_v1⟩ := h_v1.ex Co
 obtain ⟨v4, h2, h_v2⟩ := h_v2.ex Dy
 unfold Cu at H
 refine vc tk 2 W F fun a w W F => ?_
 refine CX (cs := (BE p1 v1 v2)) W F Aa Aa Aa fun b1 a w W F => ?_
 refine Cv tk 4 W F fun a w W F => ?_
 obtain ⟨o1, G1, K1⟩ := Ag H
 refine AA (fun a w => ∃ x1 : Bool, some (x1) = some o1 ∧ Fr 71 [] [(0, .pointer (some ⟨q_p0, 0, none⟩)), (2, .int .i64 p2), (4, .pointer (some ⟨b1, 0, none⟩)), (6, .bool false), (22, .bool x1)] a ∧ Stw ⟨Y, X, w0⟩ (St b1 p1 v1 v2 q_p0 p0) [] w) ?_ ?_
 ·
  have H := G1
  clear G1 K1
  refine vc tk 2 W F fun a w W F => ?_
  refine ls W F Aa (CG W Aa).q fun a w W F => ?_
  refine Hw tk 4 [1] W F (ai fun a w W F => ?_)
  rcases bxq (decide (p0 < 1)) with hb | hb
  ·
   have H := Cg (CQ hb) H
   rw [hb] at W
   clear hb
   refine vl tk 9 W F fun a w W F => ?_
   refine Ad ?_
   have F := F.frontM (i := 1) Aa Aa
   have F := F.frontM (i := 1) Aa Aa
   exact ⟨_, H, W.ra Aa, F⟩
  have H := Cf (CO hb) H
  rw [hb] at W
  clear hb
  refine vl tk 4 W F fun a w W F => ?_
  rcases bxq (decide (p2 < 1)) with hb | hb
  ·
   have H := Cg (CQ hb) H
   rw [hb] at W
   clear hb
   refine vl tk 5 W F fun a w W F => ?_
   refine Ad ?_
   have F := F.frontM (i := 1) Aa Aa
   have F := F.frontM (i := 1) Aa Aa
   exact ⟨_, H, W.ra Aa, F⟩
  have H := Cf (CO hb) H
  rw [hb] at W
  clear hb
  refine Hu W F (Ac W Aa Aa Aa Aa) Aa (Ao Aa) (Bu (v := Value.agg #[.int .i64 p1.un.1, .int .i64 p1.un.2.1.un.1, .int .i64 p1.un.2.1.un.2.1, .int .i64 p1.un.2.1.un.2.2.1, v1, .int .i64 p1.un.2.2.1, .int .i64 p1.un.2.2.2.1, v2]) 0 W Aa Aa Is Aa).q fun a w W F => ?_
  refine Iq (Ac W Aa Aa Aa Aa) ?_
  obtain ⟨x2, h3, H⟩ := Ag H
  refine ls W F Aa (AL (v := Value.bool x2) W Y1 Aa (fun w F => PB any w (v1) (v2) (Tr37.of (p1.un.1, Tr34.of (p1.un.2.1.un.1, p1.un.2.1.un.2.1, p1.un.2.1.un.2.2.1, p1.un.2.1.un.2.2.2), p1.un.2.2.1, p1.un.2.2.2.1, p1.un.2.2.2.2)) _ h3 (Er (Ak Co h1 (Ah h_v1)) F) (Er (Ak Dy h2 (Ah h_v2)) F))) fun a w W F => ?_
  refine vl tk 3 W F fun a w W F => ?_
  refine Ad ?_
  have F := F.frontM (i := 1) Aa Aa
  have F := F.frontM (i := 1) Aa Aa
  exact ⟨_, H, W.ra Aa, F⟩
 rintro a w ⟨x1, hj, W, F⟩
 have hj := AC hj
 subst hj
 have H := K1
 clear G1 K1
 refine CK W Aa H (fun W H => ?_) fun W H => ?_
 ·
  refine vc tk 5 W F fun a w W F => ?_
  refine Am (Az ?_)
  have H := AC H
  subst H
  refine Ax (.inl Aa) W F Aa (Ap W Aa) ?_
  have F := F.frontM (i := 1) Aa Aa
  have F := F.sub (M' := [(q_p0, [.int .i64 p0])]) (Z' := []) (List.Sublist.cons_cons _ (List.nil_sublist _)) (List.Sublist.refl _)
  exact ⟨(), Aa, F⟩
 refine Gp tk 5 W F fun a w W F => ?_
 refine ls W F Aa (CG W Aa).q fun a w W F => ?_
 refine Hw tk 3 [1] W F (ai fun a w W F => ?_)
 refine ls W F Aa (CG W Aa).q fun a w W F => ?_
 refine ls W F Aa (As UO Aa Aa Aa T3 W Aa 0 Aa).q fun a w W F => ?_
 refine DZ 1 W F Aa Aa Aa T3 Aa Aa Aa fun w F => ?_
 refine Fd (Ad ?_)
 obtain ⟨o2, G2, K2, L2⟩ := RM H
 refine AA (fun a w => ∃ x3 : Int, some (Sum.inl x3) = some o2 ∧ Fr 71 [] [(0, .pointer (some ⟨q_p0, 0, none⟩)), (2, .int .i64 p2), (4, .pointer (some ⟨b1, 0, none⟩)), (6, .bool false)] a ∧ Stw ⟨Y, X, w0⟩ (St b1 p1 v1 v2 q_p0 x3) [] w) ?_ ?_
 ·
  have H := G2
  clear G2 K2
  refine AA (fun a w => Fr 71 [] [(0, .pointer (some ⟨q_p0, 0, none⟩)), (2, .int .i64 p2), (4, .pointer (some ⟨b1, 0, none⟩)), (6, .bool false), (37, .bool (decide (p1.un.1 = 1) || decide (p1.un.1 = 5)))] a ∧ Stw ⟨Y, X, w0⟩ [(b1, (BE p1 v1 v2)), (q_p0, [.int .i64 (AU (p0 - 1))])] [] w) ?_ ?_
  ·
   refine FR tk 5 [0] W F (ai fun a w W F => ?_)
   rcases bxq (decide (p1.un.1 = 1)) with hb0 | hb0
   ·
    rw [hb0] at W
    refine vl tk 5 W F fun a w W F => ?_
    refine Ad ?_
    exact ⟨W.re ⟨rfl, Aa, Aa, Aa, (DX (by try rw [hb0]; all_goals simp only [DW])), trivial⟩, F⟩
   rw [hb0] at W
   refine Hw tk 5 [0] W F (ai fun a w W F => ?_)
   refine Ad ?_
   exact ⟨W.re ⟨rfl, Aa, Aa, Aa, (DX (by try rw [hb0]; all_goals simp only [DW])), trivial⟩, F⟩
  rintro a w ⟨W, F⟩
  refine CK W Aa H (fun W H => ?_) fun W H => ?_
  ·
   refine FR tk 5 [0] W F (ai fun a w W F => ?_)
   obtain ⟨x4, h4, H⟩ := Ag H
   refine ls W F Aa (AL (v := Value.bool x4) W Zj Aa (fun w F => P5 any w (v1) (Tr34.of (p1.un.2.1.un.1, p1.un.2.1.un.2.1, p1.un.2.1.un.2.2.1, p1.un.2.1.un.2.2.2)) _ h4 (Er (Ak Co h1 (Ah h_v1)) F))) fun a w W F => ?_
   refine Cv tk 3 W F fun a w W F => ?_
   refine CK W Aa H (fun W H => ?_) fun W H => ?_
   ·
    refine vc tk 5 W F fun a w W F => ?_
    refine Am ?_
    iterate 2 refine Az ?_
    have H := L2 _ H
    have H := AC H
    subst H
    refine Ax (.inl Aa) W F Aa (Ap W Aa) ?_
    have F := F.frontM (i := 1) Aa Aa
    have F := F.sub (M' := [(q_p0, [.int .i64 (AU (p0 - 1))])]) (Z' := []) (List.Sublist.cons_cons _ (List.nil_sublist _)) (List.Sublist.refl _)
    exact ⟨(), Aa, F⟩
   refine Gp tk 2 W F fun a w W F => ?_
   refine KU 10 F MO (by kernel_rfl) ?_
   refine qs W Aa (Aq W Aa).q fun a W => ?_
   refine qs W Aa (CG W Aa).q fun a W => ?_
   refine qs W Aa (As UO Aa Aa Aa T3 W Aa 0 Aa).q fun a W => ?_
   refine qs W Aa (Bu (v := Value.int .i64 (AU (p0 - 1))) 1 W Aa Aa T3 Aa).q fun a W => ?_
   refine qs W Aa (As JH Aa Aa Aa MT W Aa 1 Aa).q fun a W => ?_
   refine qs W Aa (Bu (v := Value.agg #[.int .i64 p1.un.2.1.un.1, .int .i64 p1.un.2.1.un.2.1, .int .i64 p1.un.2.1.un.2.2.1, v1]) 0 W Aa Aa MT Aa).q fun a W => ?_
   obtain ⟨x5, h5, H⟩ := Ag H
   refine qs W Aa (AL (v := Value.int .i64 x5) W Yz Aa (fun w F => Ru any w (v1) (Tr34.of (p1.un.2.1.un.1, p1.un.2.1.un.2.1, p1.un.2.1.un.2.2.1, p1.un.2.1.un.2.2.2)) _ h5 (Er (Ak Co h1 (Ah h_v1)) F))) fun a W => ?_
   refine qs W Aa (Ix W Aa Aa Aa).q fun a W => ?_
   refine qs W Aa (CG W Aa).q fun a W => ?_
   refine qs W Aa (As UO Aa Aa Aa T3 W Aa 0 Aa).q fun a W => ?_
   refine AO fun w F => ?_
   refine DZ 1 W F Aa Aa Aa T3 Aa Aa Aa fun w F => ?_
   refine Fd (Ad ?_)
   have F := F.frontM (i := 1) Aa Aa
   have F := F.frontM (i := 1) Aa Aa
   exact ⟨_, H, W.ra Aa, F⟩
  refine Bc (Ad ?_)
  have F := F.frontM (i := 1) Aa Aa
  have F := F.frontM (i := 1) Aa Aa
  exact ⟨_, H, W.ra Aa, F⟩
 rintro a w ⟨x3, hj, W, F⟩
 have H := K2 _ hj
 clear hj G2 K2 L2
 obtain ⟨o3, G3, K3, L3⟩ := RM H
 refine AA (fun a w => ∃ x6 : Int, some (Sum.inl x6) = some o3 ∧ Fr 71 [] [(0, .pointer (some ⟨q_p0, 0, none⟩)), (6, .bool false)] a ∧ Stw ⟨Y, X, w0⟩ (St b1 p1 v1 v2 q_p0 x6) [] w) ?_ ?_
 ·
  have H := G3
  clear G3 K3
  refine FR tk 4 [0] W F (ai fun a w W F => ?_)
  refine ls W F Aa (C2 (r := Bl) (l := p1.un.2.2.2.2) LU Aa W Aa (Ak Dy h2 (Ah h_v2))).q fun a w W F => ?_
  refine Cv tk 4 W F fun a w W F => ?_
  have F := F.frontM (i := 1) Aa Aa
  have F := F.frontM (i := 1) Aa Aa
  refine BN H (fun s a w => Fr 71 [] [(0, .pointer (some ⟨q_p0, 0, none⟩)), (2, .int .i64 p2), (6, .bool false), (53, v2), (54, .int .i64 (p1.un.2.2.2.2.length : Int)), (55, .int .i64 s.1)] a ∧ Stw ⟨Y, X, w0⟩ [(b1, (BE p1 v1 v2)), (q_p0, [.int .i64 s.2])] [] w) ⟨W.ra Aa, F⟩ fun s o a w H L4 hR => ?_
  obtain ⟨x7, x8⟩ := s
  obtain ⟨W, F⟩ := hR
  have W : Fr 71 [] [(0, .pointer (some ⟨q_p0, 0, none⟩)), (2, .int .i64 p2), (6, .bool false), (53, v2), (54, .int .i64 (p1.un.2.2.2.2.length : Int)), (55, .int .i64 x7)] a := W
  have F : Stw ⟨Y, X, w0⟩ (St b1 p1 v1 v2 q_p0 x8) [] w := F
  rw [Cd] at H
  refine vc tk 6 W F fun a w W F => ?_
  refine BU W Aa H (fun W H => ?_) fun W H => ?_
  ·
   refine Gp tk 6 W F fun a w W F => ?_
   obtain ⟨x9, h6, H⟩ := Ag H
   obtain ⟨v5, h7, h8⟩ := DQ h2 h6
   have h9 : IU v5 = [.int .i64 x9.un.1, .int .i64 x9.un.2.1.un.1, .int .i64 x9.un.2.1.un.2.1, .int .i64 x9.un.2.1.un.2.2.1, (v5.2.1.2.2.2.1), .int .i64 x9.un.2.2.1, .int .i64 x9.un.2.2.2.1, (v5.2.2.2.2.1)] := congrArg (fun q : Tr37 => ([.int .i64 q.un.1, .int .i64 q.un.2.1.un.1, .int .i64 q.un.2.1.un.2.1, .int .i64 q.un.2.1.un.2.2.1, (v5.2.1.2.2.2.1), .int .i64 q.un.2.2.1, .int .i64 q.un.2.2.2.1, (v5.2.2.2.2.1)] : List Value)) h8
   refine ls W F Aa (Aw (r := Dd) NC W Aa Aa (Ah h_v2) h7).q fun a w W F => ?_
   refine ls W F Aa (An (y := Value.agg #[.int .i64 x9.un.1, .int .i64 x9.un.2.1.un.1, .int .i64 x9.un.2.1.un.2.1, .int .i64 x9.un.2.1.un.2.2.1, (v5.2.1.2.2.2.1), .int .i64 x9.un.2.2.1, .int .i64 x9.un.2.2.2.1, (v5.2.2.2.2.1)]) (j := 0) (i := x7) (enc := IU) W Aa Aa (Ah h_v2) h7 OA Is (by rw [h9]; rfl)).q fun a w W F => ?_
   refine AF (cs := (AB)) W F Aa Fx Aa fun b2 a w W F => ?_
   refine DZ 0 W F Aa Aa Aa Is Aa Aa (Af Aa (Af Aa (Af Aa (Af Aa (Af ((Br (Ah h_v2) h7 (Ai.snd (Ai.fst (Ai.snd (Ai.snd (Ai.snd Ai.here))))) (congrArg (fun q : Tr37 => q.un.2.1.un.2.2.2) h8)) _ F).one (Af Aa (Af Aa (Af ((Br (Ah h_v2) h7 (Ai.snd (Ai.snd (Ai.snd (Ai.snd Ai.here)))) (congrArg (fun q : Tr37 => q.un.2.2.2.2) h8)) _ F).one CT)))))))) fun w F => ?_
   refine Gz tk 8 [0] W F (ai fun a w W F => ?_)
   obtain ⟨x10, h10, H⟩ := Ag H
   have F := F.frontM (i := 2) Aa Aa
   refine A7 (Ml := [(q_p0, [.int .i64 x8])]) (Zl := []) (β := Unit) (rv := fun x => .bool x10.1) (MM := fun x => [(q_p0, [.int .i64 x10.2])]) (ZZ := fun x => []) W F YD Aa Aa (fun hL => ih _ _ w q_p0 ((v5.2.1.2.2.2.1)) ((v5.2.2.2.2.1)) x8 (Tr37.of (x9.un.1, Tr34.of (x9.un.2.1.un.1, x9.un.2.1.un.2.1, x9.un.2.1.un.2.2.1, x9.un.2.1.un.2.2.2), x9.un.2.2.1, x9.un.2.2.2.1, x9.un.2.2.2.2)) (AU (p2 - 1)) _ h10 (Sl.at_ (F.roX h_v2 (fun g hg => Gg hg)) h7 (Ai.snd (Ai.fst (Ai.snd (Ai.snd (Ai.snd Ai.here))))) (congrArg (fun q : Tr37 => q.un.2.1.un.2.2.2) h8)) (Sl.at_ (F.roX h_v2 (fun g hg => Gg hg)) h7 (Ai.snd (Ai.snd (Ai.snd (Ai.snd Ai.here)))) (congrArg (fun q : Tr37 => q.un.2.2.2.2) h8)) hL) fun x a w W F => ?_
   have F : Stw ⟨Y, X, w0⟩ [(q_p0, [.int .i64 x10.2]), (b2, [.int .i64 x9.un.1, .int .i64 x9.un.2.1.un.1, .int .i64 x9.un.2.1.un.2.1, .int .i64 x9.un.2.1.un.2.2.1, (v5.2.1.2.2.2.1), .int .i64 x9.un.2.2.1, .int .i64 x9.un.2.2.2.1, (v5.2.2.2.2.1)]), (b1, (BE p1 v1 v2))] [] w := F
   refine Cv tk 3 W F fun a w W F => ?_
   refine CK W Aa H (fun W H => ?_) fun W H => ?_
   ·
    refine vc tk 5 W F fun a w W F => ?_
    refine Am (AH ?_)
    iterate 2 refine Az ?_
    refine AH (Az ?_)
    have H := L4 _ H
    have H := L3 _ H
    have H := AC H
    subst H
    refine Ax (.inl Aa) W F Aa (Ap W Aa) ?_
    have F := F.sub (M' := [(q_p0, [.int .i64 x10.2])]) (Z' := []) (List.Sublist.cons_cons _ (List.nil_sublist _)) (List.Sublist.refl _)
    exact ⟨(), Aa, F⟩
   refine Bc (AM ?_)
   refine vn tk 4 W F fun a w W F => ?_
   refine Ad ?_
   have F := F.frontM (i := 2) Aa Aa
   have F := F.sub (M' := [(b1, [.int .i64 p1.un.1, .int .i64 p1.un.2.1.un.1, .int .i64 p1.un.2.1.un.2.1, .int .i64 p1.un.2.1.un.2.2.1, v1, .int .i64 p1.un.2.2.1, .int .i64 p1.un.2.2.2.1, v2]), (q_p0, [.int .i64 x10.2])]) (Z' := []) (List.Sublist.cons_cons _ (List.Sublist.cons_cons _ (List.nil_sublist _))) (List.Sublist.refl _)
   exact ⟨_, H, W.ra Aa, F⟩
  refine BB ?_
  iterate 2 refine BR ?_
  refine Bx (Ad ?_)
  have F := F.frontM (i := 1) Aa Aa
  have F := F.frontM (i := 1) Aa Aa
  have H := L4 _ H
  exact ⟨_, H, W.ra Aa, F⟩
 rintro a w ⟨x6, hj, W, F⟩
 have H := K3 _ hj
 clear hj G3 K3 L3
 refine vc tk 3 W F fun a w W F => ?_
 refine ls W F Aa (CG W Aa).q fun a w W F => ?_
 refine Gz tk 6 [1] W F (ai fun a w W F => ?_)
 refine Am ?_
 have H := AC H
 subst H
 refine Ax (.inl Aa) W F Aa (Ap W Aa) ?_
 have F := F.frontM (i := 1) Aa Aa
 have F := F.sub (M' := [(q_p0, [.int .i64 x6])]) (Z' := []) (List.Sublist.cons_cons _ (List.nil_sublist _)) (List.Sublist.refl _)
 exact ⟨(), Aa, F⟩
theorem JJ : ∀ (n : Nat) (Y : Nat → Prop) (X : List Nat) (w0 : World) (q_p0 : Nat) (v1 : Value) (v2 : Value) (p0 : Int) (p1 : Tr37) (p2 : Int) (r : Bool × Int) (H : CA n p0 p1 p2 = some r) (h_v1 : Sl w0 (NX X) Bj v1 p1.un.2.1.un.2.2.2) (h_v2 : Sl w0 (NX X) Bl v2 p1.un.2.2.2.2) (hL : Stw ⟨Y, X, w0⟩ [(q_p0, [.int .i64 p0])] [] w0), Calls Tryz.prog 31 #[.pointer (some ⟨q_p0, 0, none⟩), .agg #[.int .i64 p1.un.1, .int .i64 p1.un.2.1.un.1, .int .i64 p1.un.2.1.un.2.1, .int .i64 p1.un.2.1.un.2.2.1, v1, .int .i64 p1.un.2.2.1, .int .i64 p1.un.2.2.2.1, v2], .int .i64 p2] w0 fun e w' => ∃ x : Unit, e = .returned (.bool r.1) ∧ Stw ⟨Y, X, w0⟩ [(q_p0, [.int .i64 r.2])] [] w' := by
  intro n
  induction n with
  | zero => intro Y X w0 q_p0 v1 v2 p0 p1 p2 r H; exact nomatch H
  | succ n ih => intro Y X w0 q_p0 v1 v2 p0 p1 p2 r H h_v1 h_v2 hL; exact Ju (CA n) ih Y X w0 q_p0 v1 v2 p0 p1 p2 r H h_v1 h_v2 hL
theorem JS (Y : Nat → Prop) (X : List Nat) (w0 : World) (q_p0 : Nat) (v1 : Value) (v2 : Value) (p0 : Int) (p1 : Tr37) (p2 : Int) (r : Bool × Int) (H : Gy p0 p1 p2 = some r) (h_v1 : Sl w0 (NX X) Bj v1 p1.un.2.1.un.2.2.2) (h_v2 : Sl w0 (NX X) Bl v2 p1.un.2.2.2.2) (hL : Stw ⟨Y, X, w0⟩ [(q_p0, [.int .i64 p0])] [] w0) :
    Calls Tryz.prog 31 #[.pointer (some ⟨q_p0, 0, none⟩), .agg #[.int .i64 p1.un.1, .int .i64 p1.un.2.1.un.1, .int .i64 p1.un.2.1.un.2.1, .int .i64 p1.un.2.1.un.2.2.1, v1, .int .i64 p1.un.2.2.1, .int .i64 p1.un.2.2.2.1, v2], .int .i64 p2] w0 fun e w' => ∃ x : Unit, e = .returned (.bool r.1) ∧ Stw ⟨Y, X, w0⟩ [(q_p0, [.int .i64 r.2])] [] w' := by
  obtain ⟨n, H⟩ := CZ H
  exact JJ n Y X w0 q_p0 v1 v2 p0 p1 p2 r H h_v1 h_v2 hL
theorem Wm : Has Tryz.prog 15 := CP Tryz.func15
def Dt (fRec : Tr37 → Option Int) (p0 : Tr37) : (Int × Int) → Option ((Int × Int) ⊕ Int)
  | (x2, x3) => (if x3 < (p0.un.2.2.2.2.length : Int) then (ix p0.un.2.2.2.2 x3).bind fun x4 => (fRec (Tr37.of (x4.un.1, Tr34.of (x4.un.2.1.un.1, x4.un.2.1.un.2.1, x4.un.2.1.un.2.2.1, x4.un.2.1.un.2.2.2), x4.un.2.2.1, x4.un.2.2.2.1, x4.un.2.2.2.2))).bind fun x5 => some (.inl (min (AU (x2 * x5)) 1000, AU (x3 + 1))) else some (.inr x2))
def Dw (fRec : Tr37 → Option Int) (p0 : Tr37) : (Int × Int) → Option ((Int × Int) ⊕ Int)
  | (x6, x7) => (if x7 < (p0.un.2.2.2.2.length : Int) then (ix p0.un.2.2.2.2 x7).bind fun x8 => (fRec (Tr37.of (x8.un.1, Tr34.of (x8.un.2.1.un.1, x8.un.2.1.un.2.1, x8.un.2.1.un.2.2.1, x8.un.2.1.un.2.2.2), x8.un.2.2.1, x8.un.2.2.2.1, x8.un.2.2.2.2))).bind fun x9 => some (.inl (min (AU (x6 + x9)) 1000, AU (x7 + 1))) else some (.inr x6))
def Du (fRec : Tr37 → Option Int) (p0 : Tr37) : (Int × Int) → Option ((Int × Int) ⊕ Int)
  | (x10, x11) => (if x11 < (p0.un.2.2.2.2.length : Int) then (ix p0.un.2.2.2.2 x11).bind fun x12 => (fRec (Tr37.of (x12.un.1, Tr34.of (x12.un.2.1.un.1, x12.un.2.1.un.2.1, x12.un.2.1.un.2.2.1, x12.un.2.1.un.2.2.2), x12.un.2.2.1, x12.un.2.2.2.1, x12.un.2.2.2.2))).bind fun x13 => some (.inl (max x10 x13, AU (x11 + 1))) else some (.inr x10))
def DM (fRec : Tr37 → Option Int) (p0 : Tr37) : Option Int := (if p0.un.1 = 3 then Ba (Dt fRec p0) (1, 0) else (if p0.un.1 = 4 then Ba (Dw fRec p0) (0, 0) else (if p0.un.1 = 5 then Ba (Du fRec p0) (0, 0) else some 1))).bind fun x1 => some x1
def Eh : Nat → Tr37 → Option Int
  | 0 => fun _ => none
  | n + 1 => DM (Eh n)
def Hn (p0 : Tr37) : Option Int := HC fun n => Eh n p0
theorem NN (fRec : Tr37 → Option Int) (ih : ∀ (Y : Nat → Prop) (w0 : World) (v1 : Value) (v2 : Value) (p0 : Tr37) (r : Int) (H : fRec p0 = some r) (h_v1 : Sl w0 (NX []) Bj v1 p0.un.2.1.un.2.2.2) (h_v2 : Sl w0 (NX []) Bl v2 p0.un.2.2.2.2), Calls Tryz.prog 15 #[.agg #[.int .i64 p0.un.1, .int .i64 p0.un.2.1.un.1, .int .i64 p0.un.2.1.un.2.1, .int .i64 p0.un.2.1.un.2.2.1, v1, .int .i64 p0.un.2.2.1, .int .i64 p0.un.2.2.2.1, v2]] w0 fun e w' => e = .returned (.int .i64 r) ∧ Below w0.heap.size w0 w') (Y : Nat → Prop) (w0 : World) (v1 : Value) (v2 : Value) (p0 : Tr37) (r : Int) (H : DM fRec p0 = some r) (h_v1 : Sl w0 (NX []) Bj v1 p0.un.2.1.un.2.2.2) (h_v2 : Sl w0 (NX []) Bl v2 p0.un.2.2.2.2) :
    Calls Tryz.prog 15 #[.agg #[.int .i64 p0.un.1, .int .i64 p0.un.2.1.un.1, .int .i64 p0.un.2.1.un.2.1, .int .i64 p0.un.2.1.un.2.2.1, v1, .int .i64 p0.un.2.2.1, .int .i64 p0.un.2.2.2.1, v2]] w0 fun e w' => e = .returned (.int .i64 r) ∧ Below w0.heap.size w0 w' := by
 refine enter Tryz.func15 Aa Tryz.ntmps15 Aa fun a W => ?_
 have F := Stw.start Y w0
 obtain ⟨v3, h1, h_v1⟩ := h_v1.ex Co
 obtain ⟨v4, h2, h_v2⟩ := h_v2.ex Dy
 unfold DM at H
 refine vc tk 2 W F fun a w W F => ?_
 refine CX (cs := (BE p0 v1 v2)) W F Aa Aa Aa fun b1 a w W F => ?_
 refine Cv tk 8 W F fun a w W F => ?_
 obtain ⟨o1, G1, K1⟩ := Ag H
 refine AA (fun a w => ∃ x1 : Int, some (x1) = some o1 ∧ Fr 57 [] [(2, .int .i64 0), (3, .int .i64 x1)] a ∧ Stw ⟨Y, [], w0⟩ (Ia b1 p0 v1 v2) [] w) ?_ ?_
 ·
  have H := G1
  clear G1 K1
  refine FR tk 13 [0] W F (ai fun a w W F => ?_)
  refine B9 W Aa (fun hb => ?_) fun hb => ?_
  ·
   have H := Cg (CQ hb) H
   rw [hb] at W
   clear hb
   refine FR tk 9 [0] W F (ai fun a w W F => ?_)
   refine ls W F Aa (C2 (r := Bl) (l := p0.un.2.2.2.2) LU Aa W Aa (Ak Dy h2 (Ah h_v2))).q fun a w W F => ?_
   refine Cv tk 4 W F fun a w W F => ?_
   refine BN H (fun s a w => Fr 57 [] [(2, .int .i64 0), (3, .int .i64 s.1), (15, v2), (16, .int .i64 (p0.un.2.2.2.2.length : Int)), (17, .int .i64 s.2)] a ∧ Stw ⟨Y, [], w0⟩ (Ia b1 p0 v1 v2) [] w) ⟨W.ra Aa, F⟩ fun s o a w H L2 hR => ?_
   obtain ⟨x2, x3⟩ := s
   obtain ⟨W, F⟩ := hR
   have W : Fr 57 [] [(2, .int .i64 0), (3, .int .i64 x2), (15, v2), (16, .int .i64 (p0.un.2.2.2.2.length : Int)), (17, .int .i64 x3)] a := W
   have F : Stw ⟨Y, [], w0⟩ (Ia b1 p0 v1 v2) [] w := F
   rw [Dt] at H
   refine vc tk 6 W F fun a w W F => ?_
   refine BU W Aa H (fun W H => ?_) fun W H => ?_
   ·
    refine Gp tk 6 W F fun a w W F => ?_
    obtain ⟨x4, h3, H⟩ := Ag H
    obtain ⟨v5, h4, h5⟩ := DQ h2 h3
    have h6 : IU v5 = [.int .i64 x4.un.1, .int .i64 x4.un.2.1.un.1, .int .i64 x4.un.2.1.un.2.1, .int .i64 x4.un.2.1.un.2.2.1, (v5.2.1.2.2.2.1), .int .i64 x4.un.2.2.1, .int .i64 x4.un.2.2.2.1, (v5.2.2.2.2.1)] := congrArg (fun q : Tr37 => ([.int .i64 q.un.1, .int .i64 q.un.2.1.un.1, .int .i64 q.un.2.1.un.2.1, .int .i64 q.un.2.1.un.2.2.1, (v5.2.1.2.2.2.1), .int .i64 q.un.2.2.1, .int .i64 q.un.2.2.2.1, (v5.2.2.2.2.1)] : List Value)) h5
    refine ls W F Aa (Aw (r := Dd) NC W Aa Aa (Ah h_v2) h4).q fun a w W F => ?_
    refine ls W F Aa (An (y := Value.agg #[.int .i64 x4.un.1, .int .i64 x4.un.2.1.un.1, .int .i64 x4.un.2.1.un.2.1, .int .i64 x4.un.2.1.un.2.2.1, (v5.2.1.2.2.2.1), .int .i64 x4.un.2.2.1, .int .i64 x4.un.2.2.2.1, (v5.2.2.2.2.1)]) (j := 0) (i := x3) (enc := IU) W Aa Aa (Ah h_v2) h4 OA Is (by rw [h6]; rfl)).q fun a w W F => ?_
    refine AF (cs := (AB)) W F Aa Fx Aa fun b2 a w W F => ?_
    refine DZ 0 W F Aa Aa Aa Is Aa Aa (Af Aa (Af Aa (Af Aa (Af Aa (Af ((Br (Ah h_v2) h4 (Ai.snd (Ai.fst (Ai.snd (Ai.snd (Ai.snd Ai.here))))) (congrArg (fun q : Tr37 => q.un.2.1.un.2.2.2) h5)) _ F).one (Af Aa (Af Aa (Af ((Br (Ah h_v2) h4 (Ai.snd (Ai.snd (Ai.snd (Ai.snd Ai.here)))) (congrArg (fun q : Tr37 => q.un.2.2.2.2) h5)) _ F).one CT)))))))) fun w F => ?_
    refine Gz tk 5 [0] W F (ai fun a w W F => ?_)
    obtain ⟨x5, h7, H⟩ := Ag H
    refine ls W F Aa (AL (v := Value.int .i64 x5) W Wm Aa (fun w F => ih any w ((v5.2.1.2.2.2.1)) ((v5.2.2.2.2.1)) (Tr37.of (x4.un.1, Tr34.of (x4.un.2.1.un.1, x4.un.2.1.un.2.1, x4.un.2.1.un.2.2.1, x4.un.2.1.un.2.2.2), x4.un.2.2.1, x4.un.2.2.2.1, x4.un.2.2.2.2)) _ h7 (Er (Br (Ah h_v2) h4 (Ai.snd (Ai.fst (Ai.snd (Ai.snd (Ai.snd Ai.here))))) (congrArg (fun q : Tr37 => q.un.2.1.un.2.2.2) h5)) F) (Er (Br (Ah h_v2) h4 (Ai.snd (Ai.snd (Ai.snd (Ai.snd Ai.here)))) (congrArg (fun q : Tr37 => q.un.2.2.2.2) h5)) F))) fun a w W F => ?_
    refine ls W F Aa (Ve W Aa Aa Aa).q fun a w W F => ?_
    refine ls W F Aa (Va W Aa Aa).q fun a w W F => ?_
    refine vl tk 2 W F fun a w W F => ?_
    refine AM ?_
    refine vn tk 4 W F fun a w W F => ?_
    refine Ad ?_
    have F := F.frontM (i := 1) Aa Aa
    have F := F.sub (M' := (Ia b1 p0 v1 v2)) (Z' := []) (List.Sublist.cons_cons _ (List.nil_sublist _)) (List.Sublist.refl _)
    exact ⟨_, H, W.ra Aa, F⟩
   refine BB ?_
   iterate 2 refine BR ?_
   refine Bx (AM (Ad ?_))
   have H := L2 _ H
   exact ⟨_, H, W.ra Aa, F⟩
  have H := Cf (CO hb) H
  rw [hb] at W
  clear hb
  refine vc tk 6 W F fun a w W F => ?_
  refine B9 W Aa (fun hb => ?_) fun hb => ?_
  ·
   have H := Cg (CQ hb) H
   rw [hb] at W
   clear hb
   refine FR tk 4 [0] W F (ai fun a w W F => ?_)
   refine ls W F Aa (C2 (r := Bl) (l := p0.un.2.2.2.2) LU Aa W Aa (Ak Dy h2 (Ah h_v2))).q fun a w W F => ?_
   refine Cv tk 4 W F fun a w W F => ?_
   refine BN H (fun s a w => Fr 57 [] [(2, .int .i64 0), (3, .int .i64 s.1), (30, v2), (31, .int .i64 (p0.un.2.2.2.2.length : Int)), (32, .int .i64 s.2)] a ∧ Stw ⟨Y, [], w0⟩ (Ia b1 p0 v1 v2) [] w) ⟨W.ra Aa, F⟩ fun s o a w H L3 hR => ?_
   obtain ⟨x6, x7⟩ := s
   obtain ⟨W, F⟩ := hR
   have W : Fr 57 [] [(2, .int .i64 0), (3, .int .i64 x6), (30, v2), (31, .int .i64 (p0.un.2.2.2.2.length : Int)), (32, .int .i64 x7)] a := W
   have F : Stw ⟨Y, [], w0⟩ (Ia b1 p0 v1 v2) [] w := F
   rw [Dw] at H
   refine vc tk 6 W F fun a w W F => ?_
   refine BU W Aa H (fun W H => ?_) fun W H => ?_
   ·
    refine Gp tk 6 W F fun a w W F => ?_
    obtain ⟨x8, h8, H⟩ := Ag H
    obtain ⟨v6, h9, h10⟩ := DQ h2 h8
    have h11 : IU v6 = [.int .i64 x8.un.1, .int .i64 x8.un.2.1.un.1, .int .i64 x8.un.2.1.un.2.1, .int .i64 x8.un.2.1.un.2.2.1, (v6.2.1.2.2.2.1), .int .i64 x8.un.2.2.1, .int .i64 x8.un.2.2.2.1, (v6.2.2.2.2.1)] := congrArg (fun q : Tr37 => ([.int .i64 q.un.1, .int .i64 q.un.2.1.un.1, .int .i64 q.un.2.1.un.2.1, .int .i64 q.un.2.1.un.2.2.1, (v6.2.1.2.2.2.1), .int .i64 q.un.2.2.1, .int .i64 q.un.2.2.2.1, (v6.2.2.2.2.1)] : List Value)) h10
    refine ls W F Aa (Aw (r := Dd) NC W Aa Aa (Ah h_v2) h9).q fun a w W F => ?_
    refine ls W F Aa (An (y := Value.agg #[.int .i64 x8.un.1, .int .i64 x8.un.2.1.un.1, .int .i64 x8.un.2.1.un.2.1, .int .i64 x8.un.2.1.un.2.2.1, (v6.2.1.2.2.2.1), .int .i64 x8.un.2.2.1, .int .i64 x8.un.2.2.2.1, (v6.2.2.2.2.1)]) (j := 0) (i := x7) (enc := IU) W Aa Aa (Ah h_v2) h9 OA Is (by rw [h11]; rfl)).q fun a w W F => ?_
    refine AF (cs := (AB)) W F Aa Fx Aa fun b3 a w W F => ?_
    refine DZ 0 W F Aa Aa Aa Is Aa Aa (Af Aa (Af Aa (Af Aa (Af Aa (Af ((Br (Ah h_v2) h9 (Ai.snd (Ai.fst (Ai.snd (Ai.snd (Ai.snd Ai.here))))) (congrArg (fun q : Tr37 => q.un.2.1.un.2.2.2) h10)) _ F).one (Af Aa (Af Aa (Af ((Br (Ah h_v2) h9 (Ai.snd (Ai.snd (Ai.snd (Ai.snd Ai.here)))) (congrArg (fun q : Tr37 => q.un.2.2.2.2) h10)) _ F).one CT)))))))) fun w F => ?_
    refine Gz tk 5 [0] W F (ai fun a w W F => ?_)
    obtain ⟨x9, h12, H⟩ := Ag H
    refine ls W F Aa (AL (v := Value.int .i64 x9) W Wm Aa (fun w F => ih any w ((v6.2.1.2.2.2.1)) ((v6.2.2.2.2.1)) (Tr37.of (x8.un.1, Tr34.of (x8.un.2.1.un.1, x8.un.2.1.un.2.1, x8.un.2.1.un.2.2.1, x8.un.2.1.un.2.2.2), x8.un.2.2.1, x8.un.2.2.2.1, x8.un.2.2.2.2)) _ h12 (Er (Br (Ah h_v2) h9 (Ai.snd (Ai.fst (Ai.snd (Ai.snd (Ai.snd Ai.here))))) (congrArg (fun q : Tr37 => q.un.2.1.un.2.2.2) h10)) F) (Er (Br (Ah h_v2) h9 (Ai.snd (Ai.snd (Ai.snd (Ai.snd Ai.here)))) (congrArg (fun q : Tr37 => q.un.2.2.2.2) h10)) F))) fun a w W F => ?_
    refine ls W F Aa (Iv W Aa Aa Aa).q fun a w W F => ?_
    refine ls W F Aa (Va W Aa Aa).q fun a w W F => ?_
    refine vl tk 2 W F fun a w W F => ?_
    refine AM ?_
    refine vn tk 4 W F fun a w W F => ?_
    refine Ad ?_
    have F := F.frontM (i := 1) Aa Aa
    have F := F.sub (M' := (Ia b1 p0 v1 v2)) (Z' := []) (List.Sublist.cons_cons _ (List.nil_sublist _)) (List.Sublist.refl _)
    exact ⟨_, H, W.ra Aa, F⟩
   refine BB ?_
   iterate 2 refine BR ?_
   refine Bx (AM (Ad ?_))
   have H := L3 _ H
   exact ⟨_, H, W.ra Aa, F⟩
  have H := Cf (CO hb) H
  rw [hb] at W
  clear hb
  refine vc tk 6 W F fun a w W F => ?_
  refine B9 W Aa (fun hb => ?_) fun hb => ?_
  ·
   have H := Cg (CQ hb) H
   rw [hb] at W
   clear hb
   refine FR tk 4 [0] W F (ai fun a w W F => ?_)
   refine ls W F Aa (C2 (r := Bl) (l := p0.un.2.2.2.2) LU Aa W Aa (Ak Dy h2 (Ah h_v2))).q fun a w W F => ?_
   refine Cv tk 4 W F fun a w W F => ?_
   refine BN H (fun s a w => Fr 57 [] [(2, .int .i64 0), (3, .int .i64 s.1), (45, v2), (46, .int .i64 (p0.un.2.2.2.2.length : Int)), (47, .int .i64 s.2)] a ∧ Stw ⟨Y, [], w0⟩ (Ia b1 p0 v1 v2) [] w) ⟨W.ra Aa, F⟩ fun s o a w H L4 hR => ?_
   obtain ⟨x10, x11⟩ := s
   obtain ⟨W, F⟩ := hR
   have W : Fr 57 [] [(2, .int .i64 0), (3, .int .i64 x10), (45, v2), (46, .int .i64 (p0.un.2.2.2.2.length : Int)), (47, .int .i64 x11)] a := W
   have F : Stw ⟨Y, [], w0⟩ (Ia b1 p0 v1 v2) [] w := F
   rw [Du] at H
   refine vc tk 6 W F fun a w W F => ?_
   refine BU W Aa H (fun W H => ?_) fun W H => ?_
   ·
    refine Gp tk 6 W F fun a w W F => ?_
    obtain ⟨x12, h13, H⟩ := Ag H
    obtain ⟨v7, h14, h15⟩ := DQ h2 h13
    have h16 : IU v7 = [.int .i64 x12.un.1, .int .i64 x12.un.2.1.un.1, .int .i64 x12.un.2.1.un.2.1, .int .i64 x12.un.2.1.un.2.2.1, (v7.2.1.2.2.2.1), .int .i64 x12.un.2.2.1, .int .i64 x12.un.2.2.2.1, (v7.2.2.2.2.1)] := congrArg (fun q : Tr37 => ([.int .i64 q.un.1, .int .i64 q.un.2.1.un.1, .int .i64 q.un.2.1.un.2.1, .int .i64 q.un.2.1.un.2.2.1, (v7.2.1.2.2.2.1), .int .i64 q.un.2.2.1, .int .i64 q.un.2.2.2.1, (v7.2.2.2.2.1)] : List Value)) h15
    refine ls W F Aa (Aw (r := Dd) NC W Aa Aa (Ah h_v2) h14).q fun a w W F => ?_
    refine ls W F Aa (An (y := Value.agg #[.int .i64 x12.un.1, .int .i64 x12.un.2.1.un.1, .int .i64 x12.un.2.1.un.2.1, .int .i64 x12.un.2.1.un.2.2.1, (v7.2.1.2.2.2.1), .int .i64 x12.un.2.2.1, .int .i64 x12.un.2.2.2.1, (v7.2.2.2.2.1)]) (j := 0) (i := x11) (enc := IU) W Aa Aa (Ah h_v2) h14 OA Is (by rw [h16]; rfl)).q fun a w W F => ?_
    refine AF (cs := (AB)) W F Aa Fx Aa fun b4 a w W F => ?_
    refine DZ 0 W F Aa Aa Aa Is Aa Aa (Af Aa (Af Aa (Af Aa (Af Aa (Af ((Br (Ah h_v2) h14 (Ai.snd (Ai.fst (Ai.snd (Ai.snd (Ai.snd Ai.here))))) (congrArg (fun q : Tr37 => q.un.2.1.un.2.2.2) h15)) _ F).one (Af Aa (Af Aa (Af ((Br (Ah h_v2) h14 (Ai.snd (Ai.snd (Ai.snd (Ai.snd Ai.here)))) (congrArg (fun q : Tr37 => q.un.2.2.2.2) h15)) _ F).one CT)))))))) fun w F => ?_
    refine Gz tk 5 [0] W F (ai fun a w W F => ?_)
    obtain ⟨x13, h17, H⟩ := Ag H
    refine ls W F Aa (AL (v := Value.int .i64 x13) W Wm Aa (fun w F => ih any w ((v7.2.1.2.2.2.1)) ((v7.2.2.2.2.1)) (Tr37.of (x12.un.1, Tr34.of (x12.un.2.1.un.1, x12.un.2.1.un.2.1, x12.un.2.1.un.2.2.1, x12.un.2.1.un.2.2.2), x12.un.2.2.1, x12.un.2.2.2.1, x12.un.2.2.2.2)) _ h17 (Er (Br (Ah h_v2) h14 (Ai.snd (Ai.fst (Ai.snd (Ai.snd (Ai.snd Ai.here))))) (congrArg (fun q : Tr37 => q.un.2.1.un.2.2.2) h15)) F) (Er (Br (Ah h_v2) h14 (Ai.snd (Ai.snd (Ai.snd (Ai.snd Ai.here)))) (congrArg (fun q : Tr37 => q.un.2.2.2.2) h15)) F))) fun a w W F => ?_
    refine ls W F Aa (WT W Aa Aa).q fun a w W F => ?_
    refine vl tk 2 W F fun a w W F => ?_
    refine AM ?_
    refine vn tk 4 W F fun a w W F => ?_
    refine Ad ?_
    have F := F.frontM (i := 1) Aa Aa
    have F := F.sub (M' := (Ia b1 p0 v1 v2)) (Z' := []) (List.Sublist.cons_cons _ (List.nil_sublist _)) (List.Sublist.refl _)
    exact ⟨_, H, W.ra Aa, F⟩
   refine BB ?_
   iterate 2 refine BR ?_
   refine Bx (AM (Ad ?_))
   have H := L4 _ H
   exact ⟨_, H, W.ra Aa, F⟩
  have H := Cf (CO hb) H
  rw [hb] at W
  clear hb
  refine vc tk 3 W F fun a w W F => ?_
  refine AM (Ad ?_)
  exact ⟨_, H, W.ra Aa, F⟩
 rintro a w ⟨x1, hj, W, F⟩
 have hj := AC hj
 subst hj
 have H := K1
 clear G1 K1
 refine vc tk 6 W F fun a w W F => ?_
 refine Am ?_
 have H := AC H
 subst H
 refine Ax (.inl Aa) W F Aa (Ap W Aa) ?_
 exact ⟨rfl, F.done⟩
theorem Pd : ∀ (n : Nat) (Y : Nat → Prop) (w0 : World) (v1 : Value) (v2 : Value) (p0 : Tr37) (r : Int) (H : Eh n p0 = some r) (h_v1 : Sl w0 (NX []) Bj v1 p0.un.2.1.un.2.2.2) (h_v2 : Sl w0 (NX []) Bl v2 p0.un.2.2.2.2), Calls Tryz.prog 15 #[.agg #[.int .i64 p0.un.1, .int .i64 p0.un.2.1.un.1, .int .i64 p0.un.2.1.un.2.1, .int .i64 p0.un.2.1.un.2.2.1, v1, .int .i64 p0.un.2.2.1, .int .i64 p0.un.2.2.2.1, v2]] w0 fun e w' => e = .returned (.int .i64 r) ∧ Below w0.heap.size w0 w' := by
  intro n
  induction n with
  | zero => intro Y w0 v1 v2 p0 r H; exact nomatch H
  | succ n ih => intro Y w0 v1 v2 p0 r H h_v1 h_v2; exact NN (Eh n) ih Y w0 v1 v2 p0 r H h_v1 h_v2
theorem Lz (Y : Nat → Prop) (w0 : World) (v1 : Value) (v2 : Value) (p0 : Tr37) (r : Int) (H : Hn p0 = some r) (h_v1 : Sl w0 (NX []) Bj v1 p0.un.2.1.un.2.2.2) (h_v2 : Sl w0 (NX []) Bl v2 p0.un.2.2.2.2) :
    Calls Tryz.prog 15 #[.agg #[.int .i64 p0.un.1, .int .i64 p0.un.2.1.un.1, .int .i64 p0.un.2.1.un.2.1, .int .i64 p0.un.2.1.un.2.2.1, v1, .int .i64 p0.un.2.2.1, .int .i64 p0.un.2.2.2.1, v2]] w0 fun e w' => e = .returned (.int .i64 r) ∧ Below w0.heap.size w0 w' := by
  obtain ⟨n, H⟩ := CZ H
  exact Pd n Y w0 v1 v2 p0 r H h_v1 h_v2
def FJ (p0 : Tr37) : Option Bool := ((Gy 64 (Tr37.of (p0.un.1, Tr34.of (p0.un.2.1.un.1, p0.un.2.1.un.2.1, p0.un.2.1.un.2.2.1, p0.un.2.1.un.2.2.2), p0.un.2.2.1, p0.un.2.2.2.1, p0.un.2.2.2.2)) 8).bind fun x3 => (if x3.1 = true then (Hn (Tr37.of (p0.un.1, Tr34.of (p0.un.2.1.un.1, p0.un.2.1.un.2.1, p0.un.2.1.un.2.2.1, p0.un.2.1.un.2.2.2), p0.un.2.2.1, p0.un.2.2.2.1, p0.un.2.2.2.2))).bind fun x4 => some (decide (x4 ≤ 64), x3.2) else some (false, x3.2))).bind fun (x1, x2) => some x1
theorem O1 (Y : Nat → Prop) (w0 : World) (v1 : Value) (v2 : Value) (p0 : Tr37) (r : Bool) (H : FJ p0 = some r) (h_v1 : Sl w0 (NX []) Bj v1 p0.un.2.1.un.2.2.2) (h_v2 : Sl w0 (NX []) Bl v2 p0.un.2.2.2.2) :
    Calls Tryz.prog 9 #[.agg #[.int .i64 p0.un.1, .int .i64 p0.un.2.1.un.1, .int .i64 p0.un.2.1.un.2.1, .int .i64 p0.un.2.1.un.2.2.1, v1, .int .i64 p0.un.2.2.1, .int .i64 p0.un.2.2.2.1, v2]] w0 fun e w' => e = .returned (.bool r) ∧ Below w0.heap.size w0 w' := by
 refine enter Tryz.func9 Aa Tryz.ntmps9 Aa fun a W => ?_
 have F := Stw.start Y w0
 obtain ⟨v3, h1, h_v1⟩ := h_v1.ex Co
 obtain ⟨v4, h2, h_v2⟩ := h_v2.ex Dy
 unfold FJ at H
 refine vc tk 2 W F fun a w W F => ?_
 refine CX (cs := (BE p0 v1 v2)) W F Aa Aa Aa fun b1 a w W F => ?_
 refine Cv tk 5 W F fun a w W F => ?_
 refine ls W F Aa (CM (v := Value.agg #[.int .i64 64]) Y7 W Aa Aa Aa).q fun a w W F => ?_
 refine AF (cs := [.int .i64 0]) W F Aa Zq Aa fun b2 a w W F => ?_
 refine DZ 0 W F Aa Aa Aa Zb Aa Aa Aa fun w F => ?_
 refine Fd (Ad ?_)
 obtain ⟨o1, G1, K1⟩ := Ag H
 refine AA (fun a w => ∃ x1 : Bool, ∃ x2 : Int, some ((x1, x2)) = some o1 ∧ Fr 12 [] [(2, .bool x1)] a ∧ Stw ⟨Y, [], w0⟩ [(b2, [.int .i64 x2]), (b1, [.int .i64 p0.un.1, .int .i64 p0.un.2.1.un.1, .int .i64 p0.un.2.1.un.2.1, .int .i64 p0.un.2.1.un.2.2.1, v1, .int .i64 p0.un.2.2.1, .int .i64 p0.un.2.2.2.1, v2])] [] w) ?_ ?_
 ·
  have H := G1
  clear G1 K1
  refine FR tk 2 [1] W F (ai fun a w W F => ?_)
  obtain ⟨x3, h3, H⟩ := Ag H
  refine A7 (Ml := [(b2, [.int .i64 64])]) (Zl := []) (β := Unit) (rv := fun x => .bool x3.1) (MM := fun x => [(b2, [.int .i64 x3.2])]) (ZZ := fun x => []) W F YD Aa Aa (fun hL => JS _ _ w b2 (v1) (v2) 64 (Tr37.of (p0.un.1, Tr34.of (p0.un.2.1.un.1, p0.un.2.1.un.2.1, p0.un.2.1.un.2.2.1, p0.un.2.1.un.2.2.2), p0.un.2.2.1, p0.un.2.2.2.1, p0.un.2.2.2.2)) 8 _ h3 (Sl.hide Co h1 (F.roX h_v1 (fun g hg => Gg hg))) (Sl.hide Dy h2 (F.roX h_v2 (fun g hg => Gg hg))) hL) fun x a w W F => ?_
  have F : Stw ⟨Y, [], w0⟩ [(b2, [.int .i64 x3.2]), (b1, [.int .i64 p0.un.1, .int .i64 p0.un.2.1.un.1, .int .i64 p0.un.2.1.un.2.1, .int .i64 p0.un.2.1.un.2.2.1, v1, .int .i64 p0.un.2.2.1, .int .i64 p0.un.2.2.2.1, v2])] [] w := F
  refine ls W F Aa (Aq W Aa).q fun a w W F => ?_
  rcases bxq x3.1 with hb | hb
  ·
   have H := Cg hb H
   rw [hb] at W
   clear hb
   refine Hu W F (Ac W Aa Aa Aa Aa) Aa (Ao Aa) (Bu (v := Value.agg #[.int .i64 p0.un.1, .int .i64 p0.un.2.1.un.1, .int .i64 p0.un.2.1.un.2.1, .int .i64 p0.un.2.1.un.2.2.1, v1, .int .i64 p0.un.2.2.1, .int .i64 p0.un.2.2.2.1, v2]) 1 W Aa Aa Is Aa).q fun a w W F => ?_
   refine Iq (Ac W Aa Aa Aa Aa) ?_
   obtain ⟨x4, h4, H⟩ := Ag H
   refine ls W F Aa (AL (v := Value.int .i64 x4) W Wm Aa (fun w F => Lz any w (v1) (v2) (Tr37.of (p0.un.1, Tr34.of (p0.un.2.1.un.1, p0.un.2.1.un.2.1, p0.un.2.1.un.2.2.1, p0.un.2.1.un.2.2.2), p0.un.2.2.1, p0.un.2.2.2.1, p0.un.2.2.2.2)) _ h4 (Er (Ak Co h1 (Ah h_v1)) F) (Er (Ak Dy h2 (Ah h_v2)) F))) fun a w W F => ?_
   refine vl tk 4 W F fun a w W F => ?_
   refine Ad ?_
   have F := F.frontM (i := 1) Aa Aa
   have F := F.frontM (i := 1) Aa Aa
   exact ⟨_, _, H, W.ra Aa, F⟩
  have H := Cf (by rw [hb]; decide) H
  rw [hb] at W
  clear hb
  refine vl tk 6 W F fun a w W F => ?_
  refine Ad ?_
  have F := F.frontM (i := 1) Aa Aa
  have F := F.frontM (i := 1) Aa Aa
  exact ⟨_, _, H, W.ra Aa, F⟩
 rintro a w ⟨x1, x2, hj, W, F⟩
 have hj := AC hj
 subst hj
 have H := K1
 clear G1 K1
 refine Am ?_
 have H := AC H
 subst H
 refine Ax (.inl Aa) W F Aa (Ap W Aa) ?_
 exact ⟨rfl, F.done⟩
theorem H9 : Has Tryz.prog 9 := CP Tryz.func9
abbrev EL (a0 : Value) : List Value := [.int .i64 3, .int .i64 0, .int .i64 0, .int .i64 0, .slice none 0 0, .int .i64 0, .int .i64 0, a0]
abbrev Oe (a0 : Nat) (a1 : Value) : List (Nat × List Value) := [(a0, [.int .i64 3, .int .i64 0, .int .i64 0, .int .i64 0, .slice none 0 0, .int .i64 0, .int .i64 0, a1])]
def GG  : Option Bool := (FK (Tr37.of (3, Tr34.of (0, 0, 0, ([] : List Tr34)), 0, 0, ([Tr37.of (2, Tr34.of (0, 0, 0, ([] : List Tr34)), 1, 3, ([] : List Tr37)), Tr37.of (2, Tr34.of (0, 0, 0, ([] : List Tr34)), 4, 1, ([] : List Tr37))] : List Tr37))) 0 5 (7, 2, 0, 0)).bind fun x1 => (if (x1.length : Int) = 1 then (ix x1 0).bind fun x3 => (if x3.1 = 1 ∧ x3.2.1 = 7 ∧ x3.2.2.1 = 3 ∧ x3.2.2.2.1 = 0 ∧ x3.2.2.2.2 = 0 then (Ib (Tr37.of (3, Tr34.of (0, 0, 0, ([] : List Tr34)), 0, 0, ([Tr37.of (2, Tr34.of (0, 0, 0, ([] : List Tr34)), 1, 3, ([] : List Tr37)), Tr37.of (2, Tr34.of (0, 0, 0, ([] : List Tr34)), 4, 1, ([] : List Tr37))] : List Tr37)))).bind fun x4 => (if x4 = ([100, 115, 116, 32, 58, 61, 32, 51, 59, 32, 112, 111, 114, 116, 32, 58, 61, 32, 49] : List UInt8) then (FJ (Tr37.of (3, Tr34.of (0, 0, 0, ([] : List Tr34)), 0, 0, ([Tr37.of (2, Tr34.of (0, 0, 0, ([] : List Tr34)), 1, 3, ([] : List Tr37)), Tr37.of (2, Tr34.of (0, 0, 0, ([] : List Tr34)), 4, 1, ([] : List Tr37))] : List Tr37)))).bind fun x5 => (if x5 = true then (Hn (Tr37.of (3, Tr34.of (0, 0, 0, ([] : List Tr34)), 0, 0, ([Tr37.of (2, Tr34.of (0, 0, 0, ([] : List Tr34)), 1, 3, ([] : List Tr37)), Tr37.of (2, Tr34.of (0, 0, 0, ([] : List Tr34)), 4, 1, ([] : List Tr37))] : List Tr37)))).bind fun x6 => some (decide (x6 = 1)) else some false) else some false) else some false) else some false).bind fun x2 => some x2
theorem Np (Y : Nat → Prop) (w0 : World)   (r : Bool) (H : GG  = some r) (hG : Gk [] w0) :
    Calls Tryz.prog 7 #[] w0 fun e w' => e = .returned (.bool r) ∧ Below w0.heap.size w0 w' := by
 refine enter Tryz.func7 Aa Tryz.ntmps7 Aa fun a W => ?_
 have F := Stw.start Y w0
 unfold GG at H
 refine vc tk 7 W F fun a w W F => ?_
 refine ls W F Aa (CM (v := Value.agg #[.int .i64 2, .int .i64 0, .int .i64 0, .int .i64 0, .slice none 0 0, .int .i64 1, .int .i64 3, .slice none 0 0]) Rj W Aa Aa Aa).q fun a w W F => ?_
 refine ls W F Aa (CM (v := Value.agg #[.int .i64 2, .int .i64 0, .int .i64 0, .int .i64 0, .slice none 0 0, .int .i64 4, .int .i64 1, .slice none 0 0]) Rj W Aa Aa Aa).q fun a w W F => ?_
 refine Gs (z := Value.agg #[.int .i64 0, .int .i64 0, .int .i64 0, .int .i64 0, .slice none 0 0, .int .i64 0, .int .i64 0, .slice none 0 0]) (cs := [.int .i64 2, .int .i64 0, .int .i64 0, .int .i64 0, .slice none 0 0, .int .i64 1, .int .i64 3, .slice none 0 0, .int .i64 2, .int .i64 0, .int .i64 0, .int .i64 0, .slice none 0 0, .int .i64 4, .int .i64 1, .slice none 0 0]) Bl ([Tr37.of (2, Tr34.of (0, 0, 0, ([] : List Tr34)), 1, 3, ([] : List Tr37)), Tr37.of (2, Tr34.of (0, 0, 0, ([] : List Tr34)), 4, 1, ([] : List Tr37))] : List Tr37) W F Aa NC Fx Aa Aa Aa (by kernel_rfl) Aa Aa ⟨[Value.int .i64 2, Value.int .i64 0, Value.int .i64 0, Value.int .i64 0, Value.slice none 0 0, Value.int .i64 1, Value.int .i64 3, Value.slice none 0 0], _, Aa, (HA.2 ⟨[Value.int .i64 2], [Value.int .i64 0, Value.int .i64 0, Value.int .i64 0, Value.slice none 0 0, Value.int .i64 1, Value.int .i64 3, Value.slice none 0 0], Aa, Aa, ⟨[Value.int .i64 0, Value.int .i64 0, Value.int .i64 0, Value.slice none 0 0], [Value.int .i64 1, Value.int .i64 3, Value.slice none 0 0], Aa, (Hi.2 ⟨[Value.int .i64 0], [Value.int .i64 0, Value.int .i64 0, Value.slice none 0 0], Aa, Aa, ⟨[Value.int .i64 0], [Value.int .i64 0, Value.slice none 0 0], Aa, Aa, ⟨[Value.int .i64 0], [Value.slice none 0 0], Aa, Aa, ⟨_, Aa, (Sl.nil (r := Bj))⟩⟩⟩⟩), ⟨[Value.int .i64 1], [Value.int .i64 3, Value.slice none 0 0], Aa, Aa, ⟨[Value.int .i64 3], [Value.slice none 0 0], Aa, Aa, ⟨_, Aa, (Sl.nil (r := Bl))⟩⟩⟩⟩⟩), ⟨[Value.int .i64 2, Value.int .i64 0, Value.int .i64 0, Value.int .i64 0, Value.slice none 0 0, Value.int .i64 4, Value.int .i64 1, Value.slice none 0 0], _, Aa, (HA.2 ⟨[Value.int .i64 2], [Value.int .i64 0, Value.int .i64 0, Value.int .i64 0, Value.slice none 0 0, Value.int .i64 4, Value.int .i64 1, Value.slice none 0 0], Aa, Aa, ⟨[Value.int .i64 0, Value.int .i64 0, Value.int .i64 0, Value.slice none 0 0], [Value.int .i64 4, Value.int .i64 1, Value.slice none 0 0], Aa, (Hi.2 ⟨[Value.int .i64 0], [Value.int .i64 0, Value.int .i64 0, Value.slice none 0 0], Aa, Aa, ⟨[Value.int .i64 0], [Value.int .i64 0, Value.slice none 0 0], Aa, Aa, ⟨[Value.int .i64 0], [Value.slice none 0 0], Aa, Aa, ⟨_, Aa, (Sl.nil (r := Bj))⟩⟩⟩⟩), ⟨[Value.int .i64 4], [Value.int .i64 1, Value.slice none 0 0], Aa, Aa, ⟨[Value.int .i64 1], [Value.slice none 0 0], Aa, Aa, ⟨_, Aa, (Sl.nil (r := Bl))⟩⟩⟩⟩⟩), Aa⟩⟩ fun v1 a w W F => ?_
 refine ls W F Aa (CM (v := Value.agg #[.int .i64 3, .int .i64 0, .int .i64 0, .int .i64 0, .slice none 0 0, .int .i64 0, .int .i64 0, v1]) Rj W Aa (A9 Aa Aa Aa (A9 Aa (DG (F.one (k := 0) Aa)) Aa Dc)) Aa).q fun a w W F => ?_
 refine AF (cs := (AB)) W F Aa Fx Aa fun b1 a w W F => ?_
 refine DZ 0 W F Aa Aa Aa Is Aa Aa (Af Aa (Af Aa (Af Aa (Af Aa (Af Aa (Af Aa (Af Aa (Af (F.one (k := 0) Aa) CT)))))))) fun w F => ?_
 refine Gz tk 5 [0] W F (ai fun a w W F => ?_)
 refine ls W F Aa (RK (v := Value.agg #[.int .i64 7, .int .i64 2, .int .i64 0, .int .i64 0]) Sf Wn W Aa Aa Aa).q fun a w W F => ?_
 obtain ⟨x1, h1, H⟩ := Ag H
 have F := F.freeze
 refine A7 (Ml := []) (Zl := []) (β := Value) (rv := fun x => x) (MM := fun x => []) (ZZ := fun x => [row x 63 Bo x1]) W F XQ Aa Aa (fun hL => JT _ w (Value.slice none 0 0) (v1) (Tr37.of (3, Tr34.of (0, 0, 0, ([] : List Tr34)), 0, 0, ([Tr37.of (2, Tr34.of (0, 0, 0, ([] : List Tr34)), 1, 3, ([] : List Tr37)), Tr37.of (2, Tr34.of (0, 0, 0, ([] : List Tr34)), 4, 1, ([] : List Tr37))] : List Tr37))) 0 5 (7, 2, 0, 0) _ h1 Sl.nil (F.item (i := 0) Aa)) fun x a w W F => ?_
 obtain ⟨v2, rfl⟩ : ∃ y, y = x := ⟨x, rfl⟩
 have F : Stw ⟨Y, [], w0⟩ (Oe b1 v1) [row v2 63 Bo x1, B7 v1 Bl ([Tr37.of (2, Tr34.of (0, 0, 0, ([] : List Tr34)), 1, 3, ([] : List Tr37)), Tr37.of (2, Tr34.of (0, 0, 0, ([] : List Tr34)), 4, 1, ([] : List Tr37))] : List Tr37)] w := F
 refine vl tk 2 W F fun a w W F => ?_
 refine Ad ?_
 obtain ⟨o1, G1, K1⟩ := Ag H
 refine AA (fun a w => ∃ x2 : Bool, some (x2) = some o1 ∧ Fr 35 [] [(0, .bool x2)] a ∧ Stw ⟨Y, [], w0⟩ (Oe b1 v1) [B7 v1 Bl ([Tr37.of (2, Tr34.of (0, 0, 0, ([] : List Tr34)), 1, 3, ([] : List Tr37)), Tr37.of (2, Tr34.of (0, 0, 0, ([] : List Tr34)), 4, 1, ([] : List Tr37))] : List Tr37)] w) ?_ ?_
 ·
  have H := G1
  clear G1 K1
  refine vc tk 2 W F fun a w W F => ?_
  refine ls W F Aa (C2 (r := Bo) (l := x1) ST Aa W Aa (Al 0 Aa)).q fun a w W F => ?_
  refine vl tk 2 W F fun a w W F => ?_
  rcases bxq (decide ((x1.length : Int) = 1)) with hb | hb
  ·
   have H := Cg (CQ hb) H
   rw [hb] at W
   clear hb
   refine Hu W F (Ac W Aa Aa Aa Aa) Aa (Ao Aa) (Aq W Aa).q fun a w W F => ?_
   obtain ⟨x3, h2, H⟩ := Ag H
   refine Hu W F (Ac W Aa Aa Aa Aa) Aa (Ao Aa) (Aw (r := Bo) EJ W Aa Aa (Al 0 Aa) h2).q fun a w W F => ?_
   refine Hu W F (Ac W Aa Aa Aa Aa) Aa (Ao Aa) (An (y := Value.agg #[.int .i64 x3.1, .int .i64 x3.2.1, .int .i64 x3.2.2.1, .int .i64 x3.2.2.2.1, .int .i64 x3.2.2.2.2]) (j := 0) (i := 0) W Aa Aa (Al 0 Aa) h2 EM.to D4 Aa).q fun a w W F => ?_
   refine Hu W F (Ac W Aa Aa Aa Aa) Aa (Ao Aa) (RK (v := Value.agg #[.int .i64 7, .int .i64 3, .int .i64 0, .int .i64 0]) Sf Wn W Aa Aa Aa).q fun a w W F => ?_
   refine Hu W F (Ac W Aa Aa Aa Aa) Aa (Ao Aa) (CM (v := Value.agg #[.int .i64 1, .int .i64 7, .int .i64 3, .int .i64 0, .int .i64 0]) YS W Aa Aa Aa).q fun a w W F => ?_
   refine Hu W F (Ac W Aa Aa Aa Aa) Aa (Ao Aa) (WP (t := decide (x3.1 = 1 ∧ x3.2.1 = 7 ∧ x3.2.2.1 = 3 ∧ x3.2.2.2.1 = 0 ∧ x3.2.2.2.2 = 0)) YH (X5 _ _ _ _ _ _ _ _ _ _) W Aa Aa).q fun a w W F => ?_
   refine vl tk 2 W F fun a w W F => ?_
   rcases bxq (decide (x3.1 = 1 ∧ x3.2.1 = 7 ∧ x3.2.2.1 = 3 ∧ x3.2.2.2.1 = 0 ∧ x3.2.2.2.2 = 0)) with hb | hb
   ·
    have H := Cg (CQ hb) H
    rw [hb] at W
    clear hb
    refine Hu W F (Ac W Aa Aa Aa Aa) Aa (Ao Aa) (Bu (v := Value.agg #[.int .i64 3, .int .i64 0, .int .i64 0, .int .i64 0, .slice none 0 0, .int .i64 0, .int .i64 0, v1]) 0 W Aa Aa Is Aa).q fun a w W F => ?_
    refine Iq (Ac W Aa Aa Aa Aa) ?_
    obtain ⟨x4, h3, H⟩ := Ag H
    refine ls W F Aa (AL (v := Value.string (bs x4)) W Yw Aa (fun w F => Pn any w (Value.slice none 0 0) (v1) (Tr37.of (3, Tr34.of (0, 0, 0, ([] : List Tr34)), 0, 0, ([Tr37.of (2, Tr34.of (0, 0, 0, ([] : List Tr34)), 1, 3, ([] : List Tr37)), Tr37.of (2, Tr34.of (0, 0, 0, ([] : List Tr34)), 4, 1, ([] : List Tr37))] : List Tr37))) _ h3 Sl.nil (Er (Ea 1 Aa) F) (hG.go0 F))) fun a w W F => ?_
    refine Hu W F (Ac W Aa Aa Aa Aa) Aa (Ao Aa) (WO (l := x4) (m := ([100, 115, 116, 32, 58, 61, 32, 51, 59, 32, 112, 111, 114, 116, 32, 58, 61, 32, 49] : List UInt8)) W Aa Aa).q fun a w W F => ?_
    refine vl tk 2 W F fun a w W F => ?_
    rcases bxq (decide (x4 = ([100, 115, 116, 32, 58, 61, 32, 51, 59, 32, 112, 111, 114, 116, 32, 58, 61, 32, 49] : List UInt8))) with hb | hb
    ·
     have H := Cg (CQ hb) H
     rw [hb] at W
     clear hb
     refine Hu W F (Ac W Aa Aa Aa Aa) Aa (Ao Aa) (Bu (v := Value.agg #[.int .i64 3, .int .i64 0, .int .i64 0, .int .i64 0, .slice none 0 0, .int .i64 0, .int .i64 0, v1]) 0 W Aa Aa Is Aa).q fun a w W F => ?_
     refine Iq (Ac W Aa Aa Aa Aa) ?_
     obtain ⟨x5, h4, H⟩ := Ag H
     refine ls W F Aa (AL (v := Value.bool x5) W H9 Aa (fun w F => O1 any w (Value.slice none 0 0) (v1) (Tr37.of (3, Tr34.of (0, 0, 0, ([] : List Tr34)), 0, 0, ([Tr37.of (2, Tr34.of (0, 0, 0, ([] : List Tr34)), 1, 3, ([] : List Tr37)), Tr37.of (2, Tr34.of (0, 0, 0, ([] : List Tr34)), 4, 1, ([] : List Tr37))] : List Tr37))) _ h4 Sl.nil (Er (Ea 1 Aa) F))) fun a w W F => ?_
     refine vl tk 2 W F fun a w W F => ?_
     rcases bxq x5 with hb | hb
     ·
      have H := Cg hb H
      rw [hb] at W
      clear hb
      refine Hu W F (Ac W Aa Aa Aa Aa) Aa (Ao Aa) (Bu (v := Value.agg #[.int .i64 3, .int .i64 0, .int .i64 0, .int .i64 0, .slice none 0 0, .int .i64 0, .int .i64 0, v1]) 0 W Aa Aa Is Aa).q fun a w W F => ?_
      refine Iq (Ac W Aa Aa Aa Aa) ?_
      obtain ⟨x6, h5, H⟩ := Ag H
      refine ls W F Aa (AL (v := Value.int .i64 x6) W Wm Aa (fun w F => Lz any w (Value.slice none 0 0) (v1) (Tr37.of (3, Tr34.of (0, 0, 0, ([] : List Tr34)), 0, 0, ([Tr37.of (2, Tr34.of (0, 0, 0, ([] : List Tr34)), 1, 3, ([] : List Tr37)), Tr37.of (2, Tr34.of (0, 0, 0, ([] : List Tr34)), 4, 1, ([] : List Tr37))] : List Tr37))) _ h5 Sl.nil (Er (Ea 1 Aa) F))) fun a w W F => ?_
      refine vl tk 4 W F fun a w W F => ?_
      refine Ad ?_
      have F := F.frontZ (i := 1) Aa Aa
      have F := F.sub (M' := (Oe b1 v1)) (Z' := [B7 v1 Bl ([Tr37.of (2, Tr34.of (0, 0, 0, ([] : List Tr34)), 1, 3, ([] : List Tr37)), Tr37.of (2, Tr34.of (0, 0, 0, ([] : List Tr34)), 4, 1, ([] : List Tr37))] : List Tr37)]) (List.Sublist.refl _) (List.Sublist.cons_cons _ (List.nil_sublist _))
      exact ⟨_, H, W.ra Aa, F⟩
     have H := Cf (by rw [hb]; decide) H
     rw [hb] at W
     clear hb
     refine vl tk 6 W F fun a w W F => ?_
     refine Ad ?_
     have F := F.frontZ (i := 1) Aa Aa
     have F := F.sub (M' := (Oe b1 v1)) (Z' := [B7 v1 Bl ([Tr37.of (2, Tr34.of (0, 0, 0, ([] : List Tr34)), 1, 3, ([] : List Tr37)), Tr37.of (2, Tr34.of (0, 0, 0, ([] : List Tr34)), 4, 1, ([] : List Tr37))] : List Tr37)]) (List.Sublist.refl _) (List.Sublist.cons_cons _ (List.nil_sublist _))
     exact ⟨_, H, W.ra Aa, F⟩
    have H := Cf (CO hb) H
    rw [hb] at W
    clear hb
    refine vl tk 10 W F fun a w W F => ?_
    refine Ad ?_
    have F := F.frontZ (i := 1) Aa Aa
    have F := F.sub (M' := (Oe b1 v1)) (Z' := [B7 v1 Bl ([Tr37.of (2, Tr34.of (0, 0, 0, ([] : List Tr34)), 1, 3, ([] : List Tr37)), Tr37.of (2, Tr34.of (0, 0, 0, ([] : List Tr34)), 4, 1, ([] : List Tr37))] : List Tr37)]) (List.Sublist.refl _) (List.Sublist.cons_cons _ (List.nil_sublist _))
    exact ⟨_, H, W.ra Aa, F⟩
   have H := Cf (CO hb) H
   rw [hb] at W
   clear hb
   refine vl tk 15 W F fun a w W F => ?_
   refine Ad ?_
   have F := F.frontZ (i := 1) Aa Aa
   have F := F.sub (M' := (Oe b1 v1)) (Z' := [B7 v1 Bl ([Tr37.of (2, Tr34.of (0, 0, 0, ([] : List Tr34)), 1, 3, ([] : List Tr37)), Tr37.of (2, Tr34.of (0, 0, 0, ([] : List Tr34)), 4, 1, ([] : List Tr37))] : List Tr37)]) (List.Sublist.refl _) (List.Sublist.cons_cons _ (List.nil_sublist _))
   exact ⟨_, H, W.ra Aa, F⟩
  have H := Cf (CO hb) H
  rw [hb] at W
  clear hb
  refine vl tk 23 W F fun a w W F => ?_
  refine Ad ?_
  have F := F.frontZ (i := 1) Aa Aa
  have F := F.sub (M' := (Oe b1 v1)) (Z' := [B7 v1 Bl ([Tr37.of (2, Tr34.of (0, 0, 0, ([] : List Tr34)), 1, 3, ([] : List Tr37)), Tr37.of (2, Tr34.of (0, 0, 0, ([] : List Tr34)), 4, 1, ([] : List Tr37))] : List Tr37)]) (List.Sublist.refl _) (List.Sublist.cons_cons _ (List.nil_sublist _))
  exact ⟨_, H, W.ra Aa, F⟩
 rintro a w ⟨x2, hj, W, F⟩
 have hj := AC hj
 subst hj
 have H := K1
 clear G1 K1
 refine Am ?_
 have H := AC H
 subst H
 refine Ax (.inl Aa) W F Aa (Ap W Aa) ?_
 exact ⟨rfl, F.done⟩
theorem H7 : Has Tryz.prog 7 := CP Tryz.func7
theorem Xu : Has Tryz.prog 28 := CP Tryz.func28
abbrev Pf (a0 : Nat) (a1 : Tr24) (a2 : Value) (a3 : Nat) (a4 : Nat) (a5 : Value) : List (Nat × List Value) := [(a0, [.int .i64 a1.un.1, .int .i64 a1.un.2.1, .int .i64 a1.un.2.2.1, a2]), (a3, [.int .i64 0, .int .i64 0, .int .i64 0, .slice none 0 0]), (a4, [.int .i64 a1.un.1, .int .i64 a1.un.2.1, .int .i64 a1.un.2.2.1, a5])]
def DR (fRec : Tr24 → Option Tr34) (p0 : Tr24) : (Int × List Tr34) → Option ((Int × List Tr34) ⊕ (List Tr34))
  | (x2, x3) => (if x2 < (p0.un.2.2.2.length : Int) then (ix p0.un.2.2.2 x2).bind fun x4 => (fRec x4).bind fun x5 => (IF x3 ([x5] : List Tr34)).bind fun x6 => some (.inl (AU (x2 + 1), x6)) else some (.inr x3))
def Fp (fRec : Tr24 → Option Tr34) (p0 : Tr24) : Option Tr34 := (Ba (DR fRec p0) (0, [])).bind fun x1 => some (Tr34.of (p0.un.1, p0.un.2.1, p0.un.2.2.1, x1))
def Ev : Nat → Tr24 → Option Tr34
  | 0 => fun _ => none
  | n + 1 => Fp (Ev n)
def Kn (p0 : Tr24) : Option Tr34 := HC fun n => Ev n p0
theorem Qb (fRec : Tr24 → Option Tr34) (ih : ∀ (Y : Nat → Prop) (w0 : World) (v1 : Value) (p0 : Tr24) (r : Tr34) (H : fRec p0 = some r) (h_v1 : Sl w0 (NX []) DT v1 p0.un.2.2.2), Calls Tryz.prog 28 #[.agg #[.int .i64 p0.un.1, .int .i64 p0.un.2.1, .int .i64 p0.un.2.2.1, v1]] w0 fun e w' => ∃ x : Value, e = .returned (.agg #[.int .i64 r.un.1, .int .i64 r.un.2.1, .int .i64 r.un.2.2.1, x]) ∧ Stw ⟨Y, [], w0⟩ [] [row (x) 34 Bj r.un.2.2.2] w') (Y : Nat → Prop) (w0 : World) (v1 : Value) (p0 : Tr24) (r : Tr34) (H : Fp fRec p0 = some r) (h_v1 : Sl w0 (NX []) DT v1 p0.un.2.2.2) :
    Calls Tryz.prog 28 #[.agg #[.int .i64 p0.un.1, .int .i64 p0.un.2.1, .int .i64 p0.un.2.2.1, v1]] w0 fun e w' => ∃ x : Value, e = .returned (.agg #[.int .i64 r.un.1, .int .i64 r.un.2.1, .int .i64 r.un.2.2.1, x]) ∧ Stw ⟨Y, [], w0⟩ [] [row (x) 34 Bj r.un.2.2.2] w' := by
 refine enter Tryz.func28 Aa Tryz.ntmps28 Aa fun a W => ?_
 have F := Stw.start Y w0
 obtain ⟨v2, h1, h_v1⟩ := h_v1.ex Da
 unfold Fp at H
 refine vc tk 2 W F fun a w W F => ?_
 refine CX (cs := (CD p0 v1)) W F Aa Aa Aa fun b1 a w W F => ?_
 refine AF (cs := (LH)) W F Aa Uw Aa fun b2 a w W F => ?_
 refine Gz tk 10 [1, 1, 1] W F (ai (ai (ai fun a w W F => ?_)))
 refine ls W F Aa (CM (v := Value.agg #[.int .i64 p0.un.1, .int .i64 p0.un.2.1, .int .i64 p0.un.2.2.1, .slice none 0 0]) XY W Aa Aa Aa).q fun a w W F => ?_
 refine AF (cs := (LH)) W F Aa Uw Aa fun b3 a w W F => ?_
 refine DZ 0 W F Aa Aa Aa MT Aa Aa Aa fun w F => ?_
 refine Fd (Ad ?_)
 obtain ⟨o1, G1, K1⟩ := Ag H
 refine AA (fun a w => ∃ x1 : List Tr34, ∃ v3 : Value, some (x1) = some o1 ∧ Fr 31 [] [(2, .pointer (some ⟨b2, 0, none⟩)), (3, .pointer (some ⟨b3, 0, none⟩))] a ∧ Stw ⟨Y, [], w0⟩ (Pf b3 p0 v3 b2 b1 v1) [row v3 34 Bj x1] w) ?_ ?_
 ·
  have H := G1
  clear G1 K1
  refine vc tk 6 W F fun a w W F => ?_
  have F := F.nilRow 34 Bj
  have F := F.frontM (i := 2) Aa Aa
  have F := F.frontM (i := 2) Aa Aa
  have F := F.frontM (i := 2) Aa Aa
  refine BN H (fun s a w => ∃ v4 : Value, Fr 31 [] [(1, .pointer (some ⟨b1, 0, none⟩)), (2, .pointer (some ⟨b2, 0, none⟩)), (3, .pointer (some ⟨b3, 0, none⟩)), (4, .int .i64 s.1)] a ∧ Stw ⟨Y, [], w0⟩ (Pf b3 p0 v4 b2 b1 v1) [row v4 34 Bj s.2] w) ⟨(Value.slice none 0 0), W.ra Aa, F⟩ fun s o a w H L2 hR => ?_
  obtain ⟨x2, x3⟩ := s
  obtain ⟨v4, W, F⟩ := hR
  have W : Fr 31 [] [(1, .pointer (some ⟨b1, 0, none⟩)), (2, .pointer (some ⟨b2, 0, none⟩)), (3, .pointer (some ⟨b3, 0, none⟩)), (4, .int .i64 x2)] a := W
  have F : Stw ⟨Y, [], w0⟩ (Pf b3 p0 v4 b2 b1 v1) [row v4 34 Bj x3] w := F
  rw [DR] at H
  refine FR tk 6 [2] W F (ai fun a w W F => ?_)
  refine ls W F Aa (C2 (r := DT) (l := p0.un.2.2.2) Rt Aa W Aa (Ak Da h1 (Ah h_v1))).q fun a w W F => ?_
  refine Cv tk 3 W F fun a w W F => ?_
  refine BU W Aa H (fun W H => ?_) fun W H => ?_
  ·
   refine Gp tk 4 W F fun a w W F => ?_
   obtain ⟨v5, h2, F⟩ := F.exR Co
   refine EX [(true, 0), (true, 1), (true, 2), (true, 3), (true, 4), (true, 5), (true, 6), (false, 7), (false, 8), (false, 9), (true, 10), (false, 11)] (CN ⟨Y, [], w0⟩ [(some 9, b3, [.int .i64 p0.un.1, .int .i64 p0.un.2.1, .int .i64 p0.un.2.2.1, v4]), (some 7, b1, [.int .i64 p0.un.1, .int .i64 p0.un.2.1, .int .i64 p0.un.2.2.1, v1])] []) (fun ch a d v w h => by cases d <;> exact h) MO (by kernel_rfl) F (fun w F => ⟨_, _, F, (all_cons (fun _ => (.head _)) (all_cons (fun _ => (.tail _ (.tail _ (.head _)))) Ab)), Ab⟩) fun w F => ?_
   refine BD (R := []) W Aa Aa (yC fun M Z hN hZ => As Lj Aa Aa Aa Th W Aa 3 Aa) Aa Aa fun a W => ?_
   refine BD (R := [9]) W Aa Aa (yC fun M Z hN hZ => Cw (cs := (CD p0 v4)) (v := v4) W Aa (hN ((some 9), b3, (CD p0 v4)) (.head _) Aa) Th Aa) (by kernel_rfl) Aa fun a W => ?_
   refine BD (R := []) W Aa Aa (yC fun M Z hN hZ => As NV Aa Aa Aa Uz W Aa 3 Aa) Aa Aa fun a W => ?_
   refine BD (R := [7, 6, 5]) W Aa Aa (yC fun M Z hN hZ => Cw (cs := (CD p0 v1)) (v := v1) W Aa (hN ((some 7), b1, (CD p0 v1)) (.tail _ (.head _)) Aa) Uz Aa) (by kernel_rfl) Aa fun a W => ?_
   refine BD (R := []) W Aa Aa (yC fun M Z hN hZ => Aq W Aa) Aa Aa fun a W => ?_
   obtain ⟨x4, h3, H⟩ := Ag H
   obtain ⟨v6, h4, h5⟩ := DQ h1 h3
   have h6 : LY v6 = [.int .i64 x4.un.1, .int .i64 x4.un.2.1, .int .i64 x4.un.2.2.1, (v6.2.2.2.1)] := congrArg (fun q : Tr24 => ([.int .i64 q.un.1, .int .i64 q.un.2.1, .int .i64 q.un.2.2.1, (v6.2.2.2.1)] : List Value)) h5
   refine BD (R := []) W Aa Aa (yC fun M Z hN hZ => Aw (r := M0) UE W Aa Aa (Ah h_v1) h4) Aa Aa fun a W => ?_
   refine BD (R := []) W Aa Aa (yC fun M Z hN hZ => An (y := Value.agg #[.int .i64 x4.un.1, .int .i64 x4.un.2.1, .int .i64 x4.un.2.2.1, (v6.2.2.2.1)]) (j := 0) (i := x2) (enc := LY) W Aa Aa (Ah h_v1) h4 Sc RY (by rw [h6]; rfl)) Aa Aa fun a W => ?_
   refine DU Aa ?_
   obtain ⟨x5, h7, H⟩ := Ag H
   refine A7 (Ml := []) (Zl := []) (β := Value) (rv := fun x => .agg #[.int .i64 x5.un.1, .int .i64 x5.un.2.1, .int .i64 x5.un.2.2.1, x]) (MM := fun x => []) (ZZ := fun x => [row x 34 Bj x5.un.2.2.2]) W F Xu Aa Aa (fun hL => ih _ w ((v6.2.2.2.1)) x4 _ h7 ((Br (Ah h_v1) h4 (Ai.snd (Ai.snd (Ai.snd Ai.here))) (congrArg (fun q : Tr24 => q.un.2.2.2) h5)) w F).nx) fun x a w W F => ?_
   obtain ⟨v7, rfl⟩ : ∃ y, y = x := ⟨x, rfl⟩
   have F : Stw ⟨Y, [], w0⟩ (Pf b3 p0 v4 b2 b1 v1) [row v7 34 Bj x5.un.2.2.2, row v4 34 Gr v5] w := F
   refine BG (N2 := []) (NZ2 := []) (N3 := [(some 9, b3, [.int .i64 p0.un.1, .int .i64 p0.un.2.1, .int .i64 p0.un.2.2.1, v4]), (some 7, b1, [.int .i64 p0.un.1, .int .i64 p0.un.2.1, .int .i64 p0.un.2.2.1, v1])]) (NZ3 := []) F Aa Aa (all_cons (fun _ => (.head _)) (all_cons (fun h => Ae (by kernel_rfl) h) Ab)) Ab ?_
   refine DU Aa ?_
   have F := F.freeze
   refine Gs (z := Value.agg #[.int .i64 0, .int .i64 0, .int .i64 0, .slice none 0 0]) (cs := (F1 x5 v7)) Bj ([x5] : List Tr34) W F Aa Tk Uw Aa Aa Aa (A9 Aa Aa Aa Dc) Aa Aa ⟨[Value.int .i64 x5.un.1, Value.int .i64 x5.un.2.1, Value.int .i64 x5.un.2.2.1, v7], _, Aa, (Hi.2 ⟨[Value.int .i64 x5.un.1], [Value.int .i64 x5.un.2.1, Value.int .i64 x5.un.2.2.1, v7], Aa, Aa, ⟨[Value.int .i64 x5.un.2.1], [Value.int .i64 x5.un.2.2.1, v7], Aa, Aa, ⟨[Value.int .i64 x5.un.2.2.1], [v7], Aa, Aa, ⟨_, Aa, (F.item (i := 0) Aa)⟩⟩⟩⟩), Aa⟩ fun v8 a w W F => ?_
   refine BG (N2 := []) (NZ2 := []) (N3 := [(some 9, b3, [.int .i64 p0.un.1, .int .i64 p0.un.2.1, .int .i64 p0.un.2.2.1, v4]), (some 7, b1, [.int .i64 p0.un.1, .int .i64 p0.un.2.1, .int .i64 p0.un.2.2.1, v1])]) (NZ3 := []) F Aa Aa (all_cons (fun _ => (.head _)) (all_cons (fun h => Ae (by kernel_rfl) h) Ab)) Ab ?_
   refine DU Aa ?_
   have F := F.frontZ (i := 2) Aa Aa
   have F := F.hideR Co h2
   obtain ⟨x6, h8, H⟩ := Ag H
   refine IQ (r := Bj) (i := 0) W F Aa Tk Aa Aa Aa Aa (JX F 1 Aa) h8 Aa fun v9 a w W F => ?_
   have F : Stw ⟨Y, [], w0⟩ (Pf b3 p0 v4 b2 b1 v1) [row v9 34 Bj x6, row v8 34 Bj ([x5] : List Tr34), B7 v7 Bj x5.un.2.2.2] w := F
   refine BG (N2 := []) (NZ2 := []) (N3 := [(some 9, b3, [.int .i64 p0.un.1, .int .i64 p0.un.2.1, .int .i64 p0.un.2.2.1, v4]), (some 7, b1, [.int .i64 p0.un.1, .int .i64 p0.un.2.1, .int .i64 p0.un.2.2.1, v1])]) (NZ3 := []) F Aa Aa (all_cons (fun h => Ae (by kernel_rfl) h) (all_cons (fun h => Ae (by kernel_rfl) h) Ab)) Ab ?_
   refine BD (R := []) W Aa Aa (yC fun M Z hN hZ => As Lj Aa Aa Aa Th W Aa 3 Aa) Aa Aa fun a W => ?_
   refine DU Aa ?_
   refine Mo (M' := (Pf b3 p0 v9 b2 b1 v1)) 0 W F Aa Aa Aa Th (F.one (k := 0) Aa) Aa Aa fun w F => ?_
   refine BG (N2 := []) (NZ2 := []) (N3 := [(some 9, b3, [.int .i64 p0.un.1, .int .i64 p0.un.2.1, .int .i64 p0.un.2.2.1, v4]), (some 7, b1, [.int .i64 p0.un.1, .int .i64 p0.un.2.1, .int .i64 p0.un.2.2.1, v1])]) (NZ3 := []) F Aa Aa (all_cons (fun h => Ae (by kernel_rfl) h) (all_cons (fun h => Ae (by kernel_rfl) h) Ab)) Ab ?_
   refine GM (AM ?_)
   refine vn tk 5 W F fun a w W F => ?_
   refine Ad ?_
   have F := F.frontM (i := 2) Aa Aa
   have F := F.frontM (i := 2) Aa Aa
   have F := F.frontM (i := 2) Aa Aa
   have F := F.sub (M' := (Pf b3 p0 v9 b2 b1 v1)) (Z' := [row v9 34 Bj x6]) (List.Sublist.refl _) (List.Sublist.cons_cons _ (List.nil_sublist _))
   exact ⟨_, H, (v9), W.ra Aa, F⟩
  refine BB ?_
  iterate 2 refine BR ?_
  refine Bx (Ad ?_)
  have F := F.frontM (i := 2) Aa Aa
  have F := F.frontM (i := 2) Aa Aa
  have F := F.frontM (i := 2) Aa Aa
  have H := L2 _ H
  exact ⟨_, (v4), H, W.ra Aa, F⟩
 rintro a w ⟨x1, v3, hj, W, F⟩
 have hj := AC hj
 subst hj
 have H := K1
 clear G1 K1
 refine FR tk 3 [0] W F (ai fun a w W F => ?_)
 refine DZ 1 W F Aa Aa Aa MT Aa Aa (Af Aa (Af Aa (Af Aa (Af (F.one (k := 0) Aa) CT)))) fun w F => ?_
 refine Cv tk 2 W F fun a w W F => ?_
 refine Am ?_
 have H := AC H
 subst H
 refine Ax (.inl Aa) W F Aa (Jc 1 W Aa Aa MT Aa) ?_
 have F := F.sub (M' := []) (Z' := [row v3 34 Bj x1]) (List.nil_sublist _) (List.Sublist.refl _)
 exact ⟨(v3), Aa, F⟩
theorem Q0 : ∀ (n : Nat) (Y : Nat → Prop) (w0 : World) (v1 : Value) (p0 : Tr24) (r : Tr34) (H : Ev n p0 = some r) (h_v1 : Sl w0 (NX []) DT v1 p0.un.2.2.2), Calls Tryz.prog 28 #[.agg #[.int .i64 p0.un.1, .int .i64 p0.un.2.1, .int .i64 p0.un.2.2.1, v1]] w0 fun e w' => ∃ x : Value, e = .returned (.agg #[.int .i64 r.un.1, .int .i64 r.un.2.1, .int .i64 r.un.2.2.1, x]) ∧ Stw ⟨Y, [], w0⟩ [] [row (x) 34 Bj r.un.2.2.2] w' := by
  intro n
  induction n with
  | zero => intro Y w0 v1 p0 r H; exact nomatch H
  | succ n ih => intro Y w0 v1 p0 r H h_v1; exact Qb (Ev n) ih Y w0 v1 p0 r H h_v1
theorem LM (Y : Nat → Prop) (w0 : World) (v1 : Value) (p0 : Tr24) (r : Tr34) (H : Kn p0 = some r) (h_v1 : Sl w0 (NX []) DT v1 p0.un.2.2.2) :
    Calls Tryz.prog 28 #[.agg #[.int .i64 p0.un.1, .int .i64 p0.un.2.1, .int .i64 p0.un.2.2.1, v1]] w0 fun e w' => ∃ x : Value, e = .returned (.agg #[.int .i64 r.un.1, .int .i64 r.un.2.1, .int .i64 r.un.2.2.1, x]) ∧ Stw ⟨Y, [], w0⟩ [] [row (x) 34 Bj r.un.2.2.2] w' := by
  obtain ⟨n, H⟩ := CZ H
  exact Q0 n Y w0 v1 p0 r H h_v1
theorem H8 : Has Tryz.prog 8 := CP Tryz.func8
abbrev Wq (a0 : Nat) (a1 : Tr27) (a2 : Tr34) (a3 : Value) (a4 : Nat) (a5 : Nat) (a6 : Value) (a7 : Value) : List (Nat × List Value) := [(a0, [.int .i64 a1.un.1, .int .i64 a2.un.1, .int .i64 a2.un.2.1, .int .i64 a2.un.2.2.1, a3, .int .i64 a1.un.2.2.1, .int .i64 a1.un.2.2.2.1, .slice none 0 0]), (a4, [.int .i64 0, .int .i64 0, .int .i64 0, .int .i64 0, .slice none 0 0, .int .i64 0, .int .i64 0, .slice none 0 0]), (a5, [.int .i64 a1.un.1, .int .i64 a1.un.2.1.un.1, .int .i64 a1.un.2.1.un.2.1, .int .i64 a1.un.2.1.un.2.2.1, a6, .int .i64 a1.un.2.2.1, .int .i64 a1.un.2.2.2.1, a7])]
abbrev Wz (a0 : Nat) (a1 : Nat) (a2 : Tr27) (a3 : Value) (a4 : Value) : List (Nat × List Value) := [(a0, [.int .i64 0, .int .i64 0, .int .i64 0, .int .i64 0, .slice none 0 0, .int .i64 0, .int .i64 0, .slice none 0 0]), (a1, [.int .i64 a2.un.1, .int .i64 a2.un.2.1.un.1, .int .i64 a2.un.2.1.un.2.1, .int .i64 a2.un.2.1.un.2.2.1, a3, .int .i64 a2.un.2.2.1, .int .i64 a2.un.2.2.2.1, a4])]
abbrev Wt (a0 : Nat) (a1 : Nat) (a2 : Nat) (a3 : Tr27) (a4 : Value) (a5 : Value) : List (Nat × List Value) := [(a0, [.int .i64 0, .int .i64 0, .int .i64 0, .int .i64 0, .slice none 0 0, .int .i64 0, .int .i64 0, .slice none 0 0]), (a1, [.int .i64 0, .int .i64 0, .int .i64 0, .int .i64 0, .slice none 0 0, .int .i64 0, .int .i64 0, .slice none 0 0]), (a2, [.int .i64 a3.un.1, .int .i64 a3.un.2.1.un.1, .int .i64 a3.un.2.1.un.2.1, .int .i64 a3.un.2.1.un.2.2.1, a4, .int .i64 a3.un.2.2.1, .int .i64 a3.un.2.2.2.1, a5])]
abbrev OB (a0 : Nat) (a1 : Tr27) (a2 : Tr34) (a3 : Value) (a4 : Value) (a5 : Nat) (a6 : Nat) (a7 : Value) (a8 : Value) : List (Nat × List Value) := [(a0, [.int .i64 a1.un.1, .int .i64 a2.un.1, .int .i64 a2.un.2.1, .int .i64 a2.un.2.2.1, a3, .int .i64 a1.un.2.2.1, .int .i64 a1.un.2.2.2.1, a4]), (a5, [.int .i64 0, .int .i64 0, .int .i64 0, .int .i64 0, .slice none 0 0, .int .i64 0, .int .i64 0, .slice none 0 0]), (a6, [.int .i64 a1.un.1, .int .i64 a1.un.2.1.un.1, .int .i64 a1.un.2.1.un.2.1, .int .i64 a1.un.2.1.un.2.2.1, a7, .int .i64 a1.un.2.2.1, .int .i64 a1.un.2.2.2.1, a8])]
abbrev U6 (a0 : Tr27) (a1 : Tr34) (a2 : Value) (a3 : Value) : List Value := [.int .i64 a0.un.1, .int .i64 a1.un.1, .int .i64 a1.un.2.1, .int .i64 a1.un.2.2.1, a2, .int .i64 a0.un.2.2.1, .int .i64 a0.un.2.2.2.1, a3]
def Ee (fRec : Tr27 → Option Tr37) (p0 : Tr27) : (Int × List Tr37) → Option ((Int × List Tr37) ⊕ (List Tr37))
  | (x3, x4) => (if x3 < (p0.un.2.2.2.2.length : Int) then (ix p0.un.2.2.2.2 x3).bind fun x5 => (fRec (Tr27.of (x5.un.1, Tr24.of (x5.un.2.1.un.1, x5.un.2.1.un.2.1, x5.un.2.1.un.2.2.1, x5.un.2.1.un.2.2.2), x5.un.2.2.1, x5.un.2.2.2.1, x5.un.2.2.2.2))).bind fun x6 => (IF x4 ([Tr37.of (x6.un.1, Tr34.of (x6.un.2.1.un.1, x6.un.2.1.un.2.1, x6.un.2.1.un.2.2.1, x6.un.2.1.un.2.2.2), x6.un.2.2.1, x6.un.2.2.2.1, x6.un.2.2.2.2)] : List Tr37)).bind fun x7 => some (.inl (AU (x3 + 1), x7)) else some (.inr x4))
def Fu (fRec : Tr27 → Option Tr37) (p0 : Tr27) : Option Tr37 := (Kn (Tr24.of (p0.un.2.1.un.1, p0.un.2.1.un.2.1, p0.un.2.1.un.2.2.1, p0.un.2.1.un.2.2.2))).bind fun x1 => (Ba (Ee fRec p0) (0, [])).bind fun x2 => some (Tr37.of (p0.un.1, x1, p0.un.2.2.1, p0.un.2.2.2.1, x2))
def EZ : Nat → Tr27 → Option Tr37
  | 0 => fun _ => none
  | n + 1 => Fu (EZ n)
def H4 (p0 : Tr27) : Option Tr37 := HC fun n => EZ n p0
theorem Qw (fRec : Tr27 → Option Tr37) (ih : ∀ (Y : Nat → Prop) (w0 : World) (v1 : Value) (v2 : Value) (p0 : Tr27) (r : Tr37) (H : fRec p0 = some r) (h_v1 : Sl w0 (NX []) DT v1 p0.un.2.1.un.2.2.2) (h_v2 : Sl w0 (NX []) Hx v2 p0.un.2.2.2.2), Calls Tryz.prog 8 #[.agg #[.int .i64 p0.un.1, .int .i64 p0.un.2.1.un.1, .int .i64 p0.un.2.1.un.2.1, .int .i64 p0.un.2.1.un.2.2.1, v1, .int .i64 p0.un.2.2.1, .int .i64 p0.un.2.2.2.1, v2]] w0 fun e w' => ∃ x : Value × Value, e = .returned (.agg #[.int .i64 r.un.1, .int .i64 r.un.2.1.un.1, .int .i64 r.un.2.1.un.2.1, .int .i64 r.un.2.1.un.2.2.1, x.1, .int .i64 r.un.2.2.1, .int .i64 r.un.2.2.2.1, x.2]) ∧ Stw ⟨Y, [], w0⟩ [] [row (x.1) 34 Bj r.un.2.1.un.2.2.2, row (x.2) 37 Bl r.un.2.2.2.2] w') (Y : Nat → Prop) (w0 : World) (v1 : Value) (v2 : Value) (p0 : Tr27) (r : Tr37) (H : Fu fRec p0 = some r) (h_v1 : Sl w0 (NX []) DT v1 p0.un.2.1.un.2.2.2) (h_v2 : Sl w0 (NX []) Hx v2 p0.un.2.2.2.2) :
    Calls Tryz.prog 8 #[.agg #[.int .i64 p0.un.1, .int .i64 p0.un.2.1.un.1, .int .i64 p0.un.2.1.un.2.1, .int .i64 p0.un.2.1.un.2.2.1, v1, .int .i64 p0.un.2.2.1, .int .i64 p0.un.2.2.2.1, v2]] w0 fun e w' => ∃ x : Value × Value, e = .returned (.agg #[.int .i64 r.un.1, .int .i64 r.un.2.1.un.1, .int .i64 r.un.2.1.un.2.1, .int .i64 r.un.2.1.un.2.2.1, x.1, .int .i64 r.un.2.2.1, .int .i64 r.un.2.2.2.1, x.2]) ∧ Stw ⟨Y, [], w0⟩ [] [row (x.1) 34 Bj r.un.2.1.un.2.2.2, row (x.2) 37 Bl r.un.2.2.2.2] w' := by
 refine enter Tryz.func8 Aa Tryz.ntmps8 Aa fun a W => ?_
 have F := Stw.start Y w0
 obtain ⟨v3, h1, h_v1⟩ := h_v1.ex Da
 obtain ⟨v4, h2, h_v2⟩ := h_v2.ex Ej
 unfold Fu at H
 refine vc tk 2 W F fun a w W F => ?_
 refine CX (cs := (Av p0 v1 v2)) W F Aa Aa Aa fun b1 a w W F => ?_
 refine AF (cs := (AB)) W F Aa Fx Aa fun b2 a w W F => ?_
 refine Cv tk 3 W F fun a w W F => ?_
 obtain ⟨x1, h3, H⟩ := Ag H
 refine N0 (fun a w => ∃ b3 : Nat, ∃ v5 : Value, Fr 34 [] [(0, .agg #[.int .i64 p0.un.1, .int .i64 p0.un.2.1.un.1, .int .i64 p0.un.2.1.un.2.1, .int .i64 p0.un.2.1.un.2.2.1, v1, .int .i64 p0.un.2.2.1, .int .i64 p0.un.2.2.2.1, v2]), (1, .pointer (some ⟨b1, 0, none⟩)), (2, .pointer (some ⟨b2, 0, none⟩)), (3, .pointer (some ⟨b3, 0, none⟩)), (5, .pointer (some ⟨b1, 0, none⟩)), (6, .int .i64 p0.un.1), (7, .pointer (some ⟨b1, 1, none⟩)), (8, .agg #[.int .i64 p0.un.2.1.un.1, .int .i64 p0.un.2.1.un.2.1, .int .i64 p0.un.2.1.un.2.2.1, v1]), (9, .agg #[.int .i64 x1.un.1, .int .i64 x1.un.2.1, .int .i64 x1.un.2.2.1, v5]), (10, .pointer (some ⟨b1, 5, none⟩)), (11, .int .i64 p0.un.2.2.1), (12, .pointer (some ⟨b1, 6, none⟩)), (13, .int .i64 p0.un.2.2.2.1), (14, .agg #[.int .i64 p0.un.1, .int .i64 x1.un.1, .int .i64 x1.un.2.1, .int .i64 x1.un.2.2.1, v5, .int .i64 p0.un.2.2.1, .int .i64 p0.un.2.2.2.1, .slice none 0 0])] a ∧ Stw ⟨Y, [], w0⟩ (Wq b3 p0 x1 v5 b2 b1 v1 v2) [row v5 34 Bj x1.un.2.2.2] w) ?_ ?_
 ·
  refine Ms (PT.st 0 (PT.st 1 (PT.st 2 (PT.st 3 (PT.st 5 (PT.st 6 (PT.st 7 (PT.st 8 (PT.alt 4 (PT.st 9 (PT.alt 10 (PT.alt 11 PT.done PT.stop) PT.stop)) (PT.alt 10 (PT.alt 4 (PT.st 9 (PT.alt 11 PT.done PT.stop)) PT.stop) PT.stop)))))))))) (CN ⟨Y, [], w0⟩ [(some 11, b1, [.int .i64 p0.un.1, .int .i64 p0.un.2.1.un.1, .int .i64 p0.un.2.1.un.2.1, .int .i64 p0.un.2.1.un.2.2.1, v1, .int .i64 p0.un.2.2.1, .int .i64 p0.un.2.2.2.1, v2]), (some 4, b1, [.int .i64 p0.un.1, .int .i64 p0.un.2.1.un.1, .int .i64 p0.un.2.1.un.2.1, .int .i64 p0.un.2.1.un.2.2.1, v1, .int .i64 p0.un.2.2.1, .int .i64 p0.un.2.2.2.1, v2])] []) (fun ch a d v w h => by cases d <;> exact h) MO (by kernel_rfl) F (fun w F => ⟨_, _, F, (all_cons (fun _ => (.tail _ (.head _))) (all_cons (fun _ => (.tail _ (.head _))) Ab)), Ab⟩) fun w F => ?_
  refine GT (R := []) W Aa Aa (yC fun M Z hN hZ => As Mr Aa Aa Aa T3 W Aa 0 Aa) Aa Aa fun a W => ?_
  refine GT (R := [11]) W Aa Aa (yC fun M Z hN hZ => Cw (cs := (Av p0 v1 v2)) (v := Value.int .i64 p0.un.1) W Aa (hN ((some 11), b1, (Av p0 v1 v2)) (.head _) Aa) T3 Aa) (by kernel_rfl) Aa fun a W => ?_
  refine GT (R := []) W Aa Aa (yC fun M Z hN hZ => As Mr Aa Aa Aa RY W Aa 1 Aa) Aa Aa fun a W => ?_
  refine GT (R := [4]) W Aa Aa (yC fun M Z hN hZ => Cw (cs := (Av p0 v1 v2)) (v := Value.agg #[.int .i64 p0.un.2.1.un.1, .int .i64 p0.un.2.1.un.2.1, .int .i64 p0.un.2.1.un.2.2.1, v1]) W Aa (hN ((some 4), b1, (Av p0 v1 v2)) (.tail _ (.head _)) Aa) RY Aa) (by kernel_rfl) Aa fun a W => ?_
  refine GT (R := []) W Aa Aa (yC fun M Z hN hZ => As Mr Aa Aa Aa T3 W Aa 5 Aa) Aa Aa fun a W => ?_
  refine GT (R := [11]) W Aa Aa (yC fun M Z hN hZ => Cw (cs := (Av p0 v1 v2)) (v := Value.int .i64 p0.un.2.2.1) W Aa (hN ((some 11), b1, (Av p0 v1 v2)) (.head _) Aa) T3 Aa) (by kernel_rfl) Aa fun a W => ?_
  refine GT (R := []) W Aa Aa (yC fun M Z hN hZ => As Mr Aa Aa Aa T3 W Aa 6 Aa) Aa Aa fun a W => ?_
  refine GT (R := [11]) W Aa Aa (yC fun M Z hN hZ => Cw (cs := (Av p0 v1 v2)) (v := Value.int .i64 p0.un.2.2.2.1) W Aa (hN ((some 11), b1, (Av p0 v1 v2)) (.head _) Aa) T3 Aa) (by kernel_rfl) Aa fun a W => ?_
  refine C9 Aa ?_ ?_
  ·
   refine A7 (Ml := []) (Zl := []) (β := Value) (rv := fun x => .agg #[.int .i64 x1.un.1, .int .i64 x1.un.2.1, .int .i64 x1.un.2.2.1, x]) (MM := fun x => []) (ZZ := fun x => [row x 34 Bj x1.un.2.2.2]) W F Xu Aa Aa (fun hL => LM _ w (v1) (Tr24.of (p0.un.2.1.un.1, p0.un.2.1.un.2.1, p0.un.2.1.un.2.2.1, p0.un.2.1.un.2.2.2)) _ h3 ((Ak Da h1 (Ah h_v1)) w F).nx) fun x a w W F => ?_
   obtain ⟨v5, rfl⟩ : ∃ y, y = x := ⟨x, rfl⟩
   have F : Stw ⟨Y, [], w0⟩ (Wz b2 b1 p0 v1 v2) [row v5 34 Bj x1.un.2.2.2] w := F
   refine DJ (N2 := []) (NZ2 := []) (N3 := [(some 11, b1, [.int .i64 p0.un.1, .int .i64 p0.un.2.1.un.1, .int .i64 p0.un.2.1.un.2.1, .int .i64 p0.un.2.1.un.2.2.1, v1, .int .i64 p0.un.2.2.1, .int .i64 p0.un.2.2.2.1, v2]), (some 4, b1, [.int .i64 p0.un.1, .int .i64 p0.un.2.1.un.1, .int .i64 p0.un.2.1.un.2.1, .int .i64 p0.un.2.1.un.2.2.1, v1, .int .i64 p0.un.2.2.1, .int .i64 p0.un.2.2.2.1, v2])]) (NZ3 := []) F Aa Aa (all_cons (fun _ => (.tail _ (.head _))) (all_cons (fun h => Ae (by kernel_rfl) h) Ab)) Ab ?_
   refine GT (R := []) W Aa Aa (yC fun M Z hN hZ => CM (v := Value.agg #[.int .i64 p0.un.1, .int .i64 x1.un.1, .int .i64 x1.un.2.1, .int .i64 x1.un.2.2.1, v5, .int .i64 p0.un.2.2.1, .int .i64 p0.un.2.2.2.1, .slice none 0 0]) Rj W Aa (A9 Aa Aa Aa (A9 Aa Aa Aa (A9 Aa Aa Aa (A9 Aa Aa Aa Dc)))) Aa) Aa Aa fun a W => ?_
   refine Gw Aa ?_
   refine AF (cs := (AB)) W F Aa Fx Aa fun b3 a w W F => ?_
   refine DJ (N2 := []) (NZ2 := []) (N3 := [(some 11, b1, [.int .i64 p0.un.1, .int .i64 p0.un.2.1.un.1, .int .i64 p0.un.2.1.un.2.1, .int .i64 p0.un.2.1.un.2.2.1, v1, .int .i64 p0.un.2.2.1, .int .i64 p0.un.2.2.2.1, v2]), (some 4, b1, [.int .i64 p0.un.1, .int .i64 p0.un.2.1.un.1, .int .i64 p0.un.2.1.un.2.1, .int .i64 p0.un.2.1.un.2.2.1, v1, .int .i64 p0.un.2.2.1, .int .i64 p0.un.2.2.2.1, v2])]) (NZ3 := []) F Aa Aa (all_cons (fun _ => (.tail _ (.tail _ (.head _)))) (all_cons (fun h => Ae (by kernel_rfl) h) Ab)) Ab ?_
   refine Gw Aa ?_
   refine DZ 0 W F Aa Aa Aa Is Aa Aa (Af Aa (Af Aa (Af Aa (Af Aa (Af (F.one (k := 0) Aa) (Af Aa (Af Aa (Af Aa CT)))))))) fun w F => ?_
   refine DJ (N2 := []) (NZ2 := []) (N3 := [(some 11, b1, [.int .i64 p0.un.1, .int .i64 p0.un.2.1.un.1, .int .i64 p0.un.2.1.un.2.1, .int .i64 p0.un.2.1.un.2.2.1, v1, .int .i64 p0.un.2.2.1, .int .i64 p0.un.2.2.2.1, v2]), (some 4, b1, [.int .i64 p0.un.1, .int .i64 p0.un.2.1.un.1, .int .i64 p0.un.2.1.un.2.1, .int .i64 p0.un.2.1.un.2.2.1, v1, .int .i64 p0.un.2.2.1, .int .i64 p0.un.2.2.2.1, v2])]) (NZ3 := []) F Aa Aa (all_cons (fun h => Ae (by kernel_rfl) h) (all_cons (fun h => Ae (by kernel_rfl) h) Ab)) Ab ?_
   have F := F.frontM (i := 2) Aa Aa
   have F := F.frontM (i := 2) Aa Aa
   have F := F.frontM (i := 2) Aa Aa
   refine LK ?_
   exact ⟨b3, v5, W.ra Aa, F⟩
  refine C9 Aa ?_ ?_
  ·
   refine AF (cs := (AB)) W F Aa Fx Aa fun b3 a w W F => ?_
   refine DJ (N2 := []) (NZ2 := []) (N3 := [(some 11, b1, [.int .i64 p0.un.1, .int .i64 p0.un.2.1.un.1, .int .i64 p0.un.2.1.un.2.1, .int .i64 p0.un.2.1.un.2.2.1, v1, .int .i64 p0.un.2.2.1, .int .i64 p0.un.2.2.2.1, v2]), (some 4, b1, [.int .i64 p0.un.1, .int .i64 p0.un.2.1.un.1, .int .i64 p0.un.2.1.un.2.1, .int .i64 p0.un.2.1.un.2.2.1, v1, .int .i64 p0.un.2.2.1, .int .i64 p0.un.2.2.2.1, v2])]) (NZ3 := []) F Aa Aa (all_cons (fun _ => (.tail _ (.tail _ (.head _)))) (all_cons (fun _ => (.tail _ (.tail _ (.head _)))) Ab)) Ab ?_
   refine Gw Aa ?_
   refine A7 (Ml := []) (Zl := []) (β := Value) (rv := fun x => .agg #[.int .i64 x1.un.1, .int .i64 x1.un.2.1, .int .i64 x1.un.2.2.1, x]) (MM := fun x => []) (ZZ := fun x => [row x 34 Bj x1.un.2.2.2]) W F Xu Aa Aa (fun hL => LM _ w (v1) (Tr24.of (p0.un.2.1.un.1, p0.un.2.1.un.2.1, p0.un.2.1.un.2.2.1, p0.un.2.1.un.2.2.2)) _ h3 ((Ak Da h1 (Ah h_v1)) w F).nx) fun x a w W F => ?_
   obtain ⟨v5, rfl⟩ : ∃ y, y = x := ⟨x, rfl⟩
   have F : Stw ⟨Y, [], w0⟩ (Wt b3 b2 b1 p0 v1 v2) [row v5 34 Bj x1.un.2.2.2] w := F
   refine DJ (N2 := []) (NZ2 := []) (N3 := [(some 11, b1, [.int .i64 p0.un.1, .int .i64 p0.un.2.1.un.1, .int .i64 p0.un.2.1.un.2.1, .int .i64 p0.un.2.1.un.2.2.1, v1, .int .i64 p0.un.2.2.1, .int .i64 p0.un.2.2.2.1, v2]), (some 4, b1, [.int .i64 p0.un.1, .int .i64 p0.un.2.1.un.1, .int .i64 p0.un.2.1.un.2.1, .int .i64 p0.un.2.1.un.2.2.1, v1, .int .i64 p0.un.2.2.1, .int .i64 p0.un.2.2.2.1, v2])]) (NZ3 := []) F Aa Aa (all_cons (fun _ => (.tail _ (.tail _ (.head _)))) (all_cons (fun h => Ae (by kernel_rfl) h) Ab)) Ab ?_
   refine GT (R := []) W Aa Aa (yC fun M Z hN hZ => CM (v := Value.agg #[.int .i64 p0.un.1, .int .i64 x1.un.1, .int .i64 x1.un.2.1, .int .i64 x1.un.2.2.1, v5, .int .i64 p0.un.2.2.1, .int .i64 p0.un.2.2.2.1, .slice none 0 0]) Rj W Aa (A9 Aa Aa Aa (A9 Aa Aa Aa (A9 Aa Aa Aa (A9 Aa Aa Aa Dc)))) Aa) Aa Aa fun a W => ?_
   refine Gw Aa ?_
   refine DZ 0 W F Aa Aa Aa Is Aa Aa (Af Aa (Af Aa (Af Aa (Af Aa (Af (F.one (k := 0) Aa) (Af Aa (Af Aa (Af Aa CT)))))))) fun w F => ?_
   refine DJ (N2 := []) (NZ2 := []) (N3 := [(some 11, b1, [.int .i64 p0.un.1, .int .i64 p0.un.2.1.un.1, .int .i64 p0.un.2.1.un.2.1, .int .i64 p0.un.2.1.un.2.2.1, v1, .int .i64 p0.un.2.2.1, .int .i64 p0.un.2.2.2.1, v2]), (some 4, b1, [.int .i64 p0.un.1, .int .i64 p0.un.2.1.un.1, .int .i64 p0.un.2.1.un.2.1, .int .i64 p0.un.2.1.un.2.2.1, v1, .int .i64 p0.un.2.2.1, .int .i64 p0.un.2.2.2.1, v2])]) (NZ3 := []) F Aa Aa (all_cons (fun h => Ae (by kernel_rfl) h) (all_cons (fun h => Ae (by kernel_rfl) h) Ab)) Ab ?_
   have F := F.frontM (i := 2) Aa Aa
   have F := F.frontM (i := 2) Aa Aa
   have F := F.frontM (i := 2) Aa Aa
   refine LK ?_
   exact ⟨b3, v5, W.ra Aa, F⟩
  exact trivial
 rintro a w ⟨b3, v5, W, F⟩
 refine Ad ?_
 obtain ⟨o1, G1, K1⟩ := Ag H
 refine AA (fun a w => ∃ x2 : List Tr37, ∃ v6 : Value, some (x2) = some o1 ∧ Fr 34 [] [(2, .pointer (some ⟨b2, 0, none⟩)), (3, .pointer (some ⟨b3, 0, none⟩))] a ∧ Stw ⟨Y, [], w0⟩ (OB b3 p0 x1 v5 v6 b2 b1 v1 v2) [row v5 34 Bj x1.un.2.2.2, row v6 37 Bl x2] w) ?_ ?_
 ·
  have H := G1
  clear G1 K1
  refine vc tk 6 W F fun a w W F => ?_
  have F := F.nilRow 37 Bl
  have F := F.frontZ (i := 1) Aa Aa
  have F := F.frontM (i := 2) Aa Aa
  have F := F.frontM (i := 2) Aa Aa
  have F := F.frontM (i := 2) Aa Aa
  refine BN H (fun s a w => ∃ v7 : Value, Fr 34 [] [(1, .pointer (some ⟨b1, 0, none⟩)), (2, .pointer (some ⟨b2, 0, none⟩)), (3, .pointer (some ⟨b3, 0, none⟩)), (4, .int .i64 s.1)] a ∧ Stw ⟨Y, [], w0⟩ (OB b3 p0 x1 v5 v7 b2 b1 v1 v2) [row v5 34 Bj x1.un.2.2.2, row v7 37 Bl s.2] w) ⟨(Value.slice none 0 0), W.ra Aa, F⟩ fun s o a w H L2 hR => ?_
  obtain ⟨x3, x4⟩ := s
  obtain ⟨v7, W, F⟩ := hR
  have W : Fr 34 [] [(1, .pointer (some ⟨b1, 0, none⟩)), (2, .pointer (some ⟨b2, 0, none⟩)), (3, .pointer (some ⟨b3, 0, none⟩)), (4, .int .i64 x3)] a := W
  have F : Stw ⟨Y, [], w0⟩ (OB b3 p0 x1 v5 v7 b2 b1 v1 v2) [row v5 34 Bj x1.un.2.2.2, row v7 37 Bl x4] w := F
  rw [Ee] at H
  refine FR tk 6 [2] W F (ai fun a w W F => ?_)
  refine ls W F Aa (C2 (r := Hx) (l := p0.un.2.2.2.2) SR Aa W Aa (Ak Ej h2 (Ah h_v2))).q fun a w W F => ?_
  refine Cv tk 3 W F fun a w W F => ?_
  refine BU W Aa H (fun W H => ?_) fun W H => ?_
  ·
   refine Gp tk 4 W F fun a w W F => ?_
   obtain ⟨v8, h4, F⟩ := F.exR Co
   have F := F.frontZ (i := 1) Aa Aa
   obtain ⟨v9, h5, F⟩ := F.exR Dy
   refine EX [(true, 0), (true, 1), (true, 2), (true, 3), (true, 4), (true, 5), (true, 6), (false, 7), (false, 8), (false, 9), (true, 10), (false, 11)] (CN ⟨Y, [], w0⟩ [(some 9, b3, [.int .i64 p0.un.1, .int .i64 x1.un.1, .int .i64 x1.un.2.1, .int .i64 x1.un.2.2.1, v5, .int .i64 p0.un.2.2.1, .int .i64 p0.un.2.2.2.1, v7]), (some 7, b1, [.int .i64 p0.un.1, .int .i64 p0.un.2.1.un.1, .int .i64 p0.un.2.1.un.2.1, .int .i64 p0.un.2.1.un.2.2.1, v1, .int .i64 p0.un.2.2.1, .int .i64 p0.un.2.2.2.1, v2])] []) (fun ch a d v w h => by cases d <;> exact h) MO (by kernel_rfl) F (fun w F => ⟨_, _, F, (all_cons (fun _ => (.head _)) (all_cons (fun _ => (.tail _ (.tail _ (.head _)))) Ab)), Ab⟩) fun w F => ?_
   refine BD (R := []) W Aa Aa (yC fun M Z hN hZ => As JH Aa Aa Aa Ti W Aa 7 Aa) Aa Aa fun a W => ?_
   refine BD (R := [9]) W Aa Aa (yC fun M Z hN hZ => Cw (cs := (U6 p0 x1 v5 v7)) (v := v7) W Aa (hN ((some 9), b3, (U6 p0 x1 v5 v7)) (.head _) Aa) Ti Aa) (by kernel_rfl) Aa fun a W => ?_
   refine BD (R := []) W Aa Aa (yC fun M Z hN hZ => As Mr Aa Aa Aa Wl W Aa 7 Aa) Aa Aa fun a W => ?_
   refine BD (R := [7, 6, 5]) W Aa Aa (yC fun M Z hN hZ => Cw (cs := (Av p0 v1 v2)) (v := v2) W Aa (hN ((some 7), b1, (Av p0 v1 v2)) (.tail _ (.head _)) Aa) Wl Aa) (by kernel_rfl) Aa fun a W => ?_
   refine BD (R := []) W Aa Aa (yC fun M Z hN hZ => Aq W Aa) Aa Aa fun a W => ?_
   obtain ⟨x5, h6, H⟩ := Ag H
   obtain ⟨v10, h7, h8⟩ := DQ h2 h6
   have h9 : MX v10 = [.int .i64 x5.un.1, .int .i64 x5.un.2.1.un.1, .int .i64 x5.un.2.1.un.2.1, .int .i64 x5.un.2.1.un.2.2.1, (v10.2.1.2.2.2.1), .int .i64 x5.un.2.2.1, .int .i64 x5.un.2.2.2.1, (v10.2.2.2.2.1)] := congrArg (fun q : Tr27 => ([.int .i64 q.un.1, .int .i64 q.un.2.1.un.1, .int .i64 q.un.2.1.un.2.1, .int .i64 q.un.2.1.un.2.2.1, (v10.2.1.2.2.2.1), .int .i64 q.un.2.2.1, .int .i64 q.un.2.2.2.1, (v10.2.2.2.2.1)] : List Value)) h8
   refine BD (R := []) W Aa Aa (yC fun M Z hN hZ => Aw (r := P1) U8 W Aa Aa (Ah h_v2) h7) Aa Aa fun a W => ?_
   refine BD (R := []) W Aa Aa (yC fun M Z hN hZ => An (y := Value.agg #[.int .i64 x5.un.1, .int .i64 x5.un.2.1.un.1, .int .i64 x5.un.2.1.un.2.1, .int .i64 x5.un.2.1.un.2.2.1, (v10.2.1.2.2.2.1), .int .i64 x5.un.2.2.1, .int .i64 x5.un.2.2.2.1, (v10.2.2.2.2.1)]) (j := 0) (i := x3) (enc := MX) W Aa Aa (Ah h_v2) h7 Tf QI (by rw [h9]; rfl)) Aa Aa fun a W => ?_
   refine DU Aa ?_
   obtain ⟨x6, h10, H⟩ := Ag H
   refine A7 (Ml := []) (Zl := []) (β := Value × Value) (rv := fun x => .agg #[.int .i64 x6.un.1, .int .i64 x6.un.2.1.un.1, .int .i64 x6.un.2.1.un.2.1, .int .i64 x6.un.2.1.un.2.2.1, x.1, .int .i64 x6.un.2.2.1, .int .i64 x6.un.2.2.2.1, x.2]) (MM := fun x => []) (ZZ := fun x => [row x.1 34 Bj x6.un.2.1.un.2.2.2, row x.2 37 Bl x6.un.2.2.2.2]) W F H8 Aa Aa (fun hL => ih _ w ((v10.2.1.2.2.2.1)) ((v10.2.2.2.2.1)) (Tr27.of (x5.un.1, Tr24.of (x5.un.2.1.un.1, x5.un.2.1.un.2.1, x5.un.2.1.un.2.2.1, x5.un.2.1.un.2.2.2), x5.un.2.2.1, x5.un.2.2.2.1, x5.un.2.2.2.2)) _ h10 ((Br (Ah h_v2) h7 (Ai.snd (Ai.fst (Ai.snd (Ai.snd (Ai.snd Ai.here))))) (congrArg (fun q : Tr27 => q.un.2.1.un.2.2.2) h8)) w F).nx ((Br (Ah h_v2) h7 (Ai.snd (Ai.snd (Ai.snd (Ai.snd Ai.here)))) (congrArg (fun q : Tr27 => q.un.2.2.2.2) h8)) w F).nx) fun x a w W F => ?_
   obtain ⟨v11, v12⟩ := x
   have F : Stw ⟨Y, [], w0⟩ (OB b3 p0 x1 v5 v7 b2 b1 v1 v2) [row v11 34 Bj x6.un.2.1.un.2.2.2, row v12 37 Bl x6.un.2.2.2.2, row v7 37 Dd v9, row v5 34 Gr v8] w := F
   refine BG (N2 := []) (NZ2 := []) (N3 := [(some 9, b3, [.int .i64 p0.un.1, .int .i64 x1.un.1, .int .i64 x1.un.2.1, .int .i64 x1.un.2.2.1, v5, .int .i64 p0.un.2.2.1, .int .i64 p0.un.2.2.2.1, v7]), (some 7, b1, [.int .i64 p0.un.1, .int .i64 p0.un.2.1.un.1, .int .i64 p0.un.2.1.un.2.1, .int .i64 p0.un.2.1.un.2.2.1, v1, .int .i64 p0.un.2.2.1, .int .i64 p0.un.2.2.2.1, v2])]) (NZ3 := []) F Aa Aa (all_cons (fun _ => (.head _)) (all_cons (fun h => Ae (by kernel_rfl) h) Ab)) Ab ?_
   refine DU Aa ?_
   have F := F.freeze
   have F := F.frontZ (i := 1) Aa Aa
   have F := F.freeze
   refine Gs (z := Value.agg #[.int .i64 0, .int .i64 0, .int .i64 0, .int .i64 0, .slice none 0 0, .int .i64 0, .int .i64 0, .slice none 0 0]) (cs := (BE x6 v11 v12)) Bl ([Tr37.of (x6.un.1, Tr34.of (x6.un.2.1.un.1, x6.un.2.1.un.2.1, x6.un.2.1.un.2.2.1, x6.un.2.1.un.2.2.2), x6.un.2.2.1, x6.un.2.2.2.1, x6.un.2.2.2.2)] : List Tr37) W F Aa NC Fx Aa Aa Aa (A9 Aa Aa Aa Dc) Aa Aa ⟨[Value.int .i64 x6.un.1, Value.int .i64 x6.un.2.1.un.1, Value.int .i64 x6.un.2.1.un.2.1, Value.int .i64 x6.un.2.1.un.2.2.1, v11, Value.int .i64 x6.un.2.2.1, Value.int .i64 x6.un.2.2.2.1, v12], _, Aa, (HA.2 ⟨[Value.int .i64 x6.un.1], [Value.int .i64 x6.un.2.1.un.1, Value.int .i64 x6.un.2.1.un.2.1, Value.int .i64 x6.un.2.1.un.2.2.1, v11, Value.int .i64 x6.un.2.2.1, Value.int .i64 x6.un.2.2.2.1, v12], Aa, Aa, ⟨[Value.int .i64 x6.un.2.1.un.1, Value.int .i64 x6.un.2.1.un.2.1, Value.int .i64 x6.un.2.1.un.2.2.1, v11], [Value.int .i64 x6.un.2.2.1, Value.int .i64 x6.un.2.2.2.1, v12], Aa, (Hi.2 ⟨[Value.int .i64 x6.un.2.1.un.1], [Value.int .i64 x6.un.2.1.un.2.1, Value.int .i64 x6.un.2.1.un.2.2.1, v11], Aa, Aa, ⟨[Value.int .i64 x6.un.2.1.un.2.1], [Value.int .i64 x6.un.2.1.un.2.2.1, v11], Aa, Aa, ⟨[Value.int .i64 x6.un.2.1.un.2.2.1], [v11], Aa, Aa, ⟨_, Aa, (F.item (i := 1) Aa)⟩⟩⟩⟩), ⟨[Value.int .i64 x6.un.2.2.1], [Value.int .i64 x6.un.2.2.2.1, v12], Aa, Aa, ⟨[Value.int .i64 x6.un.2.2.2.1], [v12], Aa, Aa, ⟨_, Aa, (F.item (i := 0) Aa)⟩⟩⟩⟩⟩), Aa⟩ fun v13 a w W F => ?_
   refine BG (N2 := []) (NZ2 := []) (N3 := [(some 9, b3, [.int .i64 p0.un.1, .int .i64 x1.un.1, .int .i64 x1.un.2.1, .int .i64 x1.un.2.2.1, v5, .int .i64 p0.un.2.2.1, .int .i64 p0.un.2.2.2.1, v7]), (some 7, b1, [.int .i64 p0.un.1, .int .i64 p0.un.2.1.un.1, .int .i64 p0.un.2.1.un.2.1, .int .i64 p0.un.2.1.un.2.2.1, v1, .int .i64 p0.un.2.2.1, .int .i64 p0.un.2.2.2.1, v2])]) (NZ3 := []) F Aa Aa (all_cons (fun _ => (.head _)) (all_cons (fun h => Ae (by kernel_rfl) h) Ab)) Ab ?_
   refine DU Aa ?_
   have F := F.frontZ (i := 3) Aa Aa
   have F := F.hideR Dy h5
   obtain ⟨x7, h11, H⟩ := Ag H
   refine IQ (r := Bl) (i := 0) W F Aa NC Aa Aa Aa Aa (JX F 1 Aa) h11 Aa fun v14 a w W F => ?_
   have F : Stw ⟨Y, [], w0⟩ (OB b3 p0 x1 v5 v7 b2 b1 v1 v2) [row v14 37 Bl x7, row v13 37 Bl ([Tr37.of (x6.un.1, Tr34.of (x6.un.2.1.un.1, x6.un.2.1.un.2.1, x6.un.2.1.un.2.2.1, x6.un.2.1.un.2.2.2), x6.un.2.2.1, x6.un.2.2.2.1, x6.un.2.2.2.2)] : List Tr37), B7 v12 Bl x6.un.2.2.2.2, B7 v11 Bj x6.un.2.1.un.2.2.2, row v5 34 Gr v8] w := F
   refine BG (N2 := []) (NZ2 := []) (N3 := [(some 9, b3, [.int .i64 p0.un.1, .int .i64 x1.un.1, .int .i64 x1.un.2.1, .int .i64 x1.un.2.2.1, v5, .int .i64 p0.un.2.2.1, .int .i64 p0.un.2.2.2.1, v7]), (some 7, b1, [.int .i64 p0.un.1, .int .i64 p0.un.2.1.un.1, .int .i64 p0.un.2.1.un.2.1, .int .i64 p0.un.2.1.un.2.2.1, v1, .int .i64 p0.un.2.2.1, .int .i64 p0.un.2.2.2.1, v2])]) (NZ3 := []) F Aa Aa (all_cons (fun h => Ae (by kernel_rfl) h) (all_cons (fun h => Ae (by kernel_rfl) h) Ab)) Ab ?_
   refine BD (R := []) W Aa Aa (yC fun M Z hN hZ => As JH Aa Aa Aa Ti W Aa 7 Aa) Aa Aa fun a W => ?_
   refine DU Aa ?_
   refine Mo (M' := (OB b3 p0 x1 v5 v14 b2 b1 v1 v2)) 0 W F Aa Aa Aa Ti (F.one (k := 0) Aa) Aa Aa fun w F => ?_
   refine BG (N2 := []) (NZ2 := []) (N3 := [(some 9, b3, [.int .i64 p0.un.1, .int .i64 x1.un.1, .int .i64 x1.un.2.1, .int .i64 x1.un.2.2.1, v5, .int .i64 p0.un.2.2.1, .int .i64 p0.un.2.2.2.1, v7]), (some 7, b1, [.int .i64 p0.un.1, .int .i64 p0.un.2.1.un.1, .int .i64 p0.un.2.1.un.2.1, .int .i64 p0.un.2.1.un.2.2.1, v1, .int .i64 p0.un.2.2.1, .int .i64 p0.un.2.2.2.1, v2])]) (NZ3 := []) F Aa Aa (all_cons (fun h => Ae (by kernel_rfl) h) (all_cons (fun h => Ae (by kernel_rfl) h) Ab)) Ab ?_
   refine GM (AM ?_)
   refine vn tk 5 W F fun a w W F => ?_
   refine Ad ?_
   have F := F.frontZ (i := 4) Aa Aa
   have F := F.hideR Co h4
   have F := F.frontZ (i := 1) Aa Aa
   have F := F.frontZ (i := 1) Aa Aa
   have F := F.frontM (i := 2) Aa Aa
   have F := F.frontM (i := 2) Aa Aa
   have F := F.frontM (i := 2) Aa Aa
   have F := F.sub (M' := (OB b3 p0 x1 v5 v14 b2 b1 v1 v2)) (Z' := [row v5 34 Bj x1.un.2.2.2, row v14 37 Bl x7]) (List.Sublist.refl _) (List.Sublist.cons_cons _ (List.Sublist.cons_cons _ (List.nil_sublist _)))
   exact ⟨_, H, (v14), W.ra Aa, F⟩
  refine BB ?_
  iterate 2 refine BR ?_
  refine Bx (Ad ?_)
  have F := F.frontZ (i := 1) Aa Aa
  have F := F.frontZ (i := 1) Aa Aa
  have F := F.frontM (i := 2) Aa Aa
  have F := F.frontM (i := 2) Aa Aa
  have F := F.frontM (i := 2) Aa Aa
  have H := L2 _ H
  exact ⟨_, (v7), H, W.ra Aa, F⟩
 rintro a w ⟨x2, v6, hj, W, F⟩
 have hj := AC hj
 subst hj
 have H := K1
 clear G1 K1
 refine FR tk 3 [0] W F (ai fun a w W F => ?_)
 refine DZ 1 W F Aa Aa Aa Is Aa Aa (Af Aa (Af Aa (Af Aa (Af Aa (Af (F.one (k := 0) Aa) (Af Aa (Af Aa (Af (F.one (k := 1) Aa) CT)))))))) fun w F => ?_
 refine Cv tk 2 W F fun a w W F => ?_
 refine Am ?_
 have H := AC H
 subst H
 refine Ax (.inl Aa) W F Aa (Jc 1 W Aa Aa Is Aa) ?_
 have F := F.frontZ (i := 1) Aa Aa
 have F := F.frontZ (i := 1) Aa Aa
 have F := F.sub (M' := []) (Z' := [row v5 34 Bj x1.un.2.2.2, row v6 37 Bl x2]) (List.nil_sublist _) (List.Sublist.refl _)
 exact ⟨((v5), (v6)), Aa, F⟩
theorem QL : ∀ (n : Nat) (Y : Nat → Prop) (w0 : World) (v1 : Value) (v2 : Value) (p0 : Tr27) (r : Tr37) (H : EZ n p0 = some r) (h_v1 : Sl w0 (NX []) DT v1 p0.un.2.1.un.2.2.2) (h_v2 : Sl w0 (NX []) Hx v2 p0.un.2.2.2.2), Calls Tryz.prog 8 #[.agg #[.int .i64 p0.un.1, .int .i64 p0.un.2.1.un.1, .int .i64 p0.un.2.1.un.2.1, .int .i64 p0.un.2.1.un.2.2.1, v1, .int .i64 p0.un.2.2.1, .int .i64 p0.un.2.2.2.1, v2]] w0 fun e w' => ∃ x : Value × Value, e = .returned (.agg #[.int .i64 r.un.1, .int .i64 r.un.2.1.un.1, .int .i64 r.un.2.1.un.2.1, .int .i64 r.un.2.1.un.2.2.1, x.1, .int .i64 r.un.2.2.1, .int .i64 r.un.2.2.2.1, x.2]) ∧ Stw ⟨Y, [], w0⟩ [] [row (x.1) 34 Bj r.un.2.1.un.2.2.2, row (x.2) 37 Bl r.un.2.2.2.2] w' := by
  intro n
  induction n with
  | zero => intro Y w0 v1 v2 p0 r H; exact nomatch H
  | succ n ih => intro Y w0 v1 v2 p0 r H h_v1 h_v2; exact Qw (EZ n) ih Y w0 v1 v2 p0 r H h_v1 h_v2
theorem Cj (Y : Nat → Prop) (w0 : World) (v1 : Value) (v2 : Value) (p0 : Tr27) (r : Tr37) (H : H4 p0 = some r) (h_v1 : Sl w0 (NX []) DT v1 p0.un.2.1.un.2.2.2) (h_v2 : Sl w0 (NX []) Hx v2 p0.un.2.2.2.2) :
    Calls Tryz.prog 8 #[.agg #[.int .i64 p0.un.1, .int .i64 p0.un.2.1.un.1, .int .i64 p0.un.2.1.un.2.1, .int .i64 p0.un.2.1.un.2.2.1, v1, .int .i64 p0.un.2.2.1, .int .i64 p0.un.2.2.2.1, v2]] w0 fun e w' => ∃ x : Value × Value, e = .returned (.agg #[.int .i64 r.un.1, .int .i64 r.un.2.1.un.1, .int .i64 r.un.2.1.un.2.1, .int .i64 r.un.2.1.un.2.2.1, x.1, .int .i64 r.un.2.2.1, .int .i64 r.un.2.2.2.1, x.2]) ∧ Stw ⟨Y, [], w0⟩ [] [row (x.1) 34 Bj r.un.2.1.un.2.2.2, row (x.2) 37 Bl r.un.2.2.2.2] w' := by
  obtain ⟨n, H⟩ := CZ H
  exact QL n Y w0 v1 v2 p0 r H h_v1 h_v2
end
end Go.Proofs.YtpckgggmgijiiaaGreatDoor
