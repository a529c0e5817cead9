/- The functions of layer 30, JA. Conditions: none. -/
import Derived.Test.YtgoifghhcekahaaGreatDoorbA7
namespace Go.Proofs.YtgoifghhcekahaaGreatDoor
noncomputable section
open Go Go.RowKit
set_option linter.unusedVariables false
set_option linter.unusedSimpArgs false
set_option maxRecDepth 20000
theorem Xj : Has Tryz.prog 25 := ⟨fun args w => Aj Tryz.func25 rfl (by decide) args w⟩
def Du (fRec : Tr28 → Int → Option Tr28) (p0 : Tr28) (p1 : Int) (x3 : Int) (x4 : Int) : (List Tr28 × Int) → Option ((List Tr28 × Int) ⊕ ((List Tr28) ⊕ Tr28))
  | (x6, x7) => (if x7 < (p0.un.2.2.2.length : Int) then Je ((ix p0.un.2.2.2 x7).bind fun x9 => (fRec x9 p1).bind fun x10 => (if x10.un.1 = x4 then some (.inr (.inr (.inr x10))) else (if x10.un.1 ≠ x3 then (Ig x6 ([x10] : List Tr28)).bind fun x11 => some (.inl x11) else some (.inl x6)))) fun x8 => some (.inl (x8, AG (x7 + 1))) else some (.inr (.inl x6)))
def GQ (fRec : Tr28 → Int → Option Tr28) (p0 : Tr28) (p1 : Int) : Option Tr28 := (if (decide (p0.un.1 = 3) && decide (p0.un.2.1 = 5)) = true then (if p0.un.2.2.1 = p1 then some (Tr28.of (1, 0, 0, ([] : List Tr28))) else some (Tr28.of (2, 0, 0, ([] : List Tr28)))) else (if p0.un.1 < 4 then some p0 else (if p0.un.1 = 4 then (ix p0.un.2.2.2 0).bind fun x1 => (fRec x1 p1).bind fun x2 => (if (decide (x2.un.1 = 1) || decide (x2.un.1 = 2)) = true then some (Tr28.of (AG (3 - x2.un.1), 0, 0, ([] : List Tr28))) else some (Tr28.of (4, 0, 0, ([x2] : List Tr28)))) else (if p0.un.1 = 6 then some (2, 1) else some (1, 2)).bind fun (x3, x4) => Je (A6 (Du fRec p0 p1 x3 x4) ([], 0)) fun x5 => (if (x5.length : Int) = 0 then some (Tr28.of (x3, 0, 0, ([] : List Tr28))) else (if (x5.length : Int) = 1 then (ix x5 0).bind fun x12 => some x12 else some (Tr28.of (p0.un.1, 0, 0, x5)))))))
def FH : Nat → Tr28 → Int → Option Tr28
  | 0 => fun _ _ => none
  | n + 1 => GQ (FH n)
def RA (p0 : Tr28) (p1 : Int) : Option Tr28 := Jl fun n => FH n p0 p1
theorem RX (fRec : Tr28 → Int → Option Tr28) (ih : ∀ (Y : Nat → Prop) (w0 : World) (v1 : Value) (p0 : Tr28) (p1 : Int) (r : Tr28) (H : fRec p0 p1 = some r) (s_v1 : Sl w0 Y EC v1 p0.un.2.2.2), Calls Tryz.prog 25 #[.agg #[.int .i64 p0.un.1, .int .i64 p0.un.2.1, .int .i64 p0.un.2.2.1, v1], .int .i64 p1] w0 fun e w' => ∃ x : Value, e = .returned (.agg #[.int .i64 r.un.1, .int .i64 r.un.2.1, .int .i64 r.un.2.2.1, x]) ∧ Stw ⟨Y, [], w0⟩ [] [DE (x) EC r.un.2.2.2] w') (Y : Nat → Prop) (w0 : World) (v1 : Value) (p0 : Tr28) (p1 : Int) (r : Tr28) (H : GQ fRec p0 p1 = some r) (s_v1 : Sl w0 Y EC v1 p0.un.2.2.2) :
    Calls Tryz.prog 25 #[.agg #[.int .i64 p0.un.1, .int .i64 p0.un.2.1, .int .i64 p0.un.2.2.1, v1], .int .i64 p1] w0 fun e w' => ∃ x : Value, e = .returned (.agg #[.int .i64 r.un.1, .int .i64 r.un.2.1, .int .i64 r.un.2.2.1, x]) ∧ Stw ⟨Y, [], w0⟩ [] [DE (x) EC r.un.2.2.2] w' := by
 refine enter Tryz.func25 Aa Tryz.ntmps25 Aa fun a F => ?_
 have W := Stw.start Y w0
 obtain ⟨v2, h1, s_v1⟩ := s_v1.ex HJ
 have h_v1 := W.nx s_v1
 unfold GQ at H
 refine Ah (Ab ?_)
 refine CS (cs := [.int .i64 p0.un.1, .int .i64 p0.un.2.1, .int .i64 p0.un.2.2.1, v1]) F W Aa Aa Aa fun b1 a w F W => ?_
 refine Co (cs := [.int .i64 0, .int .i64 0, .int .i64 0, .slice none 0 0]) F W Aa Vl Aa fun b2 a w F W => ?_
 refine Ad (Ac (Ah ?_))
 refine AO (fun a w => Fr 98 [] [(1, .int .i64 p1), (2, .pointer (some ⟨b1, 0, none⟩)), (4, .pointer (some ⟨b2, 0, none⟩)), (18, .bool (decide (p0.un.1 = 3) && decide (p0.un.2.1 = 5)))] a ∧ Stw ⟨Y, [], w0⟩ [(b2, [.int .i64 0, .int .i64 0, .int .i64 0, .slice none 0 0]), (b1, [.int .i64 p0.un.1, .int .i64 p0.un.2.1, .int .i64 p0.un.2.2.1, v1])] [] w) ?_ ?_
 ·
  refine Ab ?_
  refine ls F W Aa (Ai DN Aa Aa Aa T3 F Aa 0 Aa).q fun a w F W => ?_
  refine ls F W Aa (Ao (v := Value.int .i64 p0.un.1) 1 F Aa Aa T3 Aa).q fun a w F W => ?_
  refine ls F W Aa (A7 F Aa Aa).q fun a w F W => ?_
  refine ls F W Aa (Ag F Aa).q fun a w F W => ?_
  rcases bxq (decide (p0.un.1 = 3)) with hb0 | hb0
  ·
   rw [hb0] at F
   refine AK F W (Af F Aa Aa Aa Aa) Aa (Ak Aa) (Ai DN Aa Aa Aa T3 F Aa 1 Aa).q fun a w F W => ?_
   refine AK F W (Af F Aa Aa Aa Aa) Aa (Ak Aa) (Ao (v := Value.int .i64 p0.un.2.1) 1 F Aa Aa T3 Aa).q fun a w F W => ?_
   refine AK F W (Af F Aa Aa Aa Aa) Aa (Ak Aa) (A7 F Aa Aa).q fun a w F W => ?_
   refine ls F W Aa (Ax F Aa Aa Aa).q fun a w F W => ?_
   refine Ad (Ac ?_)
   exact ⟨F.re ⟨rfl, Aa, Aa, (by show some (Value.bool (decide (p0.un.2.1 = 5))) = some (Value.bool (decide (p0.un.1 = 3) && decide (p0.un.2.1 = 5))); try rw [hb0]; all_goals simp only [Bool.not_true, Bool.not_false, Bool.true_and, Bool.false_and, Bool.true_or, Bool.false_or, Bool.and_true, Bool.or_false, cond_true, cond_false]), trivial⟩, W⟩
  rw [hb0] at F
  iterate 3 refine Dz F Aa Aa Aa Aa Aa Aa Aa fun a F => ?_
  refine ls F W Aa (As F Aa Aa Aa).q fun a w F W => ?_
  refine Ad (Ac ?_)
  exact ⟨F.re ⟨rfl, Aa, Aa, (by show some (Value.bool false) = some (Value.bool (decide (p0.un.1 = 3) && decide (p0.un.2.1 = 5))); try rw [hb0]; all_goals simp only [Bool.not_true, Bool.not_false, Bool.true_and, Bool.false_and, Bool.true_or, Bool.false_or, Bool.and_true, Bool.or_false, cond_true, cond_false]), trivial⟩, W⟩
 rintro a w ⟨F, W⟩
 refine Aw F Aa (fun hb => ?_) fun hb => ?_
 ·
  have H := AV hb H
  rw [hb] at F
  refine Ah (Ah (Ab ?_))
  refine ls F W Aa (Ai DN Aa Aa Aa T3 F Aa 2 Aa).q fun a w F W => ?_
  refine ls F W Aa (Ao (v := Value.int .i64 p0.un.2.2.1) 1 F Aa Aa T3 Aa).q fun a w F W => ?_
  refine ls F W Aa (Ag F Aa).q fun a w F W => ?_
  refine ls F W Aa (A7 F Aa Aa).q fun a w F W => ?_
  refine Ad (Ac ?_)
  refine Aw F Aa (fun hb => ?_) fun hb => ?_
  ·
   have H := AV (Bg hb) H
   rw [hb] at F
   refine Ah (Ab ?_)
   refine ls F W Aa (De (v := Value.agg #[.int .i64 1, .int .i64 0, .int .i64 0, .slice none 0 0]) VI F Aa Aa Aa).q fun a w F W => ?_
   refine Be (vs := [.int .i64 1, .int .i64 0, .int .i64 0, .slice none 0 0]) (M' := [(b2, [.int .i64 1, .int .i64 0, .int .i64 0, .slice none 0 0]), (b1, [.int .i64 p0.un.1, .int .i64 p0.un.2.1, .int .i64 p0.un.2.2.1, v1])]) 0 F W Aa Aa Aa Kh Aa Aa Aa Aa Aa fun w W => ?_
   refine Ad (Ac (Av ?_))
   iterate 2 refine AN ?_
   have H := AP H
   subst H
   refine AJ (.inl Aa) F W Aa (Dy 0 F Aa Aa Kh Aa) ?_
   have W := W.note (Sl.nil (r := EC))
   have W := W.sub (M' := []) (Z' := [DE (Value.slice none 0 0) EC ([])]) (List.nil_sublist _) (List.Sublist.refl _)
   exact ⟨(Value.slice none 0 0), Aa, W⟩
  have H := AR (Bf hb) H
  rw [hb] at F
  refine Ay (Ac (Ah (Ab ?_)))
  refine ls F W Aa (De (v := Value.agg #[.int .i64 2, .int .i64 0, .int .i64 0, .slice none 0 0]) VI F Aa Aa Aa).q fun a w F W => ?_
  refine Be (vs := [.int .i64 2, .int .i64 0, .int .i64 0, .slice none 0 0]) (M' := [(b2, [.int .i64 2, .int .i64 0, .int .i64 0, .slice none 0 0]), (b1, [.int .i64 p0.un.1, .int .i64 p0.un.2.1, .int .i64 p0.un.2.2.1, v1])]) 0 F W Aa Aa Aa Kh Aa Aa Aa Aa Aa fun w W => ?_
  refine Ad (Ac (Av (AN ?_)))
  have H := AP H
  subst H
  refine AJ (.inl Aa) F W Aa (Dy 0 F Aa Aa Kh Aa) ?_
  have W := W.note (Sl.nil (r := EC))
  have W := W.sub (M' := []) (Z' := [DE (Value.slice none 0 0) EC ([])]) (List.nil_sublist _) (List.Sublist.refl _)
  exact ⟨(Value.slice none 0 0), Aa, W⟩
 have H := AR (by rw [hb]; decide) H
 rw [hb] at F
 refine Ay (Ac (Ah (Ah (Ab ?_))))
 refine ls F W Aa (Ai DN Aa Aa Aa T3 F Aa 0 Aa).q fun a w F W => ?_
 refine ls F W Aa (Ao (v := Value.int .i64 p0.un.1) 1 F Aa Aa T3 Aa).q fun a w F W => ?_
 refine ls F W Aa (Cu F Aa Aa).q fun a w F W => ?_
 refine Ad (Ac ?_)
 refine Aw F Aa (fun hb => ?_) fun hb => ?_
 ·
  have H := AV (Bg hb) H
  rw [hb] at F
  refine Ah (Ab ?_)
  refine ls F W Aa (Ao (v := Value.agg #[.int .i64 p0.un.1, .int .i64 p0.un.2.1, .int .i64 p0.un.2.2.1, v1]) 1 F Aa Aa Kh Aa).q fun a w F W => ?_
  refine Be (vs := [.int .i64 p0.un.1, .int .i64 p0.un.2.1, .int .i64 p0.un.2.2.1, v1]) (M' := [(b2, [.int .i64 p0.un.1, .int .i64 p0.un.2.1, .int .i64 p0.un.2.2.1, v1]), (b1, [.int .i64 p0.un.1, .int .i64 p0.un.2.1, .int .i64 p0.un.2.2.1, v1])]) 0 F W Aa Aa Aa Kh Aa Aa Aa (An Aa (An Aa (An Aa (An h_v1.one Cq)))) Aa fun w W => ?_
  refine Ad (Ac (Av (AN ?_)))
  have H := AP H
  subst H
  refine AJ (.inl Aa) F W Aa (Dy 0 F Aa Aa Kh Aa) ?_
  have W := W.note (Sl.hide HJ h1 (W.old s_v1))
  have W := W.sub (M' := []) (Z' := [DE v1 EC p0.un.2.2.2]) (List.nil_sublist _) (List.Sublist.refl _)
  exact ⟨(v1), Aa, W⟩
 have H := AR (Bf hb) H
 rw [hb] at F
 refine Ay (Ac (Ah (Ah (Ab ?_))))
 refine ls F W Aa (Ai DN Aa Aa Aa T3 F Aa 0 Aa).q fun a w F W => ?_
 refine ls F W Aa (Ao (v := Value.int .i64 p0.un.1) 1 F Aa Aa T3 Aa).q fun a w F W => ?_
 refine ls F W Aa (A7 F Aa Aa).q fun a w F W => ?_
 refine Ad (Ac ?_)
 refine Aw F Aa (fun hb => ?_) fun hb => ?_
 ·
  have H := AV (Bg hb) H
  rw [hb] at F
  refine Ah (Ab ?_)
  refine ls F W Aa (Ai DN Aa Aa Aa LB F Aa 3 Aa).q fun a w F W => ?_
  refine ls F W Aa (Ao (v := v1) 1 F Aa Aa LB Aa).q fun a w F W => ?_
  obtain ⟨x1, h2, H⟩ := Am H
  obtain ⟨v3, h3, h4⟩ := Ez h1 h2
  have h5 : Kk v3 = [.int .i64 x1.un.1, .int .i64 x1.un.2.1, .int .i64 x1.un.2.2.1, (v3.2.2.2.1)] := congrArg (fun q : Tr28 => ([.int .i64 q.un.1, .int .i64 q.un.2.1, .int .i64 q.un.2.2.1, (v3.2.2.2.1)] : List Value)) h4
  refine ls F W Aa (AM (r := Mz) SH F Aa Aa (Aq h_v1) h3).q fun a w F W => ?_
  refine ls F W Aa (AA (y := Value.agg #[.int .i64 x1.un.1, .int .i64 x1.un.2.1, .int .i64 x1.un.2.2.1, (v3.2.2.2.1)]) (j := 0) (i := 0) (enc := Kk) F Aa Aa (Aq h_v1) h3 QD Kh (by rw [h5]; rfl)).q fun a w F W => ?_
  refine ls F W Aa (Ag F Aa).q fun a w F W => ?_
  obtain ⟨x2, h6, H⟩ := Am H
  refine Bj (Ml := []) (Zl := []) (M := [(b2, [.int .i64 0, .int .i64 0, .int .i64 0, .slice none 0 0]), (b1, [.int .i64 p0.un.1, .int .i64 p0.un.2.1, .int .i64 p0.un.2.2.1, v1])]) (Z := []) (β := Value) (rv := fun x => .agg #[.int .i64 x2.un.1, .int .i64 x2.un.2.1, .int .i64 x2.un.2.2.1, x]) (MM := fun x => []) (ZZ := fun x => [DE x EC x2.un.2.2.2]) F W Xj Aa Aa (fun hL => ih _ w ((v3.2.2.2.1)) x1 p1 _ h6 (Sl.at_ (W.old s_v1) h3 (AC.snd (AC.snd (AC.snd AC.here))) (congrArg (fun q : Tr28 => q.un.2.2.2) h4))) fun x a w F W => ?_
  obtain ⟨v4, rfl⟩ : ∃ y, y = x := ⟨x, rfl⟩
  have W : Stw ⟨Y, [], w0⟩ [(b2, [.int .i64 0, .int .i64 0, .int .i64 0, .slice none 0 0]), (b1, [.int .i64 p0.un.1, .int .i64 p0.un.2.1, .int .i64 p0.un.2.2.1, v1])] [DE v4 EC x2.un.2.2.2] w := W
  refine Co (cs := [.int .i64 0, .int .i64 0, .int .i64 0, .slice none 0 0]) F W Aa Vl Aa fun b3 a w F W => ?_
  refine Be (vs := [.int .i64 x2.un.1, .int .i64 x2.un.2.1, .int .i64 x2.un.2.2.1, v4]) (M' := [(b3, [.int .i64 x2.un.1, .int .i64 x2.un.2.1, .int .i64 x2.un.2.2.1, v4]), (b2, [.int .i64 0, .int .i64 0, .int .i64 0, .slice none 0 0]), (b1, [.int .i64 p0.un.1, .int .i64 p0.un.2.1, .int .i64 p0.un.2.2.1, v1])]) 0 F W Aa Aa Aa Kh Aa Aa Aa (An Aa (An Aa (An Aa (An (W.oneF (k := 0) Aa) Cq)))) Aa fun w W => ?_
  refine Ad (Ac (Ah ?_))
  refine AO (fun a w => Fr 98 [] [(1, .int .i64 p1), (2, .pointer (some ⟨b1, 0, none⟩)), (4, .pointer (some ⟨b2, 0, none⟩)), (5, .pointer (some ⟨b3, 0, none⟩)), (45, .bool (decide (x2.un.1 = 1) || decide (x2.un.1 = 2)))] a ∧ Stw ⟨Y, [], w0⟩ [(b3, [.int .i64 x2.un.1, .int .i64 x2.un.2.1, .int .i64 x2.un.2.2.1, v4]), (b2, [.int .i64 0, .int .i64 0, .int .i64 0, .slice none 0 0]), (b1, [.int .i64 p0.un.1, .int .i64 p0.un.2.1, .int .i64 p0.un.2.2.1, v1])] [DE v4 EC x2.un.2.2.2] w) ?_ ?_
  ·
   refine Ab ?_
   refine ls F W Aa (Ai DN Aa Aa Aa T3 F Aa 0 Aa).q fun a w F W => ?_
   refine ls F W Aa (Ao (v := Value.int .i64 x2.un.1) 0 F Aa Aa T3 Aa).q fun a w F W => ?_
   refine ls F W Aa (A7 F Aa Aa).q fun a w F W => ?_
   refine ls F W Aa (Ag F Aa).q fun a w F W => ?_
   rcases bxq (decide (x2.un.1 = 1)) with hb0 | hb0
   ·
    rw [hb0] at F
    iterate 3 refine Dz F Aa Aa Aa Aa Aa Aa Aa fun a F => ?_
    refine ls F W Aa (Ax F Aa Aa Aa).q fun a w F W => ?_
    refine Ad (Ac ?_)
    exact ⟨F.re ⟨rfl, Aa, Aa, Aa, (by show some (Value.bool true) = some (Value.bool (decide (x2.un.1 = 1) || decide (x2.un.1 = 2))); try rw [hb0]; all_goals simp only [Bool.not_true, Bool.not_false, Bool.true_and, Bool.false_and, Bool.true_or, Bool.false_or, Bool.and_true, Bool.or_false, cond_true, cond_false]), trivial⟩, W⟩
   rw [hb0] at F
   refine AK F W (Af F Aa Aa Aa Aa) Aa (Ak Aa) (Ai DN Aa Aa Aa T3 F Aa 0 Aa).q fun a w F W => ?_
   refine AK F W (Af F Aa Aa Aa Aa) Aa (Ak Aa) (Ao (v := Value.int .i64 x2.un.1) 0 F Aa Aa T3 Aa).q fun a w F W => ?_
   refine AK F W (Af F Aa Aa Aa Aa) Aa (Ak Aa) (A7 F Aa Aa).q fun a w F W => ?_
   refine ls F W Aa (As F Aa Aa Aa).q fun a w F W => ?_
   refine Ad (Ac ?_)
   exact ⟨F.re ⟨rfl, Aa, Aa, Aa, (by show some (Value.bool (decide (x2.un.1 = 2))) = some (Value.bool (decide (x2.un.1 = 1) || decide (x2.un.1 = 2))); try rw [hb0]; all_goals simp only [Bool.not_true, Bool.not_false, Bool.true_and, Bool.false_and, Bool.true_or, Bool.false_or, Bool.and_true, Bool.or_false, cond_true, cond_false]), trivial⟩, W⟩
  rintro a w ⟨F, W⟩
  refine Aw F Aa (fun hb => ?_) fun hb => ?_
  ·
   have H := AV hb H
   rw [hb] at F
   refine Ah (Ab ?_)
   refine ls F W Aa (Ai DN Aa Aa Aa T3 F Aa 0 Aa).q fun a w F W => ?_
   refine ls F W Aa (Ao (v := Value.int .i64 x2.un.1) 0 F Aa Aa T3 Aa).q fun a w F W => ?_
   refine ls F W Aa (CT F Aa Aa Aa).q fun a w F W => ?_
   refine ls F W Aa (De (v := Value.agg #[.int .i64 (AG (3 - x2.un.1)), .int .i64 0, .int .i64 0, .slice none 0 0]) VI F Aa Aa Aa).q fun a w F W => ?_
   refine Be (vs := [.int .i64 (AG (3 - x2.un.1)), .int .i64 0, .int .i64 0, .slice none 0 0]) (M' := [(b3, [.int .i64 x2.un.1, .int .i64 x2.un.2.1, .int .i64 x2.un.2.2.1, v4]), (b2, [.int .i64 (AG (3 - x2.un.1)), .int .i64 0, .int .i64 0, .slice none 0 0]), (b1, [.int .i64 p0.un.1, .int .i64 p0.un.2.1, .int .i64 p0.un.2.2.1, v1])]) 1 F W Aa Aa Aa Kh Aa Aa Aa Aa Aa fun w W => ?_
   refine Ad (Ac (Av ?_))
   iterate 2 refine AN ?_
   have H := AP H
   subst H
   refine AJ (.inl Aa) F W Aa (Dy 1 F Aa Aa Kh Aa) ?_
   have W := W.note (Sl.nil (r := EC))
   have W := W.sub (M' := []) (Z' := [DE (Value.slice none 0 0) EC ([])]) (List.nil_sublist _) (List.Sublist.cons_cons _ (List.nil_sublist _))
   exact ⟨(Value.slice none 0 0), Aa, W⟩
  have H := AR (by rw [hb]; decide) H
  rw [hb] at F
  refine Ay (Ac (Ah (Ab ?_)))
  refine ls F W Aa (Ao (v := Value.agg #[.int .i64 x2.un.1, .int .i64 x2.un.2.1, .int .i64 x2.un.2.2.1, v4]) 0 F Aa Aa Kh Aa).q fun a w F W => ?_
  refine Ke (z := Value.agg #[.int .i64 0, .int .i64 0, .int .i64 0, .slice none 0 0]) (cs := [.int .i64 x2.un.1, .int .i64 x2.un.2.1, .int .i64 x2.un.2.2.1, v4]) EC ([x2] : List Tr28) F W Aa SH Vl Aa Aa Aa (CR Aa Aa Aa Fp) Aa Aa ⟨[Value.int .i64 x2.un.1, Value.int .i64 x2.un.2.1, Value.int .i64 x2.un.2.2.1, v4], _, Aa, (UW.2 ⟨[Value.int .i64 x2.un.1], [Value.int .i64 x2.un.2.1, Value.int .i64 x2.un.2.2.1, v4], Aa, Aa, ⟨[Value.int .i64 x2.un.2.1], [Value.int .i64 x2.un.2.2.1, v4], Aa, Aa, ⟨[Value.int .i64 x2.un.2.2.1], [v4], Aa, Aa, ⟨_, Aa, (W.item (i := 0) Aa)⟩⟩⟩⟩), Aa⟩ fun v5 a w F W => ?_
  refine ls F W Aa (De (v := Value.agg #[.int .i64 4, .int .i64 0, .int .i64 0, v5]) VI F Aa (CR Aa Aa Aa (CR Aa (JK (W.one (k := 0) Aa)) Aa Fp)) Aa).q fun a w F W => ?_
  refine Be (vs := [.int .i64 4, .int .i64 0, .int .i64 0, v5]) (M' := [(b3, [.int .i64 x2.un.1, .int .i64 x2.un.2.1, .int .i64 x2.un.2.2.1, v4]), (b2, [.int .i64 4, .int .i64 0, .int .i64 0, v5]), (b1, [.int .i64 p0.un.1, .int .i64 p0.un.2.1, .int .i64 p0.un.2.2.1, v1])]) 1 F W Aa Aa Aa Kh Aa Aa Aa (An Aa (An Aa (An Aa (An (W.one (k := 0) Aa) Cq)))) Aa fun w W => ?_
  refine Ad (Ac (Av (AN ?_)))
  have H := AP H
  subst H
  refine AJ (.inl Aa) F W Aa (Dy 1 F Aa Aa Kh Aa) ?_
  have W := W.freeze
  have W := W.sub (M' := []) (Z' := [DE v5 EC ([x2] : List Tr28)]) (List.nil_sublist _) (List.Sublist.cons_cons _ (List.nil_sublist _))
  exact ⟨(v5), Aa, W⟩
 have H := AR (Bf hb) H
 rw [hb] at F
 refine Ay (Ac (Ah (Ab ?_)))
 iterate 2 refine ls F W Aa (Ae F Aa).q fun a w F W => ?_
 refine Ad (Ac ?_)
 obtain ⟨o1, G1, K1⟩ := Am H
 refine AO (fun a w => ∃ x3 : Int, ∃ x4 : Int, some ((x3, x4)) = some o1 ∧ Fr 98 [] [(1, .int .i64 p1), (2, .pointer (some ⟨b1, 0, none⟩)), (4, .pointer (some ⟨b2, 0, none⟩)), (6, .int .i64 x3), (7, .int .i64 x4)] a ∧ Stw ⟨Y, [], w0⟩ [(b2, [.int .i64 0, .int .i64 0, .int .i64 0, .slice none 0 0]), (b1, [.int .i64 p0.un.1, .int .i64 p0.un.2.1, .int .i64 p0.un.2.2.1, v1])] [] w) ?_ ?_
 ·
  have H := G1
  refine Ah (Ab ?_)
  refine ls F W Aa (Ai DN Aa Aa Aa T3 F Aa 0 Aa).q fun a w F W => ?_
  refine ls F W Aa (Ao (v := Value.int .i64 p0.un.1) 1 F Aa Aa T3 Aa).q fun a w F W => ?_
  refine ls F W Aa (A7 F Aa Aa).q fun a w F W => ?_
  refine Ad (Ac ?_)
  refine Aw F Aa (fun hb => ?_) fun hb => ?_
  ·
   have H := AV (Bg hb) H
   rw [hb] at F
   refine Ab ?_
   iterate 2 refine ls F W Aa (Ae F Aa).q fun a w F W => ?_
   refine Ad (Ac ?_)
   have W := W.frontM (i := 1) Aa Aa
   have W := W.frontM (i := 1) Aa Aa
   exact ⟨_, _, H, F.re ⟨rfl, Aa, Aa, Aa, Aa, trivial⟩, W⟩
  have H := AR (Bf hb) H
  rw [hb] at F
  refine Ay (Ac ?_)
  have W := W.frontM (i := 1) Aa Aa
  have W := W.frontM (i := 1) Aa Aa
  exact ⟨_, _, H, F.re ⟨rfl, Aa, Aa, Aa, Aa, trivial⟩, W⟩
 rintro a w ⟨x3, x4, hj, F, W⟩
 have hj := AP hj
 subst hj
 have H := K1
 refine Ah (Ab ?_)
 refine ls F W Aa (Ae F Aa).q fun a w F W => ?_
 refine Ad (Ac ?_)
 obtain ⟨o2, G2, K2, L2⟩ := PQ H
 refine AO (fun a w => ∃ x5 : List Tr28, ∃ v6 : Value, some (Sum.inl x5) = some o2 ∧ Fr 98 [] [(2, .pointer (some ⟨b1, 0, none⟩)), (4, .pointer (some ⟨b2, 0, none⟩)), (6, .int .i64 x3), (8, v6)] a ∧ Stw ⟨Y, [], w0⟩ [(b2, [.int .i64 0, .int .i64 0, .int .i64 0, .slice none 0 0]), (b1, [.int .i64 p0.un.1, .int .i64 p0.un.2.1, .int .i64 p0.un.2.2.1, v1])] [row v6 28 EC x5] w) ?_ ?_
 ·
  have H := G2
  refine Ah (Ab ?_)
  refine ls F W Aa (Ae F Aa).q fun a w F W => ?_
  refine Ad (Ac (Az ?_))
  have W := W.nilRow 28 EC
  have W := W.frontM (i := 1) Aa Aa
  have W := W.frontM (i := 1) Aa Aa
  refine BG H (fun s a w => ∃ v7 : Value, Fr 98 [] [(1, .int .i64 p1), (2, .pointer (some ⟨b1, 0, none⟩)), (4, .pointer (some ⟨b2, 0, none⟩)), (6, .int .i64 x3), (7, .int .i64 x4), (8, v7), (9, .int .i64 s.2)] a ∧ Stw ⟨Y, [], w0⟩ [(b2, [.int .i64 0, .int .i64 0, .int .i64 0, .slice none 0 0]), (b1, [.int .i64 p0.un.1, .int .i64 p0.un.2.1, .int .i64 p0.un.2.2.1, v1])] [row v7 28 EC s.1] w) ⟨(Value.slice none 0 0), F.re ⟨rfl, Aa, Aa, Aa, Aa, Aa, Aa, trivial⟩, W⟩ fun s o a w H L3 hR => ?_
  obtain ⟨x6, x7⟩ := s
  obtain ⟨v7, F, W⟩ := hR
  have F : Fr 98 [] [(1, .int .i64 p1), (2, .pointer (some ⟨b1, 0, none⟩)), (4, .pointer (some ⟨b2, 0, none⟩)), (6, .int .i64 x3), (7, .int .i64 x4), (8, v7), (9, .int .i64 x7)] a := F
  have W : Stw ⟨Y, [], w0⟩ [(b2, [.int .i64 0, .int .i64 0, .int .i64 0, .slice none 0 0]), (b1, [.int .i64 p0.un.1, .int .i64 p0.un.2.1, .int .i64 p0.un.2.2.1, v1])] [row v7 28 EC x6] w := W
  rw [Du] at H
  refine Ah (Ah (Ab ?_))
  refine ls F W Aa (Ag F Aa).q fun a w F W => ?_
  refine ls F W Aa (Ai DN Aa Aa Aa LB F Aa 3 Aa).q fun a w F W => ?_
  refine ls F W Aa (Ao (v := v1) 1 F Aa Aa LB Aa).q fun a w F W => ?_
  refine ls F W Aa (CA (r := EC) (l := p0.un.2.2.2) PI Aa F Aa (AH HJ h1 (Aq h_v1))).q fun a w F W => ?_
  refine ls F W Aa (Cu F Aa Aa).q fun a w F W => ?_
  refine Ad (Ac ?_)
  refine Aw F Aa (fun hb => ?_) fun hb => ?_
  ·
   have H := AV (Bg hb) H
   rw [hb] at F
   refine Ay (Ac ?_)
   obtain ⟨o4, G4, K4, L4⟩ := PQ H
   refine AO (fun a w => ∃ x8 : List Tr28, ∃ v8 : Value, some (Sum.inl x8) = some o4 ∧ Fr 98 [] [(1, .int .i64 p1), (2, .pointer (some ⟨b1, 0, none⟩)), (4, .pointer (some ⟨b2, 0, none⟩)), (6, .int .i64 x3), (7, .int .i64 x4), (8, v8), (9, .int .i64 x7)] a ∧ Stw ⟨Y, [], w0⟩ [(b2, [.int .i64 0, .int .i64 0, .int .i64 0, .slice none 0 0]), (b1, [.int .i64 p0.un.1, .int .i64 p0.un.2.1, .int .i64 p0.un.2.2.1, v1])] [row v8 28 EC x8] w) ?_ ?_
   ·
    have H := G4
    refine Az (Ah ?_)
    obtain ⟨v9, h7, W⟩ := W.exR HJ
    refine Ab ?_
    refine ls F W Aa (Ai DN Aa Aa Aa LB F Aa 3 Aa).q fun a w F W => ?_
    refine ls F W Aa (Ao (v := v1) 1 F Aa Aa LB Aa).q fun a w F W => ?_
    refine ls F W Aa (Ag F Aa).q fun a w F W => ?_
    obtain ⟨x9, h8, H⟩ := Am H
    obtain ⟨v10, h9, h10⟩ := Ez h1 h8
    have h11 : Kk v10 = [.int .i64 x9.un.1, .int .i64 x9.un.2.1, .int .i64 x9.un.2.2.1, (v10.2.2.2.1)] := congrArg (fun q : Tr28 => ([.int .i64 q.un.1, .int .i64 q.un.2.1, .int .i64 q.un.2.2.1, (v10.2.2.2.1)] : List Value)) h10
    refine ls F W Aa (AM (r := Mz) SH F Aa Aa (Aq h_v1) h9).q fun a w F W => ?_
    refine ls F W Aa (AA (y := Value.agg #[.int .i64 x9.un.1, .int .i64 x9.un.2.1, .int .i64 x9.un.2.2.1, (v10.2.2.2.1)]) (j := 0) (i := x7) (enc := Kk) F Aa Aa (Aq h_v1) h9 QD Kh (by rw [h11]; rfl)).q fun a w F W => ?_
    refine ls F W Aa (Ag F Aa).q fun a w F W => ?_
    obtain ⟨x10, h12, H⟩ := Am H
    refine Bj (Ml := []) (Zl := []) (M := [(b2, [.int .i64 0, .int .i64 0, .int .i64 0, .slice none 0 0]), (b1, [.int .i64 p0.un.1, .int .i64 p0.un.2.1, .int .i64 p0.un.2.2.1, v1])]) (Z := [row v7 28 Mz v9]) (β := Value) (rv := fun x => .agg #[.int .i64 x10.un.1, .int .i64 x10.un.2.1, .int .i64 x10.un.2.2.1, x]) (MM := fun x => []) (ZZ := fun x => [DE x EC x10.un.2.2.2]) F W Xj Aa Aa (fun hL => ih _ w ((v10.2.2.2.1)) x9 p1 _ h12 (Sl.at_ (W.old s_v1) h9 (AC.snd (AC.snd (AC.snd AC.here))) (congrArg (fun q : Tr28 => q.un.2.2.2) h10))) fun x a w F W => ?_
    obtain ⟨v11, rfl⟩ : ∃ y, y = x := ⟨x, rfl⟩
    have W : Stw ⟨Y, [], w0⟩ [(b2, [.int .i64 0, .int .i64 0, .int .i64 0, .slice none 0 0]), (b1, [.int .i64 p0.un.1, .int .i64 p0.un.2.1, .int .i64 p0.un.2.2.1, v1])] [DE v11 EC x10.un.2.2.2, row v7 28 Mz v9] w := W
    refine Co (cs := [.int .i64 0, .int .i64 0, .int .i64 0, .slice none 0 0]) F W Aa Vl Aa fun b4 a w F W => ?_
    refine Be (vs := [.int .i64 x10.un.1, .int .i64 x10.un.2.1, .int .i64 x10.un.2.2.1, v11]) (M' := [(b4, [.int .i64 x10.un.1, .int .i64 x10.un.2.1, .int .i64 x10.un.2.2.1, v11]), (b2, [.int .i64 0, .int .i64 0, .int .i64 0, .slice none 0 0]), (b1, [.int .i64 p0.un.1, .int .i64 p0.un.2.1, .int .i64 p0.un.2.2.1, v1])]) 0 F W Aa Aa Aa Kh Aa Aa Aa (An Aa (An Aa (An Aa (An (W.oneF (k := 0) Aa) Cq)))) Aa fun w W => ?_
    refine Ad (Ac (Ah (Ah (Ab ?_))))
    refine ls F W Aa (Ai DN Aa Aa Aa T3 F Aa 0 Aa).q fun a w F W => ?_
    refine ls F W Aa (Ao (v := Value.int .i64 x10.un.1) 0 F Aa Aa T3 Aa).q fun a w F W => ?_
    refine ls F W Aa (Ag F Aa).q fun a w F W => ?_
    refine ls F W Aa (A7 F Aa Aa).q fun a w F W => ?_
    refine Ad (Ac ?_)
    refine Aw F Aa (fun hb => ?_) fun hb => ?_
    ·
     have H := AV (Bg hb) H
     rw [hb] at F
     refine Ah (Ab ?_)
     refine ls F W Aa (Ao (v := Value.agg #[.int .i64 x10.un.1, .int .i64 x10.un.2.1, .int .i64 x10.un.2.2.1, v11]) 0 F Aa Aa Kh Aa).q fun a w F W => ?_
     refine Be (vs := [.int .i64 x10.un.1, .int .i64 x10.un.2.1, .int .i64 x10.un.2.2.1, v11]) (M' := [(b4, [.int .i64 x10.un.1, .int .i64 x10.un.2.1, .int .i64 x10.un.2.2.1, v11]), (b2, [.int .i64 x10.un.1, .int .i64 x10.un.2.1, .int .i64 x10.un.2.2.1, v11]), (b1, [.int .i64 p0.un.1, .int .i64 p0.un.2.1, .int .i64 p0.un.2.2.1, v1])]) 1 F W Aa Aa Aa Kh Aa Aa Aa (An Aa (An Aa (An Aa (An (W.oneF (k := 0) Aa) Cq)))) Aa fun w W => ?_
     refine Ad (Ac (Av (AN (AQ ?_))))
     iterate 2 refine AN ?_
     refine AQ (AN ?_)
     have H := L4 _ H
     have H := L3 _ H
     have H := L2 _ H
     have H := AP H
     subst H
     refine AJ (.inl Aa) F W Aa (Dy 1 F Aa Aa Kh Aa) ?_
     have W := W.sub (M' := []) (Z' := [DE v11 EC x10.un.2.2.2]) (List.nil_sublist _) (List.Sublist.cons_cons _ (List.nil_sublist _))
     exact ⟨(v11), Aa, W⟩
    have H := AR (Bf hb) H
    rw [hb] at F
    refine Ay (Ac (Ah (Ab ?_)))
    refine ls F W Aa (Ai DN Aa Aa Aa T3 F Aa 0 Aa).q fun a w F W => ?_
    refine ls F W Aa (Ao (v := Value.int .i64 x10.un.1) 0 F Aa Aa T3 Aa).q fun a w F W => ?_
    refine ls F W Aa (Ag F Aa).q fun a w F W => ?_
    refine ls F W Aa (Ip F Aa Aa).q fun a w F W => ?_
    refine Ad (Ac ?_)
    refine Aw F Aa (fun hb => ?_) fun hb => ?_
    ·
     have H := AV (Bg hb) H
     rw [hb] at F
     refine Ab ?_
     refine ls F W Aa (Ag F Aa).q fun a w F W => ?_
     refine ls F W Aa (Ao (v := Value.agg #[.int .i64 x10.un.1, .int .i64 x10.un.2.1, .int .i64 x10.un.2.2.1, v11]) 0 F Aa Aa Kh Aa).q fun a w F W => ?_
     refine Ke (z := Value.agg #[.int .i64 0, .int .i64 0, .int .i64 0, .slice none 0 0]) (cs := [.int .i64 x10.un.1, .int .i64 x10.un.2.1, .int .i64 x10.un.2.2.1, v11]) EC ([x10] : List Tr28) F W Aa SH Vl Aa Aa Aa (CR Aa Aa Aa Fp) Aa Aa ⟨[Value.int .i64 x10.un.1, Value.int .i64 x10.un.2.1, Value.int .i64 x10.un.2.2.1, v11], _, Aa, (UW.2 ⟨[Value.int .i64 x10.un.1], [Value.int .i64 x10.un.2.1, Value.int .i64 x10.un.2.2.1, v11], Aa, Aa, ⟨[Value.int .i64 x10.un.2.1], [Value.int .i64 x10.un.2.2.1, v11], Aa, Aa, ⟨[Value.int .i64 x10.un.2.2.1], [v11], Aa, Aa, ⟨_, Aa, (W.item (i := 0) Aa)⟩⟩⟩⟩), Aa⟩ fun v12 a w F W => ?_
     have W := W.frontZ (i := 2) Aa Aa
     have W := W.hideR HJ h7
     obtain ⟨x11, h13, H⟩ := Am H
     refine Fm (r := EC) (i := 0) F W Aa SH Aa Aa Aa Aa (GC W 1 Aa) h13 Aa fun v13 a w F W => ?_
     have W : Stw ⟨Y, [], w0⟩ [(b4, [.int .i64 x10.un.1, .int .i64 x10.un.2.1, .int .i64 x10.un.2.2.1, v11]), (b2, [.int .i64 0, .int .i64 0, .int .i64 0, .slice none 0 0]), (b1, [.int .i64 p0.un.1, .int .i64 p0.un.2.1, .int .i64 p0.un.2.2.1, v1])] [row v13 28 EC x11, row v12 28 EC ([x10] : List Tr28), DE v11 EC x10.un.2.2.2] w := W
     refine ls F W Aa (Ae F Aa).q fun a w F W => ?_
     refine Ad (AU (Ac ?_))
     have W := W.frontM (i := 2) Aa Aa
     have W := W.frontM (i := 2) Aa Aa
     have W := W.sub (M' := [(b2, [.int .i64 0, .int .i64 0, .int .i64 0, .slice none 0 0]), (b1, [.int .i64 p0.un.1, .int .i64 p0.un.2.1, .int .i64 p0.un.2.2.1, v1])]) (Z' := [row v13 28 EC x11]) (List.Sublist.cons_cons _ (List.Sublist.cons_cons _ (List.nil_sublist _))) (List.Sublist.cons_cons _ (List.nil_sublist _))
     exact ⟨_, (v13), H, F.re ⟨rfl, Aa, Aa, Aa, Aa, Aa, Aa, trivial⟩, W⟩
    have H := AR (Bf hb) H
    rw [hb] at F
    refine Ay (AU (Ac ?_))
    have W := W.frontZ (i := 1) Aa Aa
    have W := W.hideR HJ h7
    have W := W.frontM (i := 2) Aa Aa
    have W := W.frontM (i := 2) Aa Aa
    have W := W.sub (M' := [(b2, [.int .i64 0, .int .i64 0, .int .i64 0, .slice none 0 0]), (b1, [.int .i64 p0.un.1, .int .i64 p0.un.2.1, .int .i64 p0.un.2.2.1, v1])]) (Z' := [row v7 28 EC x6]) (List.Sublist.cons_cons _ (List.Sublist.cons_cons _ (List.nil_sublist _))) (List.Sublist.cons_cons _ (List.nil_sublist _))
    exact ⟨_, (v7), H, F.re ⟨rfl, Aa, Aa, Aa, Aa, Aa, Aa, trivial⟩, W⟩
   rintro a w ⟨x8, v8, hj, F, W⟩
   have H := K4 _ hj
   refine Ab ?_
   refine ls F W Aa (Ag F Aa).q fun a w F W => ?_
   refine ls F W Aa (BL F Aa Aa Aa).q fun a w F W => ?_
   refine ls F W Aa (Ae F Aa).q fun a w F W => ?_
   refine Ad (Ac ?_)
   have W := W.frontM (i := 1) Aa Aa
   have W := W.frontM (i := 1) Aa Aa
   exact ⟨_, H, (v8), F.re ⟨rfl, Aa, Aa, Aa, Aa, Aa, Aa, trivial⟩, W⟩
  have H := AR (Bf hb) H
  rw [hb] at F
  refine Bz ?_
  iterate 2 refine BS ?_
  refine Bx (Ac ?_)
  have W := W.frontM (i := 1) Aa Aa
  have W := W.frontM (i := 1) Aa Aa
  have H := L3 _ H
  exact ⟨_, (v7), H, F.re ⟨rfl, Aa, Aa, Aa, trivial⟩, W⟩
 rintro a w ⟨x5, v6, hj, F, W⟩
 have H := K2 _ hj
 refine Ah (Ah (Ab ?_))
 refine ls F W Aa (Ag F Aa).q fun a w F W => ?_
 refine ls F W Aa (CA (r := EC) (l := x5) PI Aa F Aa (Au 0 Aa)).q fun a w F W => ?_
 refine ls F W Aa (A7 F Aa Aa).q fun a w F W => ?_
 refine Ad (Ac ?_)
 refine Aw F Aa (fun hb => ?_) fun hb => ?_
 ·
  have H := AV (Bg hb) H
  rw [hb] at F
  refine Ah (Ab ?_)
  refine ls F W Aa (Ag F Aa).q fun a w F W => ?_
  refine ls F W Aa (De (v := Value.agg #[.int .i64 x3, .int .i64 0, .int .i64 0, .slice none 0 0]) VI F Aa Aa Aa).q fun a w F W => ?_
  refine Be (vs := [.int .i64 x3, .int .i64 0, .int .i64 0, .slice none 0 0]) (M' := [(b2, [.int .i64 x3, .int .i64 0, .int .i64 0, .slice none 0 0]), (b1, [.int .i64 p0.un.1, .int .i64 p0.un.2.1, .int .i64 p0.un.2.2.1, v1])]) 0 F W Aa Aa Aa Kh Aa Aa Aa Aa Aa fun w W => ?_
  refine Ad (Ac (Av (AN ?_)))
  have H := AP H
  subst H
  refine AJ (.inl Aa) F W Aa (Dy 0 F Aa Aa Kh Aa) ?_
  have W := W.note (Sl.nil (r := EC))
  have W := W.sub (M' := []) (Z' := [DE (Value.slice none 0 0) EC ([])]) (List.nil_sublist _) (List.Sublist.cons_cons _ (List.nil_sublist _))
  exact ⟨(Value.slice none 0 0), Aa, W⟩
 have H := AR (Bf hb) H
 rw [hb] at F
 refine Ay (Ac (Ah (Ah (Ab ?_))))
 refine ls F W Aa (Ag F Aa).q fun a w F W => ?_
 refine ls F W Aa (CA (r := EC) (l := x5) PI Aa F Aa (Au 0 Aa)).q fun a w F W => ?_
 refine ls F W Aa (A7 F Aa Aa).q fun a w F W => ?_
 refine Ad (Ac ?_)
 refine Aw F Aa (fun hb => ?_) fun hb => ?_
 ·
  have H := AV (Bg hb) H
  rw [hb] at F
  refine Ah ?_
  obtain ⟨v14, h14, W⟩ := W.exR HJ
  refine Ab ?_
  refine ls F W Aa (Ag F Aa).q fun a w F W => ?_
  obtain ⟨x12, h15, H⟩ := Am H
  obtain ⟨v15, h16, h17⟩ := Ez h14 h15
  have h18 : Kk v15 = [.int .i64 x12.un.1, .int .i64 x12.un.2.1, .int .i64 x12.un.2.2.1, (v15.2.2.2.1)] := congrArg (fun q : Tr28 => ([.int .i64 q.un.1, .int .i64 q.un.2.1, .int .i64 q.un.2.2.1, (v15.2.2.2.1)] : List Value)) h17
  refine ls F W Aa (AM (r := Mz) SH F Aa Aa (Au 0 Aa) h16).q fun a w F W => ?_
  refine ls F W Aa (AA (y := Value.agg #[.int .i64 x12.un.1, .int .i64 x12.un.2.1, .int .i64 x12.un.2.2.1, (v15.2.2.2.1)]) (j := 0) (i := 0) (enc := Kk) F Aa Aa (Au 0 Aa) h16 QD Kh (by rw [h18]; rfl)).q fun a w F W => ?_
  have W := W.note (W.rowAt (k := 0) Aa h16 (AC.snd (AC.snd (AC.snd AC.here))) (congrArg (fun q : Tr28 => q.un.2.2.2) h17))
  refine Be (vs := [.int .i64 x12.un.1, .int .i64 x12.un.2.1, .int .i64 x12.un.2.2.1, (v15.2.2.2.1)]) (M' := [(b2, [.int .i64 x12.un.1, .int .i64 x12.un.2.1, .int .i64 x12.un.2.2.1, (v15.2.2.2.1)]), (b1, [.int .i64 p0.un.1, .int .i64 p0.un.2.1, .int .i64 p0.un.2.2.1, v1])]) 0 F W Aa Aa Aa Kh Aa Aa Aa (An Aa (An Aa (An Aa (An (W.oneF (k := 0) Aa) Cq)))) Aa fun w W => ?_
  refine Ad (Ac (Av (AN ?_)))
  have H := AP H
  subst H
  refine AJ (.inl Aa) F W Aa (Dy 0 F Aa Aa Kh Aa) ?_
  have W := W.sub (M' := []) (Z' := [DE (v15.2.2.2.1) EC x12.un.2.2.2]) (List.nil_sublist _) (List.Sublist.cons_cons _ (List.nil_sublist _))
  exact ⟨((v15.2.2.2.1)), Aa, W⟩
 have H := AR (Bf hb) H
 rw [hb] at F
 refine Ay (Ac (Ah (Ab ?_)))
 refine ls F W Aa (Ai DN Aa Aa Aa T3 F Aa 0 Aa).q fun a w F W => ?_
 refine ls F W Aa (Ao (v := Value.int .i64 p0.un.1) 1 F Aa Aa T3 Aa).q fun a w F W => ?_
 refine ls F W Aa (Ag F Aa).q fun a w F W => ?_
 refine ls F W Aa (De (v := Value.agg #[.int .i64 p0.un.1, .int .i64 0, .int .i64 0, v6]) VI F Aa (CR Aa Aa Aa (CR Aa (JK (W.one (k := 0) Aa)) Aa Fp)) Aa).q fun a w F W => ?_
 refine Be (vs := [.int .i64 p0.un.1, .int .i64 0, .int .i64 0, v6]) (M' := [(b2, [.int .i64 p0.un.1, .int .i64 0, .int .i64 0, v6]), (b1, [.int .i64 p0.un.1, .int .i64 p0.un.2.1, .int .i64 p0.un.2.2.1, v1])]) 0 F W Aa Aa Aa Kh Aa Aa Aa (An Aa (An Aa (An Aa (An (W.one (k := 0) Aa) Cq)))) Aa fun w W => ?_
 refine Ad (Ac (Av ?_))
 have H := AP H
 subst H
 refine AJ (.inl Aa) F W Aa (Dy 0 F Aa Aa Kh Aa) ?_
 have W := W.freeze
 have W := W.sub (M' := []) (Z' := [DE v6 EC x5]) (List.nil_sublist _) (List.Sublist.refl _)
 exact ⟨(v6), Aa, W⟩
theorem Sy : ∀ (n : Nat) (Y : Nat → Prop) (w0 : World) (v1 : Value) (p0 : Tr28) (p1 : Int) (r : Tr28) (H : FH n p0 p1 = some r) (s_v1 : Sl w0 Y EC v1 p0.un.2.2.2), Calls Tryz.prog 25 #[.agg #[.int .i64 p0.un.1, .int .i64 p0.un.2.1, .int .i64 p0.un.2.2.1, v1], .int .i64 p1] w0 fun e w' => ∃ x : Value, e = .returned (.agg #[.int .i64 r.un.1, .int .i64 r.un.2.1, .int .i64 r.un.2.2.1, x]) ∧ Stw ⟨Y, [], w0⟩ [] [DE (x) EC r.un.2.2.2] w' := by
  intro n
  induction n with
  | zero => intro Y w0 v1 p0 p1 r H; exact nomatch H
  | succ n ih => intro Y w0 v1 p0 p1 r H s_v1; exact RX (FH n) ih Y w0 v1 p0 p1 r H s_v1
theorem Tm (Y : Nat → Prop) (w0 : World) (v1 : Value) (p0 : Tr28) (p1 : Int) (r : Tr28) (H : RA p0 p1 = some r) (s_v1 : Sl w0 Y EC v1 p0.un.2.2.2) :
    Calls Tryz.prog 25 #[.agg #[.int .i64 p0.un.1, .int .i64 p0.un.2.1, .int .i64 p0.un.2.2.1, v1], .int .i64 p1] w0 fun e w' => ∃ x : Value, e = .returned (.agg #[.int .i64 r.un.1, .int .i64 r.un.2.1, .int .i64 r.un.2.2.1, x]) ∧ Stw ⟨Y, [], w0⟩ [] [DE (x) EC r.un.2.2.2] w' := by
  obtain ⟨n, H⟩ := Dd H
  exact Sy n Y w0 v1 p0 p1 r H s_v1
theorem X8 : Has Tryz.prog 23 := ⟨fun args w => Aj Tryz.func23 rfl (by decide) args w⟩
def FW (fRec : Tr28 → Tr28 → Option Bool) (p0 : Tr28) (p1 : Tr28) : Int → Option (Int ⊕ (Unit ⊕ Bool))
  | x1 => (if x1 < (p0.un.2.2.2.length : Int) then (ix p0.un.2.2.2 x1).bind fun x2 => (ix p1.un.2.2.2 x1).bind fun x3 => (fRec x2 x3).bind fun x4 => (if (!x4) = true then some (.inr (.inr false)) else some (.inl (AG (x1 + 1)))) else some (.inr (.inl ())))
def FS (fRec : Tr28 → Tr28 → Option Bool) (p0 : Tr28) (p1 : Tr28) : Option Bool := (if (decide (p0.un.1 ≠ p1.un.1) || (decide (p0.un.2.1 ≠ p1.un.2.1) || (decide (p0.un.2.2.1 ≠ p1.un.2.2.1) || decide ((p0.un.2.2.2.length : Int) ≠ (p1.un.2.2.2.length : Int))))) = true then some false else Je (A6 (FW fRec p0 p1) 0) fun _ => some true)
def Fv : Nat → Tr28 → Tr28 → Option Bool
  | 0 => fun _ _ => none
  | n + 1 => FS (Fv n)
def PN (p0 : Tr28) (p1 : Tr28) : Option Bool := Jl fun n => Fv n p0 p1
theorem RJ (fRec : Tr28 → Tr28 → Option Bool) (ih : ∀ (Y : Nat → Prop) (w0 : World) (v1 : Value) (v2 : Value) (p0 : Tr28) (p1 : Tr28) (r : Bool) (H : fRec p0 p1 = some r) (h_v1 : Sl w0 (NX []) EC v1 p0.un.2.2.2) (h_v2 : Sl w0 (NX []) EC v2 p1.un.2.2.2), Calls Tryz.prog 23 #[.agg #[.int .i64 p0.un.1, .int .i64 p0.un.2.1, .int .i64 p0.un.2.2.1, v1], .agg #[.int .i64 p1.un.1, .int .i64 p1.un.2.1, .int .i64 p1.un.2.2.1, v2]] w0 fun e w' => e = .returned (.bool r) ∧ Below w0.heap.size w0 w') (Y : Nat → Prop) (w0 : World) (v1 : Value) (v2 : Value) (p0 : Tr28) (p1 : Tr28) (r : Bool) (H : FS fRec p0 p1 = some r) (h_v1 : Sl w0 (NX []) EC v1 p0.un.2.2.2) (h_v2 : Sl w0 (NX []) EC v2 p1.un.2.2.2) :
    Calls Tryz.prog 23 #[.agg #[.int .i64 p0.un.1, .int .i64 p0.un.2.1, .int .i64 p0.un.2.2.1, v1], .agg #[.int .i64 p1.un.1, .int .i64 p1.un.2.1, .int .i64 p1.un.2.2.1, v2]] w0 fun e w' => e = .returned (.bool r) ∧ Below w0.heap.size w0 w' := by
 refine enter Tryz.func23 Aa Tryz.ntmps23 Aa fun a F => ?_
 have W := Stw.start Y w0
 obtain ⟨v3, h1, h_v1⟩ := h_v1.ex HJ
 obtain ⟨v4, h2, h_v2⟩ := h_v2.ex HJ
 unfold FS at H
 refine Ah (Ab ?_)
 refine CS (cs := [.int .i64 p0.un.1, .int .i64 p0.un.2.1, .int .i64 p0.un.2.2.1, v1]) F W Aa Aa Aa fun b1 a w F W => ?_
 refine CS (cs := [.int .i64 p1.un.1, .int .i64 p1.un.2.1, .int .i64 p1.un.2.2.1, v2]) F W Aa Aa Aa fun b2 a w F W => ?_
 refine ls F W Aa (Ae F Aa).q fun a w F W => ?_
 refine Ad (Ac (Ah ?_))
 refine AO (fun a w => Fr 53 [] [(2, .pointer (some ⟨b1, 0, none⟩)), (3, .pointer (some ⟨b2, 0, none⟩)), (4, .bool false), (33, .bool (decide (p0.un.1 ≠ p1.un.1) || (decide (p0.un.2.1 ≠ p1.un.2.1) || (decide (p0.un.2.2.1 ≠ p1.un.2.2.1) || decide ((p0.un.2.2.2.length : Int) ≠ (p1.un.2.2.2.length : Int))))))] a ∧ Stw ⟨Y, [], w0⟩ [(b2, [.int .i64 p1.un.1, .int .i64 p1.un.2.1, .int .i64 p1.un.2.2.1, v2]), (b1, [.int .i64 p0.un.1, .int .i64 p0.un.2.1, .int .i64 p0.un.2.2.1, v1])] [] w) ?_ ?_
 ·
  refine Ab ?_
  refine ls F W Aa (Ai DN Aa Aa Aa T3 F Aa 0 Aa).q fun a w F W => ?_
  refine ls F W Aa (Ao (v := Value.int .i64 p0.un.1) 1 F Aa Aa T3 Aa).q fun a w F W => ?_
  refine ls F W Aa (Ai DN Aa Aa Aa T3 F Aa 0 Aa).q fun a w F W => ?_
  refine ls F W Aa (Ao (v := Value.int .i64 p1.un.1) 0 F Aa Aa T3 Aa).q fun a w F W => ?_
  refine ls F W Aa (Ip F Aa Aa).q fun a w F W => ?_
  refine ls F W Aa (Ag F Aa).q fun a w F W => ?_
  rcases bxq (decide (p0.un.1 ≠ p1.un.1)) with hb0 | hb0
  ·
   rw [hb0] at F
   iterate 5 refine Dz F Aa Aa Aa Aa Aa Aa Aa fun a F => ?_
   refine ls F W Aa (Ax F Aa Aa Aa).q fun a w F W => ?_
   refine ls F W Aa (Ag F Aa).q fun a w F W => ?_
   iterate 5 refine Dz F Aa Aa Aa Aa Aa Aa Aa fun a F => ?_
   refine ls F W Aa (Ax F Aa Aa Aa).q fun a w F W => ?_
   refine ls F W Aa (Ag F Aa).q fun a w F W => ?_
   iterate 7 refine Dz F Aa Aa Aa Aa Aa Aa Aa fun a F => ?_
   refine ls F W Aa (Ax F Aa Aa Aa).q fun a w F W => ?_
   refine Ad (Ac ?_)
   exact ⟨F.re ⟨rfl, Aa, Aa, (by show some (Value.bool true) = some (Value.bool (decide (p0.un.1 ≠ p1.un.1) || (decide (p0.un.2.1 ≠ p1.un.2.1) || (decide (p0.un.2.2.1 ≠ p1.un.2.2.1) || decide ((p0.un.2.2.2.length : Int) ≠ (p1.un.2.2.2.length : Int)))))); try rw [hb0]; all_goals simp only [Bool.not_true, Bool.not_false, Bool.true_and, Bool.false_and, Bool.true_or, Bool.false_or, Bool.and_true, Bool.or_false, cond_true, cond_false]), trivial⟩, W⟩
  rw [hb0] at F
  refine AK F W (Af F Aa Aa Aa Aa) Aa (Ak Aa) (Ai DN Aa Aa Aa T3 F Aa 1 Aa).q fun a w F W => ?_
  refine AK F W (Af F Aa Aa Aa Aa) Aa (Ak Aa) (Ao (v := Value.int .i64 p0.un.2.1) 1 F Aa Aa T3 Aa).q fun a w F W => ?_
  refine AK F W (Af F Aa Aa Aa Aa) Aa (Ak Aa) (Ai DN Aa Aa Aa T3 F Aa 1 Aa).q fun a w F W => ?_
  refine AK F W (Af F Aa Aa Aa Aa) Aa (Ak Aa) (Ao (v := Value.int .i64 p1.un.2.1) 0 F Aa Aa T3 Aa).q fun a w F W => ?_
  refine AK F W (Af F Aa Aa Aa Aa) Aa (Ak Aa) (Ip F Aa Aa).q fun a w F W => ?_
  refine ls F W Aa (As F Aa Aa Aa).q fun a w F W => ?_
  refine ls F W Aa (Ag F Aa).q fun a w F W => ?_
  rcases bxq (decide (p0.un.2.1 ≠ p1.un.2.1)) with hb1 | hb1
  ·
   rw [hb1] at F
   iterate 5 refine Dz F Aa Aa Aa Aa Aa Aa Aa fun a F => ?_
   refine ls F W Aa (Ax F Aa Aa Aa).q fun a w F W => ?_
   refine ls F W Aa (Ag F Aa).q fun a w F W => ?_
   iterate 7 refine Dz F Aa Aa Aa Aa Aa Aa Aa fun a F => ?_
   refine ls F W Aa (Ax F Aa Aa Aa).q fun a w F W => ?_
   refine Ad (Ac ?_)
   exact ⟨F.re ⟨rfl, Aa, Aa, (by show some (Value.bool true) = some (Value.bool (decide (p0.un.1 ≠ p1.un.1) || (decide (p0.un.2.1 ≠ p1.un.2.1) || (decide (p0.un.2.2.1 ≠ p1.un.2.2.1) || decide ((p0.un.2.2.2.length : Int) ≠ (p1.un.2.2.2.length : Int)))))); try rw [hb1]; try rw [hb0]; all_goals simp only [Bool.not_true, Bool.not_false, Bool.true_and, Bool.false_and, Bool.true_or, Bool.false_or, Bool.and_true, Bool.or_false, cond_true, cond_false]), trivial⟩, W⟩
  rw [hb1] at F
  refine AK F W (Af F Aa Aa Aa Aa) Aa (Ak Aa) (Ai DN Aa Aa Aa T3 F Aa 2 Aa).q fun a w F W => ?_
  refine AK F W (Af F Aa Aa Aa Aa) Aa (Ak Aa) (Ao (v := Value.int .i64 p0.un.2.2.1) 1 F Aa Aa T3 Aa).q fun a w F W => ?_
  refine AK F W (Af F Aa Aa Aa Aa) Aa (Ak Aa) (Ai DN Aa Aa Aa T3 F Aa 2 Aa).q fun a w F W => ?_
  refine AK F W (Af F Aa Aa Aa Aa) Aa (Ak Aa) (Ao (v := Value.int .i64 p1.un.2.2.1) 0 F Aa Aa T3 Aa).q fun a w F W => ?_
  refine AK F W (Af F Aa Aa Aa Aa) Aa (Ak Aa) (Ip F Aa Aa).q fun a w F W => ?_
  refine ls F W Aa (As F Aa Aa Aa).q fun a w F W => ?_
  refine ls F W Aa (Ag F Aa).q fun a w F W => ?_
  rcases bxq (decide (p0.un.2.2.1 ≠ p1.un.2.2.1)) with hb2 | hb2
  ·
   rw [hb2] at F
   iterate 7 refine Dz F Aa Aa Aa Aa Aa Aa Aa fun a F => ?_
   refine ls F W Aa (Ax F Aa Aa Aa).q fun a w F W => ?_
   refine Ad (Ac ?_)
   exact ⟨F.re ⟨rfl, Aa, Aa, (by show some (Value.bool true) = some (Value.bool (decide (p0.un.1 ≠ p1.un.1) || (decide (p0.un.2.1 ≠ p1.un.2.1) || (decide (p0.un.2.2.1 ≠ p1.un.2.2.1) || decide ((p0.un.2.2.2.length : Int) ≠ (p1.un.2.2.2.length : Int)))))); try rw [hb2]; try rw [hb1]; try rw [hb0]; all_goals simp only [Bool.not_true, Bool.not_false, Bool.true_and, Bool.false_and, Bool.true_or, Bool.false_or, Bool.and_true, Bool.or_false, cond_true, cond_false]), trivial⟩, W⟩
  rw [hb2] at F
  refine AK F W (Af F Aa Aa Aa Aa) Aa (Ak Aa) (Ai DN Aa Aa Aa LB F Aa 3 Aa).q fun a w F W => ?_
  refine AK F W (Af F Aa Aa Aa Aa) Aa (Ak Aa) (Ao (v := v1) 1 F Aa Aa LB Aa).q fun a w F W => ?_
  refine AK F W (Af F Aa Aa Aa Aa) Aa (Ak Aa) (CA (r := EC) (l := p0.un.2.2.2) PI Aa F Aa (AH HJ h1 (Aq h_v1))).q fun a w F W => ?_
  refine AK F W (Af F Aa Aa Aa Aa) Aa (Ak Aa) (Ai DN Aa Aa Aa LB F Aa 3 Aa).q fun a w F W => ?_
  refine AK F W (Af F Aa Aa Aa Aa) Aa (Ak Aa) (Ao (v := v2) 0 F Aa Aa LB Aa).q fun a w F W => ?_
  refine AK F W (Af F Aa Aa Aa Aa) Aa (Ak Aa) (CA (r := EC) (l := p1.un.2.2.2) PI Aa F Aa (AH HJ h2 (Aq h_v2))).q fun a w F W => ?_
  refine AK F W (Af F Aa Aa Aa Aa) Aa (Ak Aa) (Ip F Aa Aa).q fun a w F W => ?_
  refine ls F W Aa (As F Aa Aa Aa).q fun a w F W => ?_
  refine Ad (Ac ?_)
  exact ⟨F.re ⟨rfl, Aa, Aa, (by show some (Value.bool (decide ((p0.un.2.2.2.length : Int) ≠ (p1.un.2.2.2.length : Int)))) = some (Value.bool (decide (p0.un.1 ≠ p1.un.1) || (decide (p0.un.2.1 ≠ p1.un.2.1) || (decide (p0.un.2.2.1 ≠ p1.un.2.2.1) || decide ((p0.un.2.2.2.length : Int) ≠ (p1.un.2.2.2.length : Int)))))); try rw [hb2]; try rw [hb1]; try rw [hb0]; all_goals simp only [Bool.not_true, Bool.not_false, Bool.true_and, Bool.false_and, Bool.true_or, Bool.false_or, Bool.and_true, Bool.or_false, cond_true, cond_false]), trivial⟩, W⟩
 rintro a w ⟨F, W⟩
 refine Aw F Aa (fun hb => ?_) fun hb => ?_
 ·
  have H := AV hb H
  rw [hb] at F
  refine Ah (Ab ?_)
  refine ls F W Aa (Ae F Aa).q fun a w F W => ?_
  refine Ad (Ac (Av (AN ?_)))
  have H := AP H
  subst H
  refine AJ (.inl Aa) F W Aa (AB F Aa) ?_
  exact ⟨rfl, W.done⟩
 have H := AR (by rw [hb]; decide) H
 rw [hb] at F
 refine Ay (Ac ?_)
 obtain ⟨o1, G1, K1, L1⟩ := PQ H
 refine AO (fun a w => some (Sum.inl ()) = some o1 ∧ Fr 53 [] [(4, .bool false)] a ∧ Stw ⟨Y, [], w0⟩ [(b2, [.int .i64 p1.un.1, .int .i64 p1.un.2.1, .int .i64 p1.un.2.2.1, v2]), (b1, [.int .i64 p0.un.1, .int .i64 p0.un.2.1, .int .i64 p0.un.2.2.1, v1])] [] w) ?_ ?_
 ·
  have H := G1
  refine Ah (Ab ?_)
  refine ls F W Aa (Ae F Aa).q fun a w F W => ?_
  refine Ad (Ac (Az ?_))
  have W := W.frontM (i := 1) Aa Aa
  have W := W.frontM (i := 1) Aa Aa
  refine BG H (fun s a w => Fr 53 [] [(2, .pointer (some ⟨b1, 0, none⟩)), (3, .pointer (some ⟨b2, 0, none⟩)), (4, .bool false), (5, .int .i64 s)] a ∧ Stw ⟨Y, [], w0⟩ [(b2, [.int .i64 p1.un.1, .int .i64 p1.un.2.1, .int .i64 p1.un.2.2.1, v2]), (b1, [.int .i64 p0.un.1, .int .i64 p0.un.2.1, .int .i64 p0.un.2.2.1, v1])] [] w) ⟨F.re ⟨rfl, Aa, Aa, Aa, trivial⟩, W⟩ fun s o a w H L2 hR => ?_
  obtain ⟨x1, rfl⟩ : ∃ x, x = s := ⟨s, rfl⟩
  obtain ⟨F, W⟩ := hR
  have F : Fr 53 [] [(2, .pointer (some ⟨b1, 0, none⟩)), (3, .pointer (some ⟨b2, 0, none⟩)), (4, .bool false), (5, .int .i64 x1)] a := F
  have W : Stw ⟨Y, [], w0⟩ [(b2, [.int .i64 p1.un.1, .int .i64 p1.un.2.1, .int .i64 p1.un.2.2.1, v2]), (b1, [.int .i64 p0.un.1, .int .i64 p0.un.2.1, .int .i64 p0.un.2.2.1, v1])] [] w := W
  rw [FW] at H
  refine Ah (Ah (Ab ?_))
  refine ls F W Aa (Ag F Aa).q fun a w F W => ?_
  refine ls F W Aa (Ai DN Aa Aa Aa LB F Aa 3 Aa).q fun a w F W => ?_
  refine ls F W Aa (Ao (v := v1) 1 F Aa Aa LB Aa).q fun a w F W => ?_
  refine ls F W Aa (CA (r := EC) (l := p0.un.2.2.2) PI Aa F Aa (AH HJ h1 (Aq h_v1))).q fun a w F W => ?_
  refine ls F W Aa (Cu F Aa Aa).q fun a w F W => ?_
  refine Ad (Ac ?_)
  refine Aw F Aa (fun hb => ?_) fun hb => ?_
  ·
   have H := AV (Bg hb) H
   rw [hb] at F
   refine Ay (Ac (Ah (Az (Ah ?_))))
   refine CK W MO (by kernel_rfl) ?_
   refine qs F Aa (Ai DN Aa Aa Aa LB F Aa 3 Aa).q fun a F => ?_
   refine qs F Aa (Ao (v := v1) 1 F Aa Aa LB Aa).q fun a F => ?_
   refine qs F Aa (Ag F Aa).q fun a F => ?_
   obtain ⟨x2, h3, H⟩ := Am H
   obtain ⟨v5, h4, h5⟩ := Ez h1 h3
   have h6 : Kk v5 = [.int .i64 x2.un.1, .int .i64 x2.un.2.1, .int .i64 x2.un.2.2.1, (v5.2.2.2.1)] := congrArg (fun q : Tr28 => ([.int .i64 q.un.1, .int .i64 q.un.2.1, .int .i64 q.un.2.2.1, (v5.2.2.2.1)] : List Value)) h5
   refine qs F Aa (AM (r := Mz) SH F Aa Aa (Aq h_v1) h4).q fun a F => ?_
   refine qs F Aa (AA (y := Value.agg #[.int .i64 x2.un.1, .int .i64 x2.un.2.1, .int .i64 x2.un.2.2.1, (v5.2.2.2.1)]) (j := 0) (i := x1) (enc := Kk) F Aa Aa (Aq h_v1) h4 QD Kh (by rw [h6]; rfl)).q fun a F => ?_
   refine qs F Aa (Ai DN Aa Aa Aa LB F Aa 3 Aa).q fun a F => ?_
   refine qs F Aa (Ao (v := v2) 0 F Aa Aa LB Aa).q fun a F => ?_
   refine qs F Aa (Ag F Aa).q fun a F => ?_
   obtain ⟨x3, h7, H⟩ := Am H
   obtain ⟨v6, h8, h9⟩ := Ez h2 h7
   have h10 : Kk v6 = [.int .i64 x3.un.1, .int .i64 x3.un.2.1, .int .i64 x3.un.2.2.1, (v6.2.2.2.1)] := congrArg (fun q : Tr28 => ([.int .i64 q.un.1, .int .i64 q.un.2.1, .int .i64 q.un.2.2.1, (v6.2.2.2.1)] : List Value)) h9
   refine qs F Aa (AM (r := Mz) SH F Aa Aa (Aq h_v2) h8).q fun a F => ?_
   refine qs F Aa (AA (y := Value.agg #[.int .i64 x3.un.1, .int .i64 x3.un.2.1, .int .i64 x3.un.2.2.1, (v6.2.2.2.1)]) (j := 0) (i := x1) (enc := Kk) F Aa Aa (Aq h_v2) h8 QD Kh (by rw [h10]; rfl)).q fun a F => ?_
   obtain ⟨x4, h11, H⟩ := Am H
   refine qs F Aa (A3 (v := Value.bool x4) F X8 Aa (fun w W => ih any w ((v5.2.2.2.1)) ((v6.2.2.2.1)) x2 x3 _ h11 (((Cn (Aq h_v1) h4 (AC.snd (AC.snd (AC.snd AC.here))) (congrArg (fun q : Tr28 => q.un.2.2.2) h5)) : D1 _ _ _ _ _ _) w W).nx (((Cn (Aq h_v2) h8 (AC.snd (AC.snd (AC.snd AC.here))) (congrArg (fun q : Tr28 => q.un.2.2.2) h9)) : D1 _ _ _ _ _ _) w W).nx)) fun a F => ?_
   refine qs F Aa (F4 F Aa).q fun a F => ?_
   refine A9 fun w W => ?_
   refine Ac ?_
   refine Aw F Aa (fun hb => ?_) fun hb => ?_
   ·
    have H := AV hb H
    rw [hb] at F
    refine Ah (Ab ?_)
    refine ls F W Aa (Ae F Aa).q fun a w F W => ?_
    refine Ad (Ac (Av (AQ ?_)))
    iterate 2 refine AN ?_
    refine AQ (AN ?_)
    have H := L2 _ H
    have H := L1 _ H
    have H := AP H
    subst H
    refine AJ (.inl Aa) F W Aa (AB F Aa) ?_
    exact ⟨rfl, W.done⟩
   have H := AR (by rw [hb]; decide) H
   rw [hb] at F
   refine Ay (AU (Ac (Ab ?_)))
   refine ls F W Aa (Ag F Aa).q fun a w F W => ?_
   refine ls F W Aa (BL F Aa Aa Aa).q fun a w F W => ?_
   refine ls F W Aa (Ae F Aa).q fun a w F W => ?_
   refine Ad (Ac ?_)
   have W := W.frontM (i := 1) Aa Aa
   have W := W.frontM (i := 1) Aa Aa
   exact ⟨_, H, F.re ⟨rfl, Aa, Aa, Aa, trivial⟩, W⟩
  have H := AR (Bf hb) H
  rw [hb] at F
  refine Bz ?_
  iterate 2 refine BS ?_
  refine Bx (Ac ?_)
  have W := W.frontM (i := 1) Aa Aa
  have W := W.frontM (i := 1) Aa Aa
  have H := L2 _ H
  exact ⟨H, F.re ⟨rfl, trivial⟩, W⟩
 rintro a w ⟨hj, F, W⟩
 have H := K1 _ hj
 refine Ah (Ab ?_)
 refine ls F W Aa (Ae F Aa).q fun a w F W => ?_
 refine Ad (Ac (Av ?_))
 have H := AP H
 subst H
 refine AJ (.inl Aa) F W Aa (AB F Aa) ?_
 exact ⟨rfl, W.done⟩
theorem R5 : ∀ (n : Nat) (Y : Nat → Prop) (w0 : World) (v1 : Value) (v2 : Value) (p0 : Tr28) (p1 : Tr28) (r : Bool) (H : Fv n p0 p1 = some r) (h_v1 : Sl w0 (NX []) EC v1 p0.un.2.2.2) (h_v2 : Sl w0 (NX []) EC v2 p1.un.2.2.2), Calls Tryz.prog 23 #[.agg #[.int .i64 p0.un.1, .int .i64 p0.un.2.1, .int .i64 p0.un.2.2.1, v1], .agg #[.int .i64 p1.un.1, .int .i64 p1.un.2.1, .int .i64 p1.un.2.2.1, v2]] w0 fun e w' => e = .returned (.bool r) ∧ Below w0.heap.size w0 w' := by
  intro n
  induction n with
  | zero => intro Y w0 v1 v2 p0 p1 r H; exact nomatch H
  | succ n ih => intro Y w0 v1 v2 p0 p1 r H h_v1 h_v2; exact RJ (Fv n) ih Y w0 v1 v2 p0 p1 r H h_v1 h_v2
theorem Sv (Y : Nat → Prop) (w0 : World) (v1 : Value) (v2 : Value) (p0 : Tr28) (p1 : Tr28) (r : Bool) (H : PN p0 p1 = some r) (h_v1 : Sl w0 (NX []) EC v1 p0.un.2.2.2) (h_v2 : Sl w0 (NX []) EC v2 p1.un.2.2.2) :
    Calls Tryz.prog 23 #[.agg #[.int .i64 p0.un.1, .int .i64 p0.un.2.1, .int .i64 p0.un.2.2.1, v1], .agg #[.int .i64 p1.un.1, .int .i64 p1.un.2.1, .int .i64 p1.un.2.2.1, v2]] w0 fun e w' => e = .returned (.bool r) ∧ Below w0.heap.size w0 w' := by
  obtain ⟨n, H⟩ := Dd H
  exact R5 n Y w0 v1 v2 p0 p1 r H h_v1 h_v2
theorem UT : type_of% Tryz.underlying90 := Tryz.underlying90
theorem V0 : Ty Tryz.prog 54 true 4 := ⟨by kernel_rfl, by kernel_rfl⟩
theorem Yv : Bt Tryz.prog 90 [.int .i64 0, .int .i64 0, .int .i64 0, .int .i64 0, .int .i64 0, .int .i64 0] [(0, 1), (1, 1), (2, 4)] := ⟨⟨.agg #[.int .i64 0, .int .i64 0, .int .i64 0, .int .i64 0, .int .i64 0, .int .i64 0], by kernel_rfl, rfl⟩, ⟨_, UT, fun w => by kernel_rfl⟩⟩
def Il (p0 : Int) : Bool := (decide (0 ≤ p0) && decide (p0 < 4))
theorem Qh (Y : Nat → Prop) (w0 : World)  (p0 : Int) (r : Bool) (H : Il p0 = r)  :
    Calls Tryz.prog 137 #[.int .i64 p0] w0 fun e w' => e = .returned (.bool r) ∧ Below w0.heap.size w0 w' := by
 refine enter Tryz.func137 Aa Tryz.ntmps137 Aa fun a F => ?_
 have W := Stw.start Y w0
 unfold Il at H
 refine Ah (Ab ?_)
 refine ls F W Aa (Ae F Aa).q fun a w F W => ?_
 refine Ad (Ac ?_)
 refine AO (fun a w => Fr 9 [] [(2, .bool (decide (0 ≤ p0) && decide (p0 < 4)))] a ∧ Stw ⟨Y, [], w0⟩ [] [] w) ?_ ?_
 ·
  refine Ab ?_
  refine ls F W Aa (Ag F Aa).q fun a w F W => ?_
  refine ls F W Aa (D4 F Aa Aa).q fun a w F W => ?_
  refine ls F W Aa (Ag F Aa).q fun a w F W => ?_
  rcases bxq (decide (0 ≤ p0)) with hb0 | hb0
  ·
   rw [hb0] at F
   refine AK F W (Af F Aa Aa Aa Aa) Aa (Ak Aa) (Ag F Aa).q fun a w F W => ?_
   refine AK F W (Af F Aa Aa Aa Aa) Aa (Ak Aa) (Cu F Aa Aa).q fun a w F W => ?_
   refine ls F W Aa (Ax F Aa Aa Aa).q fun a w F W => ?_
   refine ls F W Aa (Ae F Aa).q fun a w F W => ?_
   refine Ad (Ac ?_)
   exact ⟨F.re ⟨(by show some (Value.bool (decide (p0 < 4))) = some (Value.bool (decide (0 ≤ p0) && decide (p0 < 4))); try rw [hb0]; all_goals simp only [Bool.not_true, Bool.not_false, Bool.true_and, Bool.false_and, Bool.true_or, Bool.false_or, Bool.and_true, Bool.or_false, cond_true, cond_false]), trivial⟩, W⟩
  rw [hb0] at F
  iterate 2 refine Dz F Aa Aa Aa Aa Aa Aa Aa fun a F => ?_
  refine ls F W Aa (As F Aa Aa Aa).q fun a w F W => ?_
  refine ls F W Aa (Ae F Aa).q fun a w F W => ?_
  refine Ad (Ac ?_)
  exact ⟨F.re ⟨(by show some (Value.bool false) = some (Value.bool (decide (0 ≤ p0) && decide (p0 < 4))); try rw [hb0]; all_goals simp only [Bool.not_true, Bool.not_false, Bool.true_and, Bool.false_and, Bool.true_or, Bool.false_or, Bool.and_true, Bool.or_false, cond_true, cond_false]), trivial⟩, W⟩
 rintro a w ⟨F, W⟩
 refine Av ?_
 subst H
 refine AJ (.inl Aa) F W Aa (AB F Aa) ?_
 exact ⟨rfl, W.done⟩
theorem Xh : type_of% Tryz.underlying54 := Tryz.underlying54
theorem Xr : Has Tryz.prog 137 := ⟨fun args w => Aj Tryz.func137 rfl (by decide) args w⟩
theorem W3 : Ar Tryz.prog 54 4 3 1 := ⟨Xh, by kernel_rfl⟩
def Li (p0 : Int × Int × Int × Int) (p1 : Int) : Option Int := (if (!(Il p1)) = true then some 0 else (ix ([p0.1, p0.2.1, p0.2.2.1, p0.2.2.2] : List Int) p1).bind fun x1 => some x1)
theorem Rm (Y : Nat → Prop) (w0 : World)  (p0 : Int × Int × Int × Int) (p1 : Int) (r : Int) (H : Li p0 p1 = some r)  :
    Calls Tryz.prog 111 #[.agg #[.int .i64 p0.1, .int .i64 p0.2.1, .int .i64 p0.2.2.1, .int .i64 p0.2.2.2], .int .i64 p1] w0 fun e w' => e = .returned (.int .i64 r) ∧ Below w0.heap.size w0 w' := by
 refine enter Tryz.func111 Aa Tryz.ntmps111 Aa fun a F => ?_
 have W := Stw.start Y w0
 unfold Li at H
 refine Ah (Ab ?_)
 refine CS (cs := [.int .i64 p0.1, .int .i64 p0.2.1, .int .i64 p0.2.2.1, .int .i64 p0.2.2.2]) F W Aa Aa Aa fun b1 a w F W => ?_
 refine ls F W Aa (Ae F Aa).q fun a w F W => ?_
 refine Ad (Ac (Ah (Ah (Ab ?_))))
 refine ls F W Aa (Ag F Aa).q fun a w F W => ?_
 refine ls F W Aa (A3 (v := Value.bool (Il p1)) F Xr Aa (fun w W => Qh any w p1 _ Aa)) fun a w F W => ?_
 refine ls F W Aa (F4 F Aa).q fun a w F W => ?_
 refine Ad (Ac ?_)
 refine Aw F Aa (fun hb => ?_) fun hb => ?_
 ·
  have H := AV hb H
  rw [hb] at F
  refine Ah (Ab ?_)
  refine ls F W Aa (Ae F Aa).q fun a w F W => ?_
  refine Ad (Ac (Av (AN ?_)))
  have H := AP H
  subst H
  refine AJ (.inl Aa) F W Aa (AB F Aa) ?_
  exact ⟨rfl, W.done⟩
 have H := AR (by rw [hb]; decide) H
 rw [hb] at F
 refine Ay (Ac (Ah (Ab ?_)))
 refine ls F W Aa (Ag F Aa).q fun a w F W => ?_
 obtain ⟨x1, h1, H⟩ := Am H
 refine ls F W Aa (UD (0 + (p1).toNat * 1) W3 F Aa Aa Aa h1 Aa).q fun a w F W => ?_
 refine ls F W Aa (Ao (v := Value.int .i64 x1) 0 F Aa Aa T3 (UN (base := 0) (m := 4) (l := [p0.1, p0.2.1, p0.2.2.1, p0.2.2.2]) (enc := Value.int .i64) Aa h1)).q fun a w F W => ?_
 refine ls F W Aa (Ae F Aa).q fun a w F W => ?_
 refine Ad (Ac (Av ?_))
 have H := AP H
 subst H
 refine AJ (.inl Aa) F W Aa (AB F Aa) ?_
 exact ⟨rfl, W.done⟩
theorem WQ : Has Tryz.prog 111 := ⟨fun args w => Aj Tryz.func111 rfl (by decide) args w⟩
def LX (p0 : Int) (p1 : Int) (p2 : Int) (p3 : Int × Int × Int × Int) : Option Int := (if p0 = 4 then some p2 else (if p0 = 5 then some p1 else (if (DH p0) = true then (Li p3 p0).bind fun x1 => some x1 else some (-1))))
theorem SC (Y : Nat → Prop) (w0 : World)  (p0 : Int) (p1 : Int) (p2 : Int) (p3 : Int × Int × Int × Int) (r : Int) (H : LX p0 p1 p2 p3 = some r)  :
    Calls Tryz.prog 89 #[.int .i64 p0, .int .i64 p1, .int .i64 p2, .agg #[.int .i64 p3.1, .int .i64 p3.2.1, .int .i64 p3.2.2.1, .int .i64 p3.2.2.2]] w0 fun e w' => e = .returned (.int .i64 r) ∧ Below w0.heap.size w0 w' := by
 refine enter Tryz.func89 Aa Tryz.ntmps89 Aa fun a F => ?_
 have W := Stw.start Y w0
 unfold LX at H
 refine Ah (Ab ?_)
 refine CS (cs := [.int .i64 p3.1, .int .i64 p3.2.1, .int .i64 p3.2.2.1, .int .i64 p3.2.2.2]) F W Aa Aa Aa fun b1 a w F W => ?_
 refine ls F W Aa (Ae F Aa).q fun a w F W => ?_
 refine Ad (Ac (Ah (Az (Ah (Ab ?_)))))
 refine ls F W Aa (Ag F Aa).q fun a w F W => ?_
 refine ls F W Aa (A7 F Aa Aa).q fun a w F W => ?_
 refine ls F W Aa (Ae F Aa).q fun a w F W => ?_
 refine Ad (Ac ?_)
 refine Aw F Aa (fun hb => ?_) fun hb => ?_
 ·
  have H := AV (Bg hb) H
  rw [hb] at F
  refine Ah (Ab ?_)
  refine ls F W Aa (Ag F Aa).q fun a w F W => ?_
  refine ls F W Aa (Ae F Aa).q fun a w F W => ?_
  refine Ad (Ac (Av (AQ (AN ?_))))
  have H := AP H
  subst H
  refine AJ (.inl Aa) F W Aa (AB F Aa) ?_
  exact ⟨rfl, W.done⟩
 have H := AR (Bf hb) H
 rw [hb] at F
 refine Ah (Ab ?_)
 refine ls F W Aa (Ag F Aa).q fun a w F W => ?_
 refine ls F W Aa (A7 F Aa Aa).q fun a w F W => ?_
 refine ls F W Aa (Ae F Aa).q fun a w F W => ?_
 refine Ad (Ac ?_)
 refine Aw F Aa (fun hb => ?_) fun hb => ?_
 ·
  have H := AV (Bg hb) H
  rw [hb] at F
  refine Ah (Ab ?_)
  refine ls F W Aa (Ag F Aa).q fun a w F W => ?_
  refine ls F W Aa (Ae F Aa).q fun a w F W => ?_
  refine Ad (Ac (Av (AQ (AN ?_))))
  have H := AP H
  subst H
  refine AJ (.inl Aa) F W Aa (AB F Aa) ?_
  exact ⟨rfl, W.done⟩
 have H := AR (Bf hb) H
 rw [hb] at F
 refine Ah (Ab ?_)
 refine ls F W Aa (Ag F Aa).q fun a w F W => ?_
 refine ls F W Aa (A3 (v := Value.bool (DH p0)) F XC Aa (fun w W => Lg any w p0 _ Aa)) fun a w F W => ?_
 refine ls F W Aa (Ae F Aa).q fun a w F W => ?_
 refine Ad (Ac ?_)
 refine Aw F Aa (fun hb => ?_) fun hb => ?_
 ·
  have H := AV hb H
  rw [hb] at F
  refine Ah (Ab ?_)
  refine ls F W Aa (Ao (v := Value.agg #[.int .i64 p3.1, .int .i64 p3.2.1, .int .i64 p3.2.2.1, .int .i64 p3.2.2.2]) 0 F Aa Aa V0 Aa).q fun a w F W => ?_
  refine ls F W Aa (Ag F Aa).q fun a w F W => ?_
  obtain ⟨x1, h1, H⟩ := Am H
  refine ls F W Aa (A3 (v := Value.int .i64 x1) F WQ Aa (fun w W => Rm any w p3 p0 _ h1)) fun a w F W => ?_
  refine ls F W Aa (Ae F Aa).q fun a w F W => ?_
  refine Ad (Ac (Av (AQ (AN ?_))))
  have H := AP H
  subst H
  refine AJ (.inl Aa) F W Aa (AB F Aa) ?_
  exact ⟨rfl, W.done⟩
 have H := AR (by rw [hb]; decide) H
 rw [hb] at F
 refine Ay (AU (Ac (Ah (Ab ?_))))
 refine ls F W Aa (Ae F Aa).q fun a w F W => ?_
 refine Ad (Ac (Av ?_))
 have H := AP H
 subst H
 refine AJ (.inl Aa) F W Aa (AB F Aa) ?_
 exact ⟨rfl, W.done⟩
theorem YM : Has Tryz.prog 89 := ⟨fun args w => Aj Tryz.func89 rfl (by decide) args w⟩
theorem WI : Ty Tryz.prog 90 true 6 := ⟨by kernel_rfl, by kernel_rfl⟩
theorem XB : Has Tryz.prog 53 := ⟨fun args w => Aj Tryz.func53 rfl (by decide) args w⟩
def C0 (fRec_pred_arrival_satisfies : (Int × Int × (Int × Int × Int × Int)) → Tr36 → Option Bool) (p0 : Int × Int × (Int × Int × Int × Int)) (p1 : Tr36) : Option Bool := (fRec_pred_arrival_satisfies p0 p1).bind fun x1 => some (!x1)
theorem Jn (fRec_pred_arrival_satisfies : (Int × Int × (Int × Int × Int × Int)) → Tr36 → Option Bool) (ih_pred_arrival_satisfies : ∀ (Y : Nat → Prop) (w0 : World) (v1 : Value) (p0 : Int × Int × (Int × Int × Int × Int)) (p1 : Tr36) (r : Bool) (H : fRec_pred_arrival_satisfies p0 p1 = some r) (h_v1 : Sl w0 (NX []) BF v1 p1.un.2.2.2), Calls Tryz.prog 53 #[.agg #[.int .i64 p0.1, .int .i64 p0.2.1, .int .i64 p0.2.2.1, .int .i64 p0.2.2.2.1, .int .i64 p0.2.2.2.2.1, .int .i64 p0.2.2.2.2.2], .agg #[.int .i64 p1.un.1, .int .i64 p1.un.2.1, .int .i64 p1.un.2.2.1, v1]] w0 fun e w' => e = .returned (.bool r) ∧ Below w0.heap.size w0 w') (Y : Nat → Prop) (w0 : World) (v1 : Value) (p0 : Int × Int × (Int × Int × Int × Int)) (p1 : Tr36) (r : Bool) (H : C0 fRec_pred_arrival_satisfies p0 p1 = some r) (h_v1 : Sl w0 (NX []) BF v1 p1.un.2.2.2) :
    Calls Tryz.prog 90 #[.agg #[.int .i64 p0.1, .int .i64 p0.2.1, .int .i64 p0.2.2.1, .int .i64 p0.2.2.2.1, .int .i64 p0.2.2.2.2.1, .int .i64 p0.2.2.2.2.2], .agg #[.int .i64 p1.un.1, .int .i64 p1.un.2.1, .int .i64 p1.un.2.2.1, v1]] w0 fun e w' => e = .returned (.bool r) ∧ Below w0.heap.size w0 w' := by
 refine enter Tryz.func90 Aa Tryz.ntmps90 Aa fun a F => ?_
 have W := Stw.start Y w0
 obtain ⟨v2, h1, h_v1⟩ := h_v1.ex BV
 unfold C0 at H
 refine Ah (Ab ?_)
 refine CS (cs := [.int .i64 p0.1, .int .i64 p0.2.1, .int .i64 p0.2.2.1, .int .i64 p0.2.2.2.1, .int .i64 p0.2.2.2.2.1, .int .i64 p0.2.2.2.2.2]) F W Aa Aa Aa fun b1 a w F W => ?_
 refine CS (cs := [.int .i64 p1.un.1, .int .i64 p1.un.2.1, .int .i64 p1.un.2.2.1, v1]) F W Aa Aa Aa fun b2 a w F W => ?_
 refine ls F W Aa (Ae F Aa).q fun a w F W => ?_
 refine Ad (Ac (Ah (Ab ?_)))
 refine ls F W Aa (Ao (v := Value.agg #[.int .i64 p0.1, .int .i64 p0.2.1, .int .i64 p0.2.2.1, .int .i64 p0.2.2.2.1, .int .i64 p0.2.2.2.2.1, .int .i64 p0.2.2.2.2.2]) 1 F Aa Aa WI Aa).q fun a w F W => ?_
 refine ls F W Aa (Ao (v := Value.agg #[.int .i64 p1.un.1, .int .i64 p1.un.2.1, .int .i64 p1.un.2.2.1, v1]) 0 F Aa Aa ER Aa).q fun a w F W => ?_
 obtain ⟨x1, h2, H⟩ := Am H
 refine ls F W Aa (A3 (v := Value.bool x1) F XB Aa (fun w W => ih_pred_arrival_satisfies any w (v1) p0 p1 _ h2 (((AH BV h1 (Aq h_v1)) : D1 _ _ _ _ _ _) w W).nx)) fun a w F W => ?_
 refine ls F W Aa (F4 F Aa).q fun a w F W => ?_
 refine ls F W Aa (Ae F Aa).q fun a w F W => ?_
 refine Ad (Ac (Av ?_))
 have H := AP H
 subst H
 refine AJ (.inl Aa) F W Aa (AB F Aa) ?_
 exact ⟨rfl, W.done⟩
theorem XO : Has Tryz.prog 90 := ⟨fun args w => Aj Tryz.func90 rfl (by decide) args w⟩
def Bc (fRec_pred_arrival_satisfies : (Int × Int × (Int × Int × Int × Int)) → Tr36 → Option Bool) (p0 : List Tr36) (p1f0 : Int × Int × (Int × Int × Int × Int)) : Int → Option (Int ⊕ (Unit ⊕ Int))
  | x1 => (if x1 < (p0.length : Int) then (ix p0 x1).bind fun x2 => ((C0 fRec_pred_arrival_satisfies) p1f0 x2).bind fun x3 => (if x3 = true then some (.inr (.inr x1)) else some (.inl (AG (x1 + 1)))) else some (.inr (.inl ())))
def BA (fRec_pred_arrival_satisfies : (Int × Int × (Int × Int × Int × Int)) → Tr36 → Option Bool) (p0 : List Tr36) (p1f0 : Int × Int × (Int × Int × Int × Int)) : Option Int := Je (A6 (Bc fRec_pred_arrival_satisfies p0 p1f0) 0) fun _ => some (-1)
theorem Gx (fRec_pred_arrival_satisfies : (Int × Int × (Int × Int × Int × Int)) → Tr36 → Option Bool) (ih_pred_arrival_satisfies : ∀ (Y : Nat → Prop) (w0 : World) (v1 : Value) (p0 : Int × Int × (Int × Int × Int × Int)) (p1 : Tr36) (r : Bool) (H : fRec_pred_arrival_satisfies p0 p1 = some r) (h_v1 : Sl w0 (NX []) BF v1 p1.un.2.2.2), Calls Tryz.prog 53 #[.agg #[.int .i64 p0.1, .int .i64 p0.2.1, .int .i64 p0.2.2.1, .int .i64 p0.2.2.2.1, .int .i64 p0.2.2.2.2.1, .int .i64 p0.2.2.2.2.2], .agg #[.int .i64 p1.un.1, .int .i64 p1.un.2.1, .int .i64 p1.un.2.2.1, v1]] w0 fun e w' => e = .returned (.bool r) ∧ Below w0.heap.size w0 w') (Y : Nat → Prop) (w0 : World) (v1 : Value) (p0 : List Tr36) (p1f0 : Int × Int × (Int × Int × Int × Int)) (r : Int) (H : BA fRec_pred_arrival_satisfies p0 p1f0 = some r) (h_v1 : Sl w0 (NX []) BF v1 p0) :
    Calls Tryz.prog 110 #[v1, .func (.func 90) #[.agg #[.int .i64 p1f0.1, .int .i64 p1f0.2.1, .int .i64 p1f0.2.2.1, .int .i64 p1f0.2.2.2.1, .int .i64 p1f0.2.2.2.2.1, .int .i64 p1f0.2.2.2.2.2]] #[]] w0 fun e w' => e = .returned (.int .i64 r) ∧ Below w0.heap.size w0 w' := by
 refine enter Tryz.func110 Aa Tryz.ntmps110 Aa fun a F => ?_
 have W := Stw.start Y w0
 obtain ⟨v2, h1, h_v1⟩ := h_v1.ex BV
 unfold BA at H
 refine Ah (Ab ?_)
 refine ls F W Aa (Ae F Aa).q fun a w F W => ?_
 refine Ad (Ac ?_)
 obtain ⟨o1, G1, K1, L1⟩ := PQ H
 refine AO (fun a w => some (Sum.inl ()) = some o1 ∧ Fr 19 [] [(4, .int .i64 0)] a ∧ Stw ⟨Y, [], w0⟩ [] [] w) ?_ ?_
 ·
  have H := G1
  refine Ah (Ab ?_)
  refine ls F W Aa (Ag F Aa).q fun a w F W => ?_
  refine ls F W Aa (CA (r := BF) (l := p0) JW Aa F Aa (AH BV h1 (Aq h_v1))).q fun a w F W => ?_
  refine ls F W Aa (Ag F Aa).q fun a w F W => ?_
  refine Ad (Ac (Az ?_))
  refine BG H (fun s a w => Fr 19 [] [(0, v1), (1, .func (.func 90) #[.agg #[.int .i64 p1f0.1, .int .i64 p1f0.2.1, .int .i64 p1f0.2.2.1, .int .i64 p1f0.2.2.2.1, .int .i64 p1f0.2.2.2.2.1, .int .i64 p1f0.2.2.2.2.2]] #[]), (4, .int .i64 0), (7, .int .i64 (p0.length : Int)), (8, .int .i64 s)] a ∧ Stw ⟨Y, [], w0⟩ [] [] w) ⟨F.re ⟨rfl, Aa, Aa, Aa, Aa, trivial⟩, W⟩ fun s o a w H L2 hR => ?_
  obtain ⟨x1, rfl⟩ : ∃ x, x = s := ⟨s, rfl⟩
  obtain ⟨F, W⟩ := hR
  have F : Fr 19 [] [(0, v1), (1, .func (.func 90) #[.agg #[.int .i64 p1f0.1, .int .i64 p1f0.2.1, .int .i64 p1f0.2.2.1, .int .i64 p1f0.2.2.2.1, .int .i64 p1f0.2.2.2.2.1, .int .i64 p1f0.2.2.2.2.2]] #[]), (4, .int .i64 0), (7, .int .i64 (p0.length : Int)), (8, .int .i64 x1)] a := F
  have W : Stw ⟨Y, [], w0⟩ [] [] w := W
  rw [Bc] at H
  refine Ah (Ab ?_)
  refine ls F W Aa (Cu F Aa Aa).q fun a w F W => ?_
  refine Ad (Ac (Ah ?_))
  refine Aw F Aa (fun hb => ?_) fun hb => ?_
  ·
   have H := AV (Bg hb) H
   rw [hb] at F
   refine Ay (Ac (Ah (Az (Ah (Ab ?_)))))
   refine ls F W Aa (Ag F Aa).q fun a w F W => ?_
   refine ls F W Aa (Ae F Aa).q fun a w F W => ?_
   refine Ad (Ac (Ah (Ab ?_)))
   iterate 3 refine ls F W Aa (Ag F Aa).q fun a w F W => ?_
   obtain ⟨x2, h2, H⟩ := Am H
   obtain ⟨v3, h3, h4⟩ := Ez h1 h2
   have h5 : Hl v3 = [.int .i64 x2.un.1, .int .i64 x2.un.2.1, .int .i64 x2.un.2.2.1, (v3.2.2.2.1)] := congrArg (fun q : Tr36 => ([.int .i64 q.un.1, .int .i64 q.un.2.1, .int .i64 q.un.2.2.1, (v3.2.2.2.1)] : List Value)) h4
   refine ls F W Aa (AM (r := HW) Ps F Aa Aa (Aq h_v1) h3).q fun a w F W => ?_
   refine ls F W Aa (AA (y := Value.agg #[.int .i64 x2.un.1, .int .i64 x2.un.2.1, .int .i64 x2.un.2.2.1, (v3.2.2.2.1)]) (j := 0) (i := x1) (enc := Hl) F Aa Aa (Aq h_v1) h3 MD ER (by rw [h5]; rfl)).q fun a w F W => ?_
   obtain ⟨x3, h6, H⟩ := Am H
   refine ls F W Aa (I7 (ws := [.agg #[.int .i64 p1f0.1, .int .i64 p1f0.2.1, .int .i64 p1f0.2.2.1, .int .i64 p1f0.2.2.2.1, .int .i64 p1f0.2.2.2.2.1, .int .i64 p1f0.2.2.2.2.2], .agg #[.int .i64 x2.un.1, .int .i64 x2.un.2.1, .int .i64 x2.un.2.2.1, (v3.2.2.2.1)]]) (v := Value.bool x3) F XO Aa (fun w W => (Jn fRec_pred_arrival_satisfies ih_pred_arrival_satisfies) any w ((v3.2.2.2.1)) p1f0 x2 _ h6 (((Cn (Aq h_v1) h3 (AC.snd (AC.snd (AC.snd AC.here))) (congrArg (fun q : Tr36 => q.un.2.2.2) h4)) : D1 _ _ _ _ _ _) w W).nx)) fun a w F W => ?_
   refine Ad (Ac ?_)
   refine Aw F Aa (fun hb => ?_) fun hb => ?_
   ·
    have H := AV hb H
    rw [hb] at F
    refine Ah (Ab ?_)
    refine ls F W Aa (Ag F Aa).q fun a w F W => ?_
    refine ls F W Aa (Ae F Aa).q fun a w F W => ?_
    refine Ad (Ac (Av (AQ ?_)))
    iterate 2 refine AN ?_
    refine AQ (AN ?_)
    have H := L2 _ H
    have H := L1 _ H
    have H := AP H
    subst H
    refine AJ (.inl Aa) F W Aa (AB F Aa) ?_
    exact ⟨rfl, W.done⟩
   have H := AR (by rw [hb]; decide) H
   rw [hb] at F
   refine Ay (AU (Ac (Ab ?_)))
   refine ls F W Aa (BL F Aa Aa Aa).q fun a w F W => ?_
   refine ls F W Aa (Ag F Aa).q fun a w F W => ?_
   refine Ad (Ac ?_)
   exact ⟨_, H, F.re ⟨rfl, Aa, Aa, Aa, Aa, trivial⟩, W⟩
  have H := AR (Bf hb) H
  rw [hb] at F
  refine Bz ?_
  iterate 2 refine BS ?_
  refine Bx (Ac ?_)
  have H := L2 _ H
  exact ⟨H, F.re ⟨rfl, trivial⟩, W⟩
 rintro a w ⟨hj, F, W⟩
 have H := K1 _ hj
 refine Ah (Ab ?_)
 refine ls F W Aa (Ae F Aa).q fun a w F W => ?_
 refine Ad (Ac (Av ?_))
 have H := AP H
 subst H
 refine AJ (.inl Aa) F W Aa (AB F Aa) ?_
 exact ⟨rfl, W.done⟩
def Bo (fRec_pred_arrival_satisfies : (Int × Int × (Int × Int × Int × Int)) → Tr36 → Option Bool) (p0 : List Tr36) (p1f0 : Int × Int × (Int × Int × Int × Int)) : Option Bool := ((BA fRec_pred_arrival_satisfies) p0 p1f0).bind fun x1 => some (decide (0 ≤ x1))
theorem FR (fRec_pred_arrival_satisfies : (Int × Int × (Int × Int × Int × Int)) → Tr36 → Option Bool) (ih_pred_arrival_satisfies : ∀ (Y : Nat → Prop) (w0 : World) (v1 : Value) (p0 : Int × Int × (Int × Int × Int × Int)) (p1 : Tr36) (r : Bool) (H : fRec_pred_arrival_satisfies p0 p1 = some r) (h_v1 : Sl w0 (NX []) BF v1 p1.un.2.2.2), Calls Tryz.prog 53 #[.agg #[.int .i64 p0.1, .int .i64 p0.2.1, .int .i64 p0.2.2.1, .int .i64 p0.2.2.2.1, .int .i64 p0.2.2.2.2.1, .int .i64 p0.2.2.2.2.2], .agg #[.int .i64 p1.un.1, .int .i64 p1.un.2.1, .int .i64 p1.un.2.2.1, v1]] w0 fun e w' => e = .returned (.bool r) ∧ Below w0.heap.size w0 w') (Y : Nat → Prop) (w0 : World) (v1 : Value) (p0 : List Tr36) (p1f0 : Int × Int × (Int × Int × Int × Int)) (r : Bool) (H : Bo fRec_pred_arrival_satisfies p0 p1f0 = some r) (h_v1 : Sl w0 (NX []) BF v1 p0) :
    Calls Tryz.prog 84 #[v1, .func (.func 90) #[.agg #[.int .i64 p1f0.1, .int .i64 p1f0.2.1, .int .i64 p1f0.2.2.1, .int .i64 p1f0.2.2.2.1, .int .i64 p1f0.2.2.2.2.1, .int .i64 p1f0.2.2.2.2.2]] #[]] w0 fun e w' => e = .returned (.bool r) ∧ Below w0.heap.size w0 w' := by
 refine enter Tryz.func84 Aa Tryz.ntmps84 Aa fun a F => ?_
 have W := Stw.start Y w0
 obtain ⟨v2, h1, h_v1⟩ := h_v1.ex BV
 unfold Bo at H
 refine Ah (Ab ?_)
 refine ls F W Aa (Ae F Aa).q fun a w F W => ?_
 refine Ad (Ac (Ah (Ab ?_)))
 iterate 2 refine ls F W Aa (Ag F Aa).q fun a w F W => ?_
 obtain ⟨x1, h2, H⟩ := Am H
 refine ls F W Aa (A3 (v := Value.int .i64 x1) F VH Aa (fun w W => (Gx fRec_pred_arrival_satisfies ih_pred_arrival_satisfies) any w (v1) p0 p1f0 _ h2 (((AH BV h1 (Aq h_v1)) : D1 _ _ _ _ _ _) w W).nx)) fun a w F W => ?_
 refine ls F W Aa (D4 F Aa Aa).q fun a w F W => ?_
 refine ls F W Aa (Ae F Aa).q fun a w F W => ?_
 refine Ad (Ac (Av ?_))
 have H := AP H
 subst H
 refine AJ (.inl Aa) F W Aa (AB F Aa) ?_
 exact ⟨rfl, W.done⟩
def Bb (fRec_pred_arrival_satisfies : (Int × Int × (Int × Int × Int × Int)) → Tr36 → Option Bool) (p0 : List Tr36) (p1f0 : Int × Int × (Int × Int × Int × Int)) : Int → Option (Int ⊕ (Unit ⊕ Int))
  | x1 => (if x1 < (p0.length : Int) then (ix p0 x1).bind fun x2 => (fRec_pred_arrival_satisfies p1f0 x2).bind fun x3 => (if x3 = true then some (.inr (.inr x1)) else some (.inl (AG (x1 + 1)))) else some (.inr (.inl ())))
def BB (fRec_pred_arrival_satisfies : (Int × Int × (Int × Int × Int × Int)) → Tr36 → Option Bool) (p0 : List Tr36) (p1f0 : Int × Int × (Int × Int × Int × Int)) : Option Int := Je (A6 (Bb fRec_pred_arrival_satisfies p0 p1f0) 0) fun _ => some (-1)
theorem GA (fRec_pred_arrival_satisfies : (Int × Int × (Int × Int × Int × Int)) → Tr36 → Option Bool) (ih_pred_arrival_satisfies : ∀ (Y : Nat → Prop) (w0 : World) (v1 : Value) (p0 : Int × Int × (Int × Int × Int × Int)) (p1 : Tr36) (r : Bool) (H : fRec_pred_arrival_satisfies p0 p1 = some r) (h_v1 : Sl w0 (NX []) BF v1 p1.un.2.2.2), Calls Tryz.prog 53 #[.agg #[.int .i64 p0.1, .int .i64 p0.2.1, .int .i64 p0.2.2.1, .int .i64 p0.2.2.2.1, .int .i64 p0.2.2.2.2.1, .int .i64 p0.2.2.2.2.2], .agg #[.int .i64 p1.un.1, .int .i64 p1.un.2.1, .int .i64 p1.un.2.2.1, v1]] w0 fun e w' => e = .returned (.bool r) ∧ Below w0.heap.size w0 w') (Y : Nat → Prop) (w0 : World) (v1 : Value) (p0 : List Tr36) (p1f0 : Int × Int × (Int × Int × Int × Int)) (r : Int) (H : BB fRec_pred_arrival_satisfies p0 p1f0 = some r) (h_v1 : Sl w0 (NX []) BF v1 p0) :
    Calls Tryz.prog 110 #[v1, .func (.func 53) #[.agg #[.int .i64 p1f0.1, .int .i64 p1f0.2.1, .int .i64 p1f0.2.2.1, .int .i64 p1f0.2.2.2.1, .int .i64 p1f0.2.2.2.2.1, .int .i64 p1f0.2.2.2.2.2]] #[]] w0 fun e w' => e = .returned (.int .i64 r) ∧ Below w0.heap.size w0 w' := by
 refine enter Tryz.func110 Aa Tryz.ntmps110 Aa fun a F => ?_
 have W := Stw.start Y w0
 obtain ⟨v2, h1, h_v1⟩ := h_v1.ex BV
 unfold BB at H
 refine Ah (Ab ?_)
 refine ls F W Aa (Ae F Aa).q fun a w F W => ?_
 refine Ad (Ac ?_)
 obtain ⟨o1, G1, K1, L1⟩ := PQ H
 refine AO (fun a w => some (Sum.inl ()) = some o1 ∧ Fr 19 [] [(4, .int .i64 0)] a ∧ Stw ⟨Y, [], w0⟩ [] [] w) ?_ ?_
 ·
  have H := G1
  refine Ah (Ab ?_)
  refine ls F W Aa (Ag F Aa).q fun a w F W => ?_
  refine ls F W Aa (CA (r := BF) (l := p0) JW Aa F Aa (AH BV h1 (Aq h_v1))).q fun a w F W => ?_
  refine ls F W Aa (Ag F Aa).q fun a w F W => ?_
  refine Ad (Ac (Az ?_))
  refine BG H (fun s a w => Fr 19 [] [(0, v1), (1, .func (.func 53) #[.agg #[.int .i64 p1f0.1, .int .i64 p1f0.2.1, .int .i64 p1f0.2.2.1, .int .i64 p1f0.2.2.2.1, .int .i64 p1f0.2.2.2.2.1, .int .i64 p1f0.2.2.2.2.2]] #[]), (4, .int .i64 0), (7, .int .i64 (p0.length : Int)), (8, .int .i64 s)] a ∧ Stw ⟨Y, [], w0⟩ [] [] w) ⟨F.re ⟨rfl, Aa, Aa, Aa, Aa, trivial⟩, W⟩ fun s o a w H L2 hR => ?_
  obtain ⟨x1, rfl⟩ : ∃ x, x = s := ⟨s, rfl⟩
  obtain ⟨F, W⟩ := hR
  have F : Fr 19 [] [(0, v1), (1, .func (.func 53) #[.agg #[.int .i64 p1f0.1, .int .i64 p1f0.2.1, .int .i64 p1f0.2.2.1, .int .i64 p1f0.2.2.2.1, .int .i64 p1f0.2.2.2.2.1, .int .i64 p1f0.2.2.2.2.2]] #[]), (4, .int .i64 0), (7, .int .i64 (p0.length : Int)), (8, .int .i64 x1)] a := F
  have W : Stw ⟨Y, [], w0⟩ [] [] w := W
  rw [Bb] at H
  refine Ah (Ab ?_)
  refine ls F W Aa (Cu F Aa Aa).q fun a w F W => ?_
  refine Ad (Ac (Ah ?_))
  refine Aw F Aa (fun hb => ?_) fun hb => ?_
  ·
   have H := AV (Bg hb) H
   rw [hb] at F
   refine Ay (Ac (Ah (Az (Ah (Ab ?_)))))
   refine ls F W Aa (Ag F Aa).q fun a w F W => ?_
   refine ls F W Aa (Ae F Aa).q fun a w F W => ?_
   refine Ad (Ac (Ah (Ab ?_)))
   iterate 3 refine ls F W Aa (Ag F Aa).q fun a w F W => ?_
   obtain ⟨x2, h2, H⟩ := Am H
   obtain ⟨v3, h3, h4⟩ := Ez h1 h2
   have h5 : Hl v3 = [.int .i64 x2.un.1, .int .i64 x2.un.2.1, .int .i64 x2.un.2.2.1, (v3.2.2.2.1)] := congrArg (fun q : Tr36 => ([.int .i64 q.un.1, .int .i64 q.un.2.1, .int .i64 q.un.2.2.1, (v3.2.2.2.1)] : List Value)) h4
   refine ls F W Aa (AM (r := HW) Ps F Aa Aa (Aq h_v1) h3).q fun a w F W => ?_
   refine ls F W Aa (AA (y := Value.agg #[.int .i64 x2.un.1, .int .i64 x2.un.2.1, .int .i64 x2.un.2.2.1, (v3.2.2.2.1)]) (j := 0) (i := x1) (enc := Hl) F Aa Aa (Aq h_v1) h3 MD ER (by rw [h5]; rfl)).q fun a w F W => ?_
   obtain ⟨x3, h6, H⟩ := Am H
   refine ls F W Aa (I7 (ws := [.agg #[.int .i64 p1f0.1, .int .i64 p1f0.2.1, .int .i64 p1f0.2.2.1, .int .i64 p1f0.2.2.2.1, .int .i64 p1f0.2.2.2.2.1, .int .i64 p1f0.2.2.2.2.2], .agg #[.int .i64 x2.un.1, .int .i64 x2.un.2.1, .int .i64 x2.un.2.2.1, (v3.2.2.2.1)]]) (v := Value.bool x3) F XB Aa (fun w W => ih_pred_arrival_satisfies any w ((v3.2.2.2.1)) p1f0 x2 _ h6 (((Cn (Aq h_v1) h3 (AC.snd (AC.snd (AC.snd AC.here))) (congrArg (fun q : Tr36 => q.un.2.2.2) h4)) : D1 _ _ _ _ _ _) w W).nx)) fun a w F W => ?_
   refine Ad (Ac ?_)
   refine Aw F Aa (fun hb => ?_) fun hb => ?_
   ·
    have H := AV hb H
    rw [hb] at F
    refine Ah (Ab ?_)
    refine ls F W Aa (Ag F Aa).q fun a w F W => ?_
    refine ls F W Aa (Ae F Aa).q fun a w F W => ?_
    refine Ad (Ac (Av (AQ ?_)))
    iterate 2 refine AN ?_
    refine AQ (AN ?_)
    have H := L2 _ H
    have H := L1 _ H
    have H := AP H
    subst H
    refine AJ (.inl Aa) F W Aa (AB F Aa) ?_
    exact ⟨rfl, W.done⟩
   have H := AR (by rw [hb]; decide) H
   rw [hb] at F
   refine Ay (AU (Ac (Ab ?_)))
   refine ls F W Aa (BL F Aa Aa Aa).q fun a w F W => ?_
   refine ls F W Aa (Ag F Aa).q fun a w F W => ?_
   refine Ad (Ac ?_)
   exact ⟨_, H, F.re ⟨rfl, Aa, Aa, Aa, Aa, trivial⟩, W⟩
  have H := AR (Bf hb) H
  rw [hb] at F
  refine Bz ?_
  iterate 2 refine BS ?_
  refine Bx (Ac ?_)
  have H := L2 _ H
  exact ⟨H, F.re ⟨rfl, trivial⟩, W⟩
 rintro a w ⟨hj, F, W⟩
 have H := K1 _ hj
 refine Ah (Ab ?_)
 refine ls F W Aa (Ae F Aa).q fun a w F W => ?_
 refine Ad (Ac (Av ?_))
 have H := AP H
 subst H
 refine AJ (.inl Aa) F W Aa (AB F Aa) ?_
 exact ⟨rfl, W.done⟩
def Bn (fRec_pred_arrival_satisfies : (Int × Int × (Int × Int × Int × Int)) → Tr36 → Option Bool) (p0 : List Tr36) (p1f0 : Int × Int × (Int × Int × Int × Int)) : Option Bool := ((BB fRec_pred_arrival_satisfies) p0 p1f0).bind fun x1 => some (decide (0 ≤ x1))
theorem FQ (fRec_pred_arrival_satisfies : (Int × Int × (Int × Int × Int × Int)) → Tr36 → Option Bool) (ih_pred_arrival_satisfies : ∀ (Y : Nat → Prop) (w0 : World) (v1 : Value) (p0 : Int × Int × (Int × Int × Int × Int)) (p1 : Tr36) (r : Bool) (H : fRec_pred_arrival_satisfies p0 p1 = some r) (h_v1 : Sl w0 (NX []) BF v1 p1.un.2.2.2), Calls Tryz.prog 53 #[.agg #[.int .i64 p0.1, .int .i64 p0.2.1, .int .i64 p0.2.2.1, .int .i64 p0.2.2.2.1, .int .i64 p0.2.2.2.2.1, .int .i64 p0.2.2.2.2.2], .agg #[.int .i64 p1.un.1, .int .i64 p1.un.2.1, .int .i64 p1.un.2.2.1, v1]] w0 fun e w' => e = .returned (.bool r) ∧ Below w0.heap.size w0 w') (Y : Nat → Prop) (w0 : World) (v1 : Value) (p0 : List Tr36) (p1f0 : Int × Int × (Int × Int × Int × Int)) (r : Bool) (H : Bn fRec_pred_arrival_satisfies p0 p1f0 = some r) (h_v1 : Sl w0 (NX []) BF v1 p0) :
    Calls Tryz.prog 84 #[v1, .func (.func 53) #[.agg #[.int .i64 p1f0.1, .int .i64 p1f0.2.1, .int .i64 p1f0.2.2.1, .int .i64 p1f0.2.2.2.1, .int .i64 p1f0.2.2.2.2.1, .int .i64 p1f0.2.2.2.2.2]] #[]] w0 fun e w' => e = .returned (.bool r) ∧ Below w0.heap.size w0 w' := by
 refine enter Tryz.func84 Aa Tryz.ntmps84 Aa fun a F => ?_
 have W := Stw.start Y w0
 obtain ⟨v2, h1, h_v1⟩ := h_v1.ex BV
 unfold Bn at H
 refine Ah (Ab ?_)
 refine ls F W Aa (Ae F Aa).q fun a w F W => ?_
 refine Ad (Ac (Ah (Ab ?_)))
 iterate 2 refine ls F W Aa (Ag F Aa).q fun a w F W => ?_
 obtain ⟨x1, h2, H⟩ := Am H
 refine ls F W Aa (A3 (v := Value.int .i64 x1) F VH Aa (fun w W => (GA fRec_pred_arrival_satisfies ih_pred_arrival_satisfies) any w (v1) p0 p1f0 _ h2 (((AH BV h1 (Aq h_v1)) : D1 _ _ _ _ _ _) w W).nx)) fun a w F W => ?_
 refine ls F W Aa (D4 F Aa Aa).q fun a w F W => ?_
 refine ls F W Aa (Ae F Aa).q fun a w F W => ?_
 refine Ad (Ac (Av ?_))
 have H := AP H
 subst H
 refine AJ (.inl Aa) F W Aa (AB F Aa) ?_
 exact ⟨rfl, W.done⟩
def Cl (fRec : (Int × Int × (Int × Int × Int × Int)) → Tr36 → Option Bool) (p0 : Int × Int × (Int × Int × Int × Int)) (p1 : Tr36) : Option Bool := (if p1.un.1 = 1 then some true else (if p1.un.1 = 3 then (if (DH p1.un.2.1) = true then (LX p1.un.2.1 p0.1 p0.2.1 p0.2.2).bind fun x2 => some (decide (x2 = p1.un.2.2.1)) else some false).bind fun x1 => some x1 else (if p1.un.1 = 4 then (if 0 < (p1.un.2.2.2.length : Int) then (ix p1.un.2.2.2 0).bind fun x4 => ((C0 fRec) p0 x4).bind fun x5 => some x5 else some false).bind fun x3 => some x3 else (if p1.un.1 = 5 then ((Bo fRec) p1.un.2.2.2 p0).bind fun x6 => some (!x6) else (if p1.un.1 = 6 then ((Bn fRec) p1.un.2.2.2 p0).bind fun x7 => some x7 else some false)))))
def BE : Nat → (Int × Int × (Int × Int × Int × Int)) → Tr36 → Option Bool
  | 0 => fun _ _ => none
  | n + 1 => Cl (BE n)
def F8 (p0 : Int × Int × (Int × Int × Int × Int)) (p1 : Tr36) : Option Bool := Jl fun n => BE n p0 p1
theorem JL (fRec : (Int × Int × (Int × Int × Int × Int)) → Tr36 → Option Bool) (ih : ∀ (Y : Nat → Prop) (w0 : World) (v1 : Value) (p0 : Int × Int × (Int × Int × Int × Int)) (p1 : Tr36) (r : Bool) (H : fRec p0 p1 = some r) (h_v1 : Sl w0 (NX []) BF v1 p1.un.2.2.2), Calls Tryz.prog 53 #[.agg #[.int .i64 p0.1, .int .i64 p0.2.1, .int .i64 p0.2.2.1, .int .i64 p0.2.2.2.1, .int .i64 p0.2.2.2.2.1, .int .i64 p0.2.2.2.2.2], .agg #[.int .i64 p1.un.1, .int .i64 p1.un.2.1, .int .i64 p1.un.2.2.1, v1]] w0 fun e w' => e = .returned (.bool r) ∧ Below w0.heap.size w0 w') (Y : Nat → Prop) (w0 : World) (v1 : Value) (p0 : Int × Int × (Int × Int × Int × Int)) (p1 : Tr36) (r : Bool) (H : Cl fRec p0 p1 = some r) (h_v1 : Sl w0 (NX []) BF v1 p1.un.2.2.2) :
    Calls Tryz.prog 53 #[.agg #[.int .i64 p0.1, .int .i64 p0.2.1, .int .i64 p0.2.2.1, .int .i64 p0.2.2.2.1, .int .i64 p0.2.2.2.2.1, .int .i64 p0.2.2.2.2.2], .agg #[.int .i64 p1.un.1, .int .i64 p1.un.2.1, .int .i64 p1.un.2.2.1, v1]] w0 fun e w' => e = .returned (.bool r) ∧ Below w0.heap.size w0 w' := by
 refine enter Tryz.func53 Aa Tryz.ntmps53 Aa fun a F => ?_
 have W := Stw.start Y w0
 obtain ⟨v2, h1, h_v1⟩ := h_v1.ex BV
 unfold Cl at H
 refine Ah (Ab ?_)
 refine CS (cs := [.int .i64 p0.1, .int .i64 p0.2.1, .int .i64 p0.2.2.1, .int .i64 p0.2.2.2.1, .int .i64 p0.2.2.2.2.1, .int .i64 p0.2.2.2.2.2]) F W Aa Aa Aa fun b1 a w F W => ?_
 refine CS (cs := [.int .i64 p1.un.1, .int .i64 p1.un.2.1, .int .i64 p1.un.2.2.1, v1]) F W Aa Aa Aa fun b2 a w F W => ?_
 refine ls F W Aa (Ae F Aa).q fun a w F W => ?_
 refine Ad (Ac (Ah (Ah (Ab ?_))))
 refine ls F W Aa (Ai Dt Aa Aa Aa T3 F Aa 0 Aa).q fun a w F W => ?_
 refine ls F W Aa (Ao (v := Value.int .i64 p1.un.1) 0 F Aa Aa T3 Aa).q fun a w F W => ?_
 refine Ad (Ac (Az (Ah (Ab ?_))))
 refine ls F W Aa (A7 F Aa Aa).q fun a w F W => ?_
 refine ls F W Aa (Ae F Aa).q fun a w F W => ?_
 refine Ad (Ac ?_)
 refine Aw F Aa (fun hb => ?_) fun hb => ?_
 ·
  have H := AV (Bg hb) H
  rw [hb] at F
  refine Ah (Ab ?_)
  refine ls F W Aa (Ae F Aa).q fun a w F W => ?_
  refine Ad (Ac (Av (AQ (AN ?_))))
  have H := AP H
  subst H
  refine AJ (.inl Aa) F W Aa (AB F Aa) ?_
  exact ⟨rfl, W.done⟩
 have H := AR (Bf hb) H
 rw [hb] at F
 refine Ah (Ab ?_)
 refine ls F W Aa (A7 F Aa Aa).q fun a w F W => ?_
 refine ls F W Aa (Ae F Aa).q fun a w F W => ?_
 refine Ad (Ac ?_)
 refine Aw F Aa (fun hb => ?_) fun hb => ?_
 ·
  have H := AV (Bg hb) H
  rw [hb] at F
  obtain ⟨o1, G1, K1⟩ := Am H
  refine AO (fun a w => ∃ x1 : Bool, some (x1) = some o1 ∧ Fr 57 [] [(4, .bool x1)] a ∧ Stw ⟨Y, [], w0⟩ [(b2, [.int .i64 p1.un.1, .int .i64 p1.un.2.1, .int .i64 p1.un.2.2.1, v1]), (b1, [.int .i64 p0.1, .int .i64 p0.2.1, .int .i64 p0.2.2.1, .int .i64 p0.2.2.2.1, .int .i64 p0.2.2.2.2.1, .int .i64 p0.2.2.2.2.2])] [] w) ?_ ?_
  ·
   have H := G1
   refine CK W MO (by kernel_rfl) ?_
   refine qs F Aa (Ai Dt Aa Aa Aa T3 F Aa 1 Aa).q fun a F => ?_
   refine qs F Aa (Ao (v := Value.int .i64 p1.un.2.1) 0 F Aa Aa T3 Aa).q fun a F => ?_
   refine qs F Aa (A3 (v := Value.bool (DH p1.un.2.1)) F XC Aa (fun w W => Lg any w p1.un.2.1 _ Aa)) fun a F => ?_
   refine qs F Aa (Ag F Aa).q fun a F => ?_
   rcases bxq (DH p1.un.2.1) with hb | hb
   ·
    have H := AV hb H
    rw [hb] at F
    refine Bk F (Af F Aa Aa Aa Aa) Aa (Ak Aa) (Ai Dt Aa Aa Aa T3 F Aa 1 Aa).q fun a F => ?_
    refine Bk F (Af F Aa Aa Aa Aa) Aa (Ak Aa) (Ao (v := Value.int .i64 p1.un.2.1) 0 F Aa Aa T3 Aa).q fun a F => ?_
    refine Bk F (Af F Aa Aa Aa Aa) Aa (Ak Aa) (Ai UT Aa Aa Aa T3 F Aa 0 Aa).q fun a F => ?_
    refine Bk F (Af F Aa Aa Aa Aa) Aa (Ak Aa) (Ao (v := Value.int .i64 p0.1) 1 F Aa Aa T3 Aa).q fun a F => ?_
    refine Bk F (Af F Aa Aa Aa Aa) Aa (Ak Aa) (Ai UT Aa Aa Aa T3 F Aa 1 Aa).q fun a F => ?_
    refine Bk F (Af F Aa Aa Aa Aa) Aa (Ak Aa) (Ao (v := Value.int .i64 p0.2.1) 1 F Aa Aa T3 Aa).q fun a F => ?_
    refine Bk F (Af F Aa Aa Aa Aa) Aa (Ak Aa) (Ai UT Aa Aa Aa V0 F Aa 2 Aa).q fun a F => ?_
    refine Bk F (Af F Aa Aa Aa Aa) Aa (Ak Aa) (Ao (v := Value.agg #[.int .i64 p0.2.2.1, .int .i64 p0.2.2.2.1, .int .i64 p0.2.2.2.2.1, .int .i64 p0.2.2.2.2.2]) 1 F Aa Aa V0 Aa).q fun a F => ?_
    obtain ⟨x2, h2, H⟩ := Am H
    refine Bk F (Af F Aa Aa Aa Aa) Aa (Ak Aa) (A3 (v := Value.int .i64 x2) F YM Aa (fun w W => SC any w p1.un.2.1 p0.1 p0.2.1 p0.2.2 _ h2)) fun a F => ?_
    refine Bk F (Af F Aa Aa Aa Aa) Aa (Ak Aa) (Ai Dt Aa Aa Aa T3 F Aa 2 Aa).q fun a F => ?_
    refine Bk F (Af F Aa Aa Aa Aa) Aa (Ak Aa) (Ao (v := Value.int .i64 p1.un.2.2.1) 0 F Aa Aa T3 Aa).q fun a F => ?_
    refine Bk F (Af F Aa Aa Aa Aa) Aa (Ak Aa) (A7 F Aa Aa).q fun a F => ?_
    refine qs F Aa (Ax F Aa Aa Aa).q fun a F => ?_
    refine qs F Aa (Ae F Aa).q fun a F => ?_
    refine A9 fun w W => ?_
    refine Ac ?_
    have W := W.frontM (i := 1) Aa Aa
    have W := W.frontM (i := 1) Aa Aa
    exact ⟨_, H, F.re ⟨rfl, trivial⟩, W⟩
   have H := AR (by rw [hb]; decide) H
   rw [hb] at F
   iterate 12 refine B4 F (Bi F Aa Aa Aa Aa Aa) Aa Aa fun a F => ?_
   refine qs F Aa (As F Aa Aa Aa).q fun a F => ?_
   refine qs F Aa (Ae F Aa).q fun a F => ?_
   refine A9 fun w W => ?_
   refine Ac ?_
   have W := W.frontM (i := 1) Aa Aa
   have W := W.frontM (i := 1) Aa Aa
   exact ⟨_, H, F.re ⟨rfl, trivial⟩, W⟩
  rintro a w ⟨x1, hj, F, W⟩
  have hj := AP hj
  subst hj
  have H := K1
  refine Av (AQ (AN ?_))
  have H := AP H
  subst H
  refine AJ (.inl Aa) F W Aa (AB F Aa) ?_
  exact ⟨rfl, W.done⟩
 have H := AR (Bf hb) H
 rw [hb] at F
 refine Ah (Ab ?_)
 refine ls F W Aa (A7 F Aa Aa).q fun a w F W => ?_
 refine ls F W Aa (Ae F Aa).q fun a w F W => ?_
 refine Ad (Ac ?_)
 refine Aw F Aa (fun hb => ?_) fun hb => ?_
 ·
  have H := AV (Bg hb) H
  rw [hb] at F
  obtain ⟨o2, G2, K2⟩ := Am H
  refine AO (fun a w => ∃ x3 : Bool, some (x3) = some o2 ∧ Fr 57 [] [(4, .bool x3)] a ∧ Stw ⟨Y, [], w0⟩ [(b2, [.int .i64 p1.un.1, .int .i64 p1.un.2.1, .int .i64 p1.un.2.2.1, v1]), (b1, [.int .i64 p0.1, .int .i64 p0.2.1, .int .i64 p0.2.2.1, .int .i64 p0.2.2.2.1, .int .i64 p0.2.2.2.2.1, .int .i64 p0.2.2.2.2.2])] [] w) ?_ ?_
  ·
   have H := G2
   refine CK W MO (by kernel_rfl) ?_
   refine qs F Aa (Ai Dt Aa Aa Aa Kg F Aa 3 Aa).q fun a F => ?_
   refine qs F Aa (Ao (v := v1) 0 F Aa Aa Kg Aa).q fun a F => ?_
   refine qs F Aa (CA (r := BF) (l := p1.un.2.2.2) JW Aa F Aa (AH BV h1 (Aq h_v1))).q fun a F => ?_
   refine qs F Aa (HL F Aa Aa).q fun a F => ?_
   refine qs F Aa (Ag F Aa).q fun a F => ?_
   rcases bxq (decide (0 < (p1.un.2.2.2.length : Int))) with hb | hb
   ·
    have H := AV (Bg hb) H
    rw [hb] at F
    refine Bk F (Af F Aa Aa Aa Aa) Aa (Ak Aa) (Ao (v := Value.agg #[.int .i64 p0.1, .int .i64 p0.2.1, .int .i64 p0.2.2.1, .int .i64 p0.2.2.2.1, .int .i64 p0.2.2.2.2.1, .int .i64 p0.2.2.2.2.2]) 1 F Aa Aa WI Aa).q fun a F => ?_
    refine Bk F (Af F Aa Aa Aa Aa) Aa (Ak Aa) (Ai Dt Aa Aa Aa Kg F Aa 3 Aa).q fun a F => ?_
    refine Bk F (Af F Aa Aa Aa Aa) Aa (Ak Aa) (Ao (v := v1) 0 F Aa Aa Kg Aa).q fun a F => ?_
    obtain ⟨x4, h3, H⟩ := Am H
    obtain ⟨v3, h4, h5⟩ := Ez h1 h3
    have h6 : Hl v3 = [.int .i64 x4.un.1, .int .i64 x4.un.2.1, .int .i64 x4.un.2.2.1, (v3.2.2.2.1)] := congrArg (fun q : Tr36 => ([.int .i64 q.un.1, .int .i64 q.un.2.1, .int .i64 q.un.2.2.1, (v3.2.2.2.1)] : List Value)) h5
    refine Bk F (Af F Aa Aa Aa Aa) Aa (Ak Aa) (AM (r := HW) Ps F Aa Aa (Aq h_v1) h4).q fun a F => ?_
    refine Bk F (Af F Aa Aa Aa Aa) Aa (Ak Aa) (AA (y := Value.agg #[.int .i64 x4.un.1, .int .i64 x4.un.2.1, .int .i64 x4.un.2.2.1, (v3.2.2.2.1)]) (j := 0) (i := 0) (enc := Hl) F Aa Aa (Aq h_v1) h4 MD ER (by rw [h6]; rfl)).q fun a F => ?_
    obtain ⟨x5, h7, H⟩ := Am H
    refine Bk F (Af F Aa Aa Aa Aa) Aa (Ak Aa) (A3 (v := Value.bool x5) F XO Aa (fun w W => (Jn fRec ih) any w ((v3.2.2.2.1)) p0 x4 _ h7 (((Cn (Aq h_v1) h4 (AC.snd (AC.snd (AC.snd AC.here))) (congrArg (fun q : Tr36 => q.un.2.2.2) h5)) : D1 _ _ _ _ _ _) w W).nx)) fun a F => ?_
    refine qs F Aa (Ax F Aa Aa Aa).q fun a F => ?_
    refine qs F Aa (Ae F Aa).q fun a F => ?_
    refine A9 fun w W => ?_
    refine Ac ?_
    have W := W.frontM (i := 1) Aa Aa
    have W := W.frontM (i := 1) Aa Aa
    exact ⟨_, H, F.re ⟨rfl, trivial⟩, W⟩
   have H := AR (Bf hb) H
   rw [hb] at F
   iterate 6 refine B4 F (Bi F Aa Aa Aa Aa Aa) Aa Aa fun a F => ?_
   refine qs F Aa (As F Aa Aa Aa).q fun a F => ?_
   refine qs F Aa (Ae F Aa).q fun a F => ?_
   refine A9 fun w W => ?_
   refine Ac ?_
   have W := W.frontM (i := 1) Aa Aa
   have W := W.frontM (i := 1) Aa Aa
   exact ⟨_, H, F.re ⟨rfl, trivial⟩, W⟩
  rintro a w ⟨x3, hj, F, W⟩
  have hj := AP hj
  subst hj
  have H := K2
  refine Av (AQ (AN ?_))
  have H := AP H
  subst H
  refine AJ (.inl Aa) F W Aa (AB F Aa) ?_
  exact ⟨rfl, W.done⟩
 have H := AR (Bf hb) H
 rw [hb] at F
 refine Ah (Ab ?_)
 refine ls F W Aa (A7 F Aa Aa).q fun a w F W => ?_
 refine ls F W Aa (Ae F Aa).q fun a w F W => ?_
 refine Ad (Ac ?_)
 refine Aw F Aa (fun hb => ?_) fun hb => ?_
 ·
  have H := AV (Bg hb) H
  rw [hb] at F
  refine Ah (Ab ?_)
  refine ls F W Aa (Ai Dt Aa Aa Aa Kg F Aa 3 Aa).q fun a w F W => ?_
  refine ls F W Aa (Ao (v := v1) 0 F Aa Aa Kg Aa).q fun a w F W => ?_
  refine ls F W Aa (Ao (v := Value.agg #[.int .i64 p0.1, .int .i64 p0.2.1, .int .i64 p0.2.2.1, .int .i64 p0.2.2.2.1, .int .i64 p0.2.2.2.2.1, .int .i64 p0.2.2.2.2.2]) 1 F Aa Aa WI Aa).q fun a w F W => ?_
  refine ls F W Aa (GX (us := [.agg #[.int .i64 p0.1, .int .i64 p0.2.1, .int .i64 p0.2.2.1, .int .i64 p0.2.2.2.1, .int .i64 p0.2.2.2.2.1, .int .i64 p0.2.2.2.2.2]]) (vs := []) F Aa Aa).q fun a w F W => ?_
  obtain ⟨x6, h8, H⟩ := Am H
  refine ls F W Aa (A3 (v := Value.bool x6) F W2 Aa (fun w W => (FR fRec ih) any w (v1) p1.un.2.2.2 p0 _ h8 (((AH BV h1 (Aq h_v1)) : D1 _ _ _ _ _ _) w W).nx)) fun a w F W => ?_
  refine ls F W Aa (F4 F Aa).q fun a w F W => ?_
  refine ls F W Aa (Ae F Aa).q fun a w F W => ?_
  refine Ad (Ac (Av (AQ (AN ?_))))
  have H := AP H
  subst H
  refine AJ (.inl Aa) F W Aa (AB F Aa) ?_
  exact ⟨rfl, W.done⟩
 have H := AR (Bf hb) H
 rw [hb] at F
 refine Ah (Ab ?_)
 refine ls F W Aa (A7 F Aa Aa).q fun a w F W => ?_
 refine ls F W Aa (Ae F Aa).q fun a w F W => ?_
 refine Ad (Ac ?_)
 refine Aw F Aa (fun hb => ?_) fun hb => ?_
 ·
  have H := AV (Bg hb) H
  rw [hb] at F
  refine Ah (Ab ?_)
  refine ls F W Aa (Ai Dt Aa Aa Aa Kg F Aa 3 Aa).q fun a w F W => ?_
  refine ls F W Aa (Ao (v := v1) 0 F Aa Aa Kg Aa).q fun a w F W => ?_
  refine ls F W Aa (Ao (v := Value.agg #[.int .i64 p0.1, .int .i64 p0.2.1, .int .i64 p0.2.2.1, .int .i64 p0.2.2.2.1, .int .i64 p0.2.2.2.2.1, .int .i64 p0.2.2.2.2.2]) 1 F Aa Aa WI Aa).q fun a w F W => ?_
  refine ls F W Aa (GX (us := [.agg #[.int .i64 p0.1, .int .i64 p0.2.1, .int .i64 p0.2.2.1, .int .i64 p0.2.2.2.1, .int .i64 p0.2.2.2.2.1, .int .i64 p0.2.2.2.2.2]]) (vs := []) F Aa Aa).q fun a w F W => ?_
  obtain ⟨x7, h9, H⟩ := Am H
  refine ls F W Aa (A3 (v := Value.bool x7) F W2 Aa (fun w W => (FQ fRec ih) any w (v1) p1.un.2.2.2 p0 _ h9 (((AH BV h1 (Aq h_v1)) : D1 _ _ _ _ _ _) w W).nx)) fun a w F W => ?_
  refine ls F W Aa (Ae F Aa).q fun a w F W => ?_
  refine Ad (Ac (Av (AQ (AN ?_))))
  have H := AP H
  subst H
  refine AJ (.inl Aa) F W Aa (AB F Aa) ?_
  exact ⟨rfl, W.done⟩
 have H := AR (Bf hb) H
 rw [hb] at F
 refine Ay (AU (Ac (Ah (Ab ?_))))
 refine ls F W Aa (Ae F Aa).q fun a w F W => ?_
 refine Ad (Ac (Av ?_))
 have H := AP H
 subst H
 refine AJ (.inl Aa) F W Aa (AB F Aa) ?_
 exact ⟨rfl, W.done⟩
theorem Kb : ∀ (n : Nat) (Y : Nat → Prop) (w0 : World) (v1 : Value) (p0 : Int × Int × (Int × Int × Int × Int)) (p1 : Tr36) (r : Bool) (H : BE n p0 p1 = some r) (h_v1 : Sl w0 (NX []) BF v1 p1.un.2.2.2), Calls Tryz.prog 53 #[.agg #[.int .i64 p0.1, .int .i64 p0.2.1, .int .i64 p0.2.2.1, .int .i64 p0.2.2.2.1, .int .i64 p0.2.2.2.2.1, .int .i64 p0.2.2.2.2.2], .agg #[.int .i64 p1.un.1, .int .i64 p1.un.2.1, .int .i64 p1.un.2.2.1, v1]] w0 fun e w' => e = .returned (.bool r) ∧ Below w0.heap.size w0 w' := by
  intro n
  induction n with
  | zero => intro Y w0 v1 p0 p1 r H; exact nomatch H
  | succ n ih => intro Y w0 v1 p0 p1 r H h_v1; exact JL (BE n) ih Y w0 v1 p0 p1 r H h_v1
theorem Kx (Y : Nat → Prop) (w0 : World) (v1 : Value) (p0 : Int × Int × (Int × Int × Int × Int)) (p1 : Tr36) (r : Bool) (H : F8 p0 p1 = some r) (h_v1 : Sl w0 (NX []) BF v1 p1.un.2.2.2) :
    Calls Tryz.prog 53 #[.agg #[.int .i64 p0.1, .int .i64 p0.2.1, .int .i64 p0.2.2.1, .int .i64 p0.2.2.2.1, .int .i64 p0.2.2.2.2.1, .int .i64 p0.2.2.2.2.2], .agg #[.int .i64 p1.un.1, .int .i64 p1.un.2.1, .int .i64 p1.un.2.2.1, v1]] w0 fun e w' => e = .returned (.bool r) ∧ Below w0.heap.size w0 w' := by
  obtain ⟨n, H⟩ := Dd H
  exact Kb n Y w0 v1 p0 p1 r H h_v1
def JJ (p0 : Tr36) (p1 : Int) (p2 : Int) (p3 : Int × Int × Int × Int) : Option Bool := (F8 (p1, p2, p3) p0).bind fun x1 => some x1
theorem Oj (Y : Nat → Prop) (w0 : World) (v1 : Value) (p0 : Tr36) (p1 : Int) (p2 : Int) (p3 : Int × Int × Int × Int) (r : Bool) (H : JJ p0 p1 p2 p3 = some r) (h_v1 : Sl w0 (NX []) BF v1 p0.un.2.2.2) :
    Calls Tryz.prog 26 #[.agg #[.int .i64 p0.un.1, .int .i64 p0.un.2.1, .int .i64 p0.un.2.2.1, v1], .int .i64 p1, .int .i64 p2, .agg #[.int .i64 p3.1, .int .i64 p3.2.1, .int .i64 p3.2.2.1, .int .i64 p3.2.2.2]] w0 fun e w' => e = .returned (.bool r) ∧ Below w0.heap.size w0 w' := by
 refine enter Tryz.func26 Aa Tryz.ntmps26 Aa fun a F => ?_
 have W := Stw.start Y w0
 obtain ⟨v2, h1, h_v1⟩ := h_v1.ex BV
 unfold JJ at H
 refine Ah (Ab ?_)
 refine CS (cs := [.int .i64 p0.un.1, .int .i64 p0.un.2.1, .int .i64 p0.un.2.2.1, v1]) F W Aa Aa Aa fun b1 a w F W => ?_
 refine CS (cs := [.int .i64 p3.1, .int .i64 p3.2.1, .int .i64 p3.2.2.1, .int .i64 p3.2.2.2]) F W Aa Aa Aa fun b2 a w F W => ?_
 refine ls F W Aa (Ae F Aa).q fun a w F W => ?_
 refine Ad (Ac (Ah (Ab ?_)))
 iterate 2 refine ls F W Aa (Ag F Aa).q fun a w F W => ?_
 refine ls F W Aa (Ao (v := Value.agg #[.int .i64 p3.1, .int .i64 p3.2.1, .int .i64 p3.2.2.1, .int .i64 p3.2.2.2]) 0 F Aa Aa V0 Aa).q fun a w F W => ?_
 refine ls F W Aa (De (v := Value.agg #[.int .i64 p1, .int .i64 p2, .int .i64 p3.1, .int .i64 p3.2.1, .int .i64 p3.2.2.1, .int .i64 p3.2.2.2]) Yv F Aa Aa Aa).q fun a w F W => ?_
 refine ls F W Aa (Ao (v := Value.agg #[.int .i64 p0.un.1, .int .i64 p0.un.2.1, .int .i64 p0.un.2.2.1, v1]) 1 F Aa Aa ER Aa).q fun a w F W => ?_
 obtain ⟨x1, h2, H⟩ := Am H
 refine ls F W Aa (A3 (v := Value.bool x1) F XB Aa (fun w W => Kx any w (v1) (p1, p2, p3) p0 _ h2 (((AH BV h1 (Aq h_v1)) : D1 _ _ _ _ _ _) w W).nx)) fun a w F W => ?_
 refine ls F W Aa (Ae F Aa).q fun a w F W => ?_
 refine Ad (Ac (Av ?_))
 have H := AP H
 subst H
 refine AJ (.inl Aa) F W Aa (AB F Aa) ?_
 exact ⟨rfl, W.done⟩
end
end Go.Proofs.YtgoifghhcekahaaGreatDoor
