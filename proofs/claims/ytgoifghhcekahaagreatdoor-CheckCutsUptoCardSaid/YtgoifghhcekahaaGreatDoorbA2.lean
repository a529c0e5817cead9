/- The functions of layer 30, JA. Conditions: none. -/
import Derived.Test.YtgoifghhcekahaaGreatDoorbA1
namespace Go.Proofs.YtgoifghhcekahaaGreatDoor
noncomputable section
open Go Go.RowKit
set_option linter.unusedVariables false
set_option linter.unusedSimpArgs false
set_option maxRecDepth 20000
theorem VM : Has Tryz.prog 107 := ⟨fun args w => Aj Tryz.func107 rfl (by decide) args w⟩
def Fi (fRec : Tr36 → Option (List UInt8)) (p0 : Tr36) : Option (List UInt8) := (if p0.un.1 = 1 then some ([116, 114, 117, 101] : List UInt8) else (if p0.un.1 = 2 then some ([102, 97, 108, 115, 101] : List UInt8) else (if p0.un.1 = 3 then (Ig (FO p0.un.2.1) ([32, 61, 32] : List UInt8)).bind fun x1 => (Q6 p0.un.2.2.1).bind fun x2 => (Ig x1 x2).bind fun x3 => some x3 else (if p0.un.1 = 4 then ((Gr fRec) p0.un.2.2.2 ([] : List UInt8)).bind fun x4 => (Ig ([110, 111, 116, 32] : List UInt8) x4).bind fun x5 => some x5 else (if p0.un.1 = 5 then ((Gr fRec) p0.un.2.2.2 ([32, 97, 110, 100, 32] : List UInt8)).bind fun x6 => some x6 else (if p0.un.1 = 6 then ((Gr fRec) p0.un.2.2.2 ([32, 111, 114, 32] : List UInt8)).bind fun x7 => some x7 else some ([63] : List UInt8)))))))
def FX : Nat → Tr36 → Option (List UInt8)
  | 0 => fun _ => none
  | n + 1 => Fi (FX n)
def Mo (p0 : Tr36) : Option (List UInt8) := Jl fun n => FX n p0
theorem QR (fRec : Tr36 → Option (List UInt8)) (ih : ∀ (Y : Nat → Prop) (w0 : World) (v1 : Value) (p0 : Tr36) (r : List UInt8) (H : fRec p0 = some r) (h_v1 : Sl w0 (NX []) BF v1 p0.un.2.2.2) (hG : Gk [] w0), Calls Tryz.prog 72 #[.agg #[.int .i64 p0.un.1, .int .i64 p0.un.2.1, .int .i64 p0.un.2.2.1, v1]] w0 fun e w' => e = .returned (.string (bs r)) ∧ Below w0.heap.size w0 w') (Y : Nat → Prop) (w0 : World) (v1 : Value) (p0 : Tr36) (r : List UInt8) (H : Fi fRec p0 = some r) (h_v1 : Sl w0 (NX []) BF v1 p0.un.2.2.2) (hG : Gk [] w0) :
    Calls Tryz.prog 72 #[.agg #[.int .i64 p0.un.1, .int .i64 p0.un.2.1, .int .i64 p0.un.2.2.1, v1]] w0 fun e w' => e = .returned (.string (bs r)) ∧ Below w0.heap.size w0 w' := by
 refine enter Tryz.func72 Aa Tryz.ntmps72 Aa fun a F => ?_
 have W := Stw.start Y w0
 obtain ⟨v2, h1, h_v1⟩ := h_v1.ex BV
 unfold Fi at H
 refine Ah (Ab ?_)
 refine CS (cs := [.int .i64 p0.un.1, .int .i64 p0.un.2.1, .int .i64 p0.un.2.2.1, v1]) F W Aa Aa Aa fun b1 a w F W => ?_
 refine ls F W Aa (Ae (v := Value.string (bs ([] : List UInt8))) F Aa).q fun a w F W => ?_
 refine Ad (Ac (Ah (Ah (Ab ?_))))
 refine ls F W Aa (Ai Dt Aa Aa Aa T3 F Aa 0 Aa).q fun a w F W => ?_
 refine ls F W Aa (Ao (v := Value.int .i64 p0.un.1) 0 F Aa Aa T3 Aa).q fun a w F W => ?_
 refine Ad (Ac (Az (Ah (Ab ?_))))
 refine ls F W Aa (A7 F Aa Aa).q fun a w F W => ?_
 refine ls F W Aa (Ae F Aa).q fun a w F W => ?_
 refine Ad (Ac ?_)
 refine Aw F Aa (fun hb => ?_) fun hb => ?_
 ·
  have H := AV (Bg hb) H
  rw [hb] at F
  refine Ah (Ab ?_)
  refine ls F W Aa (Ae (v := Value.string (bs ([116, 114, 117, 101] : List UInt8))) F Aa).q fun a w F W => ?_
  refine Ad (Ac (Av (AQ (AN ?_))))
  have H := AP H
  subst H
  refine AJ (.inl Aa) F W Aa (AB F Aa) ?_
  exact ⟨rfl, W.done⟩
 have H := AR (Bf hb) H
 rw [hb] at F
 refine Ah (Ab ?_)
 refine ls F W Aa (A7 F Aa Aa).q fun a w F W => ?_
 refine ls F W Aa (Ae F Aa).q fun a w F W => ?_
 refine Ad (Ac ?_)
 refine Aw F Aa (fun hb => ?_) fun hb => ?_
 ·
  have H := AV (Bg hb) H
  rw [hb] at F
  refine Ah (Ab ?_)
  refine ls F W Aa (Ae (v := Value.string (bs ([102, 97, 108, 115, 101] : List UInt8))) F Aa).q fun a w F W => ?_
  refine Ad (Ac (Av (AQ (AN ?_))))
  have H := AP H
  subst H
  refine AJ (.inl Aa) F W Aa (AB F Aa) ?_
  exact ⟨rfl, W.done⟩
 have H := AR (Bf hb) H
 rw [hb] at F
 refine Ah (Ab ?_)
 refine ls F W Aa (A7 F Aa Aa).q fun a w F W => ?_
 refine ls F W Aa (Ae F Aa).q fun a w F W => ?_
 refine Ad (Ac ?_)
 refine Aw F Aa (fun hb => ?_) fun hb => ?_
 ·
  have H := AV (Bg hb) H
  rw [hb] at F
  refine Ah ?_
  refine CK W MO (by kernel_rfl) ?_
  refine qs F Aa (Ai Dt Aa Aa Aa T3 F Aa 1 Aa).q fun a F => ?_
  refine qs F Aa (Ao (v := Value.int .i64 p0.un.2.1) 0 F Aa Aa T3 Aa).q fun a F => ?_
  refine qs F Aa (A3 (v := Value.string (bs (FO p0.un.2.1))) F Xv Aa (fun w W => Ob any w p0.un.2.1 _ Aa)) fun a F => ?_
  obtain ⟨x1, h2, H⟩ := Am H
  refine qs F Aa (IK (l := (FO p0.un.2.1)) (m := ([32, 61, 32] : List UInt8)) F Aa Aa h2).q fun a F => ?_
  refine qs F Aa (Ai Dt Aa Aa Aa T3 F Aa 2 Aa).q fun a F => ?_
  refine qs F Aa (Ao (v := Value.int .i64 p0.un.2.2.1) 0 F Aa Aa T3 Aa).q fun a F => ?_
  obtain ⟨x2, h3, H⟩ := Am H
  refine qs F Aa (A3 (v := Value.string (bs x2)) F XP Aa (fun w W => T1 any w p0.un.2.2.1 _ h3 (hG.go0 W))) fun a F => ?_
  obtain ⟨x3, h4, H⟩ := Am H
  refine qs F Aa (IK (l := x1) (m := x2) F Aa Aa h4).q fun a F => ?_
  refine qs F Aa (Ae F Aa).q fun a F => ?_
  refine A9 fun w W => ?_
  refine Ac (Av (AQ (AN ?_)))
  have H := AP H
  subst H
  refine AJ (.inl Aa) F W Aa (AB F Aa) ?_
  exact ⟨rfl, W.done⟩
 have H := AR (Bf hb) H
 rw [hb] at F
 refine Ah (Ab ?_)
 refine ls F W Aa (A7 F Aa Aa).q fun a w F W => ?_
 refine ls F W Aa (Ae F Aa).q fun a w F W => ?_
 refine Ad (Ac ?_)
 refine Aw F Aa (fun hb => ?_) fun hb => ?_
 ·
  have H := AV (Bg hb) H
  rw [hb] at F
  refine Ah (Ab ?_)
  refine ls F W Aa (Ai Dt Aa Aa Aa Kg F Aa 3 Aa).q fun a w F W => ?_
  refine ls F W Aa (Ao (v := v1) 0 F Aa Aa Kg Aa).q fun a w F W => ?_
  obtain ⟨x4, h5, H⟩ := Am H
  refine ls F W Aa (A3 (v := Value.string (bs x4)) F VM Aa (fun w W => (Mk fRec ih) any w (v1) p0.un.2.2.2 ([] : List UInt8) _ h5 (((AH BV h1 (Aq h_v1)) : D1 _ _ _ _ _ _) w W).nx (hG.go0 W))) fun a w F W => ?_
  obtain ⟨x5, h6, H⟩ := Am H
  refine ls F W Aa (IK (l := ([110, 111, 116, 32] : List UInt8)) (m := x4) F Aa Aa h6).q fun a w F W => ?_
  refine ls F W Aa (Ae F Aa).q fun a w F W => ?_
  refine Ad (Ac (Av (AQ (AN ?_))))
  have H := AP H
  subst H
  refine AJ (.inl Aa) F W Aa (AB F Aa) ?_
  exact ⟨rfl, W.done⟩
 have H := AR (Bf hb) H
 rw [hb] at F
 refine Ah (Ab ?_)
 refine ls F W Aa (A7 F Aa Aa).q fun a w F W => ?_
 refine ls F W Aa (Ae F Aa).q fun a w F W => ?_
 refine Ad (Ac ?_)
 refine Aw F Aa (fun hb => ?_) fun hb => ?_
 ·
  have H := AV (Bg hb) H
  rw [hb] at F
  refine Ah (Ab ?_)
  refine ls F W Aa (Ai Dt Aa Aa Aa Kg F Aa 3 Aa).q fun a w F W => ?_
  refine ls F W Aa (Ao (v := v1) 0 F Aa Aa Kg Aa).q fun a w F W => ?_
  obtain ⟨x6, h7, H⟩ := Am H
  refine ls F W Aa (A3 (v := Value.string (bs x6)) F VM Aa (fun w W => (Mk fRec ih) any w (v1) p0.un.2.2.2 ([32, 97, 110, 100, 32] : List UInt8) _ h7 (((AH BV h1 (Aq h_v1)) : D1 _ _ _ _ _ _) w W).nx (hG.go0 W))) fun a w F W => ?_
  refine ls F W Aa (Ae F Aa).q fun a w F W => ?_
  refine Ad (Ac (Av (AQ (AN ?_))))
  have H := AP H
  subst H
  refine AJ (.inl Aa) F W Aa (AB F Aa) ?_
  exact ⟨rfl, W.done⟩
 have H := AR (Bf hb) H
 rw [hb] at F
 refine Ah (Ab ?_)
 refine ls F W Aa (A7 F Aa Aa).q fun a w F W => ?_
 refine ls F W Aa (Ae F Aa).q fun a w F W => ?_
 refine Ad (Ac ?_)
 refine Aw F Aa (fun hb => ?_) fun hb => ?_
 ·
  have H := AV (Bg hb) H
  rw [hb] at F
  refine Ah (Ab ?_)
  refine ls F W Aa (Ai Dt Aa Aa Aa Kg F Aa 3 Aa).q fun a w F W => ?_
  refine ls F W Aa (Ao (v := v1) 0 F Aa Aa Kg Aa).q fun a w F W => ?_
  obtain ⟨x7, h8, H⟩ := Am H
  refine ls F W Aa (A3 (v := Value.string (bs x7)) F VM Aa (fun w W => (Mk fRec ih) any w (v1) p0.un.2.2.2 ([32, 111, 114, 32] : List UInt8) _ h8 (((AH BV h1 (Aq h_v1)) : D1 _ _ _ _ _ _) w W).nx (hG.go0 W))) fun a w F W => ?_
  refine ls F W Aa (Ae F Aa).q fun a w F W => ?_
  refine Ad (Ac (Av (AQ (AN ?_))))
  have H := AP H
  subst H
  refine AJ (.inl Aa) F W Aa (AB F Aa) ?_
  exact ⟨rfl, W.done⟩
 have H := AR (Bf hb) H
 rw [hb] at F
 refine Ay (AU (Ac (Ah (Ab ?_))))
 refine ls F W Aa (Ae (v := Value.string (bs ([63] : List UInt8))) F Aa).q fun a w F W => ?_
 refine Ad (Ac (Av ?_))
 have H := AP H
 subst H
 refine AJ (.inl Aa) F W Aa (AB F Aa) ?_
 exact ⟨rfl, W.done⟩
theorem Ru : ∀ (n : Nat) (Y : Nat → Prop) (w0 : World) (v1 : Value) (p0 : Tr36) (r : List UInt8) (H : FX n p0 = some r) (h_v1 : Sl w0 (NX []) BF v1 p0.un.2.2.2) (hG : Gk [] w0), Calls Tryz.prog 72 #[.agg #[.int .i64 p0.un.1, .int .i64 p0.un.2.1, .int .i64 p0.un.2.2.1, v1]] w0 fun e w' => e = .returned (.string (bs r)) ∧ Below w0.heap.size w0 w' := by
  intro n
  induction n with
  | zero => intro Y w0 v1 p0 r H; exact nomatch H
  | succ n ih => intro Y w0 v1 p0 r H h_v1 hG; exact QR (FX n) ih Y w0 v1 p0 r H h_v1 hG
theorem OE (Y : Nat → Prop) (w0 : World) (v1 : Value) (p0 : Tr36) (r : List UInt8) (H : Mo p0 = some r) (h_v1 : Sl w0 (NX []) BF v1 p0.un.2.2.2) (hG : Gk [] w0) :
    Calls Tryz.prog 72 #[.agg #[.int .i64 p0.un.1, .int .i64 p0.un.2.1, .int .i64 p0.un.2.2.1, v1]] w0 fun e w' => e = .returned (.string (bs r)) ∧ Below w0.heap.size w0 w' := by
  obtain ⟨n, H⟩ := Dd H
  exact Ru n Y w0 v1 p0 r H h_v1 hG
def Fq (p0 : Tr36) : Option (List UInt8) := (if p0.un.1 = 1 then some ([105, 100] : List UInt8) else (if p0.un.1 = 2 then some ([100, 114, 111, 112] : List UInt8) else (Mo p0).bind fun x1 => (Ig ([119, 104, 101, 110, 32] : List UInt8) x1).bind fun x2 => some x2))
theorem MC (Y : Nat → Prop) (w0 : World) (v1 : Value) (p0 : Tr36) (r : List UInt8) (H : Fq p0 = some r) (h_v1 : Sl w0 (NX []) BF v1 p0.un.2.2.2) (hG : Gk [] w0) :
    Calls Tryz.prog 67 #[.agg #[.int .i64 p0.un.1, .int .i64 p0.un.2.1, .int .i64 p0.un.2.2.1, v1]] w0 fun e w' => e = .returned (.string (bs r)) ∧ Below w0.heap.size w0 w' := by
 refine enter Tryz.func67 Aa Tryz.ntmps67 Aa fun a F => ?_
 have W := Stw.start Y w0
 obtain ⟨v2, h1, h_v1⟩ := h_v1.ex BV
 unfold Fq at H
 refine Ah (Ab ?_)
 refine CS (cs := [.int .i64 p0.un.1, .int .i64 p0.un.2.1, .int .i64 p0.un.2.2.1, v1]) F W Aa Aa Aa fun b1 a w F W => ?_
 refine ls F W Aa (Ae (v := Value.string (bs ([] : List UInt8))) F Aa).q fun a w F W => ?_
 refine Ad (Ac (Ah (Ah (Ab ?_))))
 refine ls F W Aa (Ai Dt Aa Aa Aa T3 F Aa 0 Aa).q fun a w F W => ?_
 refine ls F W Aa (Ao (v := Value.int .i64 p0.un.1) 0 F Aa Aa T3 Aa).q fun a w F W => ?_
 refine Ad (Ac (Az (Ah (Ab ?_))))
 refine ls F W Aa (A7 F Aa Aa).q fun a w F W => ?_
 refine ls F W Aa (Ae F Aa).q fun a w F W => ?_
 refine Ad (Ac ?_)
 refine Aw F Aa (fun hb => ?_) fun hb => ?_
 ·
  have H := AV (Bg hb) H
  rw [hb] at F
  refine Ah (Ab ?_)
  refine ls F W Aa (Ae (v := Value.string (bs ([105, 100] : List UInt8))) F Aa).q fun a w F W => ?_
  refine Ad (Ac (Av (AQ (AN ?_))))
  have H := AP H
  subst H
  refine AJ (.inl Aa) F W Aa (AB F Aa) ?_
  exact ⟨rfl, W.done⟩
 have H := AR (Bf hb) H
 rw [hb] at F
 refine Ah (Ab ?_)
 refine ls F W Aa (A7 F Aa Aa).q fun a w F W => ?_
 refine ls F W Aa (Ae F Aa).q fun a w F W => ?_
 refine Ad (Ac ?_)
 refine Aw F Aa (fun hb => ?_) fun hb => ?_
 ·
  have H := AV (Bg hb) H
  rw [hb] at F
  refine Ah (Ab ?_)
  refine ls F W Aa (Ae (v := Value.string (bs ([100, 114, 111, 112] : List UInt8))) F Aa).q fun a w F W => ?_
  refine Ad (Ac (Av (AQ (AN ?_))))
  have H := AP H
  subst H
  refine AJ (.inl Aa) F W Aa (AB F Aa) ?_
  exact ⟨rfl, W.done⟩
 have H := AR (Bf hb) H
 rw [hb] at F
 refine Ay (AU (Ac (Ah (Ab ?_))))
 refine ls F W Aa (Ao (v := Value.agg #[.int .i64 p0.un.1, .int .i64 p0.un.2.1, .int .i64 p0.un.2.2.1, v1]) 0 F Aa Aa ER Aa).q fun a w F W => ?_
 obtain ⟨x1, h2, H⟩ := Am H
 refine ls F W Aa (A3 (v := Value.string (bs x1)) F Xz Aa (fun w W => OE any w (v1) p0 _ h2 (((AH BV h1 (Aq h_v1)) : D1 _ _ _ _ _ _) w W).nx (hG.go0 W))) fun a w F W => ?_
 obtain ⟨x2, h3, H⟩ := Am H
 refine ls F W Aa (IK (l := ([119, 104, 101, 110, 32] : List UInt8)) (m := x1) F Aa Aa h3).q fun a w F W => ?_
 refine ls F W Aa (Ae F Aa).q fun a w F W => ?_
 refine Ad (Ac (Av ?_))
 have H := AP H
 subst H
 refine AJ (.inl Aa) F W Aa (AB F Aa) ?_
 exact ⟨rfl, W.done⟩
theorem Yu : Has Tryz.prog 67 := ⟨fun args w => Aj Tryz.func67 rfl (by decide) args w⟩
def EX (p0 : Int) : List UInt8 := (if p0 = 0 then ([115, 114, 99] : List UInt8) else (if p0 = 1 then ([100, 115, 116] : List UInt8) else (if p0 = 2 then ([107, 105, 110, 100] : List UInt8) else (if p0 = 3 then ([116, 97, 103] : List UInt8) else (if p0 = 4 then ([112, 111, 114, 116] : List UInt8) else ([63] : List UInt8))))))
theorem Na (Y : Nat → Prop) (w0 : World)  (p0 : Int) (r : List UInt8) (H : EX p0 = r)  :
    Calls Tryz.prog 68 #[.int .i64 p0] w0 fun e w' => e = .returned (.string (bs r)) ∧ Below w0.heap.size w0 w' := by
 refine enter Tryz.func68 Aa Tryz.ntmps68 Aa fun a F => ?_
 have W := Stw.start Y w0
 unfold EX at H
 refine Ah (Ab ?_)
 refine ls F W Aa (Ae (v := Value.string (bs ([] : List UInt8))) F Aa).q fun a w F W => ?_
 refine Ad (Ac (Ah (Ah (Ab ?_))))
 refine ls F W Aa (Ag F Aa).q fun a w F W => ?_
 refine Ad (Ac (Az (Ah (Ab ?_))))
 refine ls F W Aa (A7 F Aa Aa).q fun a w F W => ?_
 refine ls F W Aa (Ae F Aa).q fun a w F W => ?_
 refine Ad (Ac ?_)
 refine Aw F Aa (fun hb => ?_) fun hb => ?_
 ·
  have H := AV (Bg hb) H
  rw [hb] at F
  refine Ah (Ab ?_)
  refine ls F W Aa (Ae (v := Value.string (bs ([115, 114, 99] : List UInt8))) F Aa).q fun a w F W => ?_
  refine Ad (Ac (Av (AQ (AN ?_))))
  subst H
  refine AJ (.inl Aa) F W Aa (AB F Aa) ?_
  exact ⟨rfl, W.done⟩
 have H := AR (Bf hb) H
 rw [hb] at F
 refine Ah (Ab ?_)
 refine ls F W Aa (A7 F Aa Aa).q fun a w F W => ?_
 refine ls F W Aa (Ae F Aa).q fun a w F W => ?_
 refine Ad (Ac ?_)
 refine Aw F Aa (fun hb => ?_) fun hb => ?_
 ·
  have H := AV (Bg hb) H
  rw [hb] at F
  refine Ah (Ab ?_)
  refine ls F W Aa (Ae (v := Value.string (bs ([100, 115, 116] : List UInt8))) F Aa).q fun a w F W => ?_
  refine Ad (Ac (Av (AQ (AN ?_))))
  subst H
  refine AJ (.inl Aa) F W Aa (AB F Aa) ?_
  exact ⟨rfl, W.done⟩
 have H := AR (Bf hb) H
 rw [hb] at F
 refine Ah (Ab ?_)
 refine ls F W Aa (A7 F Aa Aa).q fun a w F W => ?_
 refine ls F W Aa (Ae F Aa).q fun a w F W => ?_
 refine Ad (Ac ?_)
 refine Aw F Aa (fun hb => ?_) fun hb => ?_
 ·
  have H := AV (Bg hb) H
  rw [hb] at F
  refine Ah (Ab ?_)
  refine ls F W Aa (Ae (v := Value.string (bs ([107, 105, 110, 100] : List UInt8))) F Aa).q fun a w F W => ?_
  refine Ad (Ac (Av (AQ (AN ?_))))
  subst H
  refine AJ (.inl Aa) F W Aa (AB F Aa) ?_
  exact ⟨rfl, W.done⟩
 have H := AR (Bf hb) H
 rw [hb] at F
 refine Ah (Ab ?_)
 refine ls F W Aa (A7 F Aa Aa).q fun a w F W => ?_
 refine ls F W Aa (Ae F Aa).q fun a w F W => ?_
 refine Ad (Ac ?_)
 refine Aw F Aa (fun hb => ?_) fun hb => ?_
 ·
  have H := AV (Bg hb) H
  rw [hb] at F
  refine Ah (Ab ?_)
  refine ls F W Aa (Ae (v := Value.string (bs ([116, 97, 103] : List UInt8))) F Aa).q fun a w F W => ?_
  refine Ad (Ac (Av (AQ (AN ?_))))
  subst H
  refine AJ (.inl Aa) F W Aa (AB F Aa) ?_
  exact ⟨rfl, W.done⟩
 have H := AR (Bf hb) H
 rw [hb] at F
 refine Ah (Ab ?_)
 refine ls F W Aa (A7 F Aa Aa).q fun a w F W => ?_
 refine ls F W Aa (Ae F Aa).q fun a w F W => ?_
 refine Ad (Ac ?_)
 refine Aw F Aa (fun hb => ?_) fun hb => ?_
 ·
  have H := AV (Bg hb) H
  rw [hb] at F
  refine Ah (Ab ?_)
  refine ls F W Aa (Ae (v := Value.string (bs ([112, 111, 114, 116] : List UInt8))) F Aa).q fun a w F W => ?_
  refine Ad (Ac (Av (AQ (AN ?_))))
  subst H
  refine AJ (.inl Aa) F W Aa (AB F Aa) ?_
  exact ⟨rfl, W.done⟩
 have H := AR (Bf hb) H
 rw [hb] at F
 refine Ay (AU (Ac (Ah (Ab ?_))))
 refine ls F W Aa (Ae (v := Value.string (bs ([63] : List UInt8))) F Aa).q fun a w F W => ?_
 refine Ad (Ac (Av ?_))
 subst H
 refine AJ (.inl Aa) F W Aa (AB F Aa) ?_
 exact ⟨rfl, W.done⟩
theorem Yr : Has Tryz.prog 68 := ⟨fun args w => Aj Tryz.func68 rfl (by decide) args w⟩
theorem W7 : Has Tryz.prog 34 := ⟨fun args w => Aj Tryz.func34 rfl (by decide) args w⟩
def CD (fRec_policy_Text : Tr39 → Option (List UInt8)) (p0 : List Tr39) : (List (List UInt8) × Int) → Option ((List (List UInt8) × Int) ⊕ (List (List UInt8)))
  | (x2, x3) => (if x3 < (p0.length : Int) then (ix p0 x3).bind fun x4 => (fRec_policy_Text (Tr39.of (x4.un.1, Tr36.of (x4.un.2.1.un.1, x4.un.2.1.un.2.1, x4.un.2.1.un.2.2.1, x4.un.2.1.un.2.2.2), x4.un.2.2.1, x4.un.2.2.2.1, x4.un.2.2.2.2))).bind fun x5 => (if (decide (x4.un.1 = 3) || (decide (x4.un.1 = 4) || decide (x4.un.1 = 5))) = true then (Ig ([40] : List UInt8) x5).bind fun x7 => (Ig x7 ([41] : List UInt8)).bind fun x8 => some x8 else some x5).bind fun x6 => (Ig x2 ([x6] : List (List UInt8))).bind fun x9 => some (.inl (x9, AG (x3 + 1))) else some (.inr x2))
def CU (fRec_policy_Text : Tr39 → Option (List UInt8)) (p0 : List Tr39) : Option (List (List UInt8)) := (A6 (CD fRec_policy_Text p0) ([], 0)).bind fun x1 => some x1
theorem Hr (fRec_policy_Text : Tr39 → Option (List UInt8)) (ih_policy_Text : ∀ (Y : Nat → Prop) (w0 : World) (v1 : Value) (v2 : Value) (p0 : Tr39) (r : List UInt8) (H : fRec_policy_Text p0 = some r) (h_v1 : Sl w0 (NX []) BF v1 p0.un.2.1.un.2.2.2) (h_v2 : Sl w0 (NX []) Gy v2 p0.un.2.2.2.2) (hG : Gk [] w0), Calls Tryz.prog 34 #[.agg #[.int .i64 p0.un.1, .int .i64 p0.un.2.1.un.1, .int .i64 p0.un.2.1.un.2.1, .int .i64 p0.un.2.1.un.2.2.1, v1, .int .i64 p0.un.2.2.1, .int .i64 p0.un.2.2.2.1, v2]] w0 fun e w' => e = .returned (.string (bs r)) ∧ Below w0.heap.size w0 w') (Y : Nat → Prop) (w0 : World) (v1 : Value) (p0 : List Tr39) (r : List (List UInt8)) (H : CU fRec_policy_Text p0 = some r) (h_v1 : Sl w0 (NX []) Gy v1 p0) (hG : Gk [] w0) :
    Calls Tryz.prog 71 #[v1] w0 fun e w' => ∃ x : Value, e = .returned (x) ∧ Stw ⟨Y, [], w0⟩ [] [row (x) 9 Rp.str r] w' := by
 refine enter Tryz.func71 Aa Tryz.ntmps71 Aa fun a F => ?_
 have W := Stw.start Y w0
 obtain ⟨v2, h1, h_v1⟩ := h_v1.ex FD
 unfold CU at H
 refine Ah (Ab ?_)
 refine ls F W Aa (Ae F Aa).q fun a w F W => ?_
 refine Ad (Ac (Ah (Ab ?_)))
 refine ls F W Aa (Ae F Aa).q fun a w F W => ?_
 refine Ad (Ac ?_)
 obtain ⟨o1, G1, K1⟩ := Am H
 refine AO (fun a w => ∃ x1 : List (List UInt8), ∃ v3 : Value, some (x1) = some o1 ∧ Fr 37 [] [(2, .slice none 0 0), (3, v3)] a ∧ Stw ⟨Y, [], w0⟩ [] [row v3 9 Rp.str x1] w) ?_ ?_
 ·
  have H := G1
  refine Ah (Ab ?_)
  refine ls F W Aa (Ag F Aa).q fun a w F W => ?_
  refine ls F W Aa (CA (r := Gy) (l := p0) Ng Aa F Aa (AH FD h1 (Aq h_v1))).q fun a w F W => ?_
  refine ls F W Aa (Ag F Aa).q fun a w F W => ?_
  refine Ad (Ac (Az ?_))
  have W := W.nilRow 9 Rp.str
  refine BG H (fun s a w => ∃ v4 : Value, Fr 37 [] [(2, .slice none 0 0), (3, v4), (7, v1), (8, .int .i64 (p0.length : Int)), (9, .int .i64 s.2)] a ∧ Stw ⟨Y, [], w0⟩ [] [row v4 9 Rp.str s.1] w) ⟨(Value.slice none 0 0), F.re ⟨rfl, Aa, Aa, Aa, Aa, trivial⟩, W⟩ fun s o a w H L2 hR => ?_
  obtain ⟨x2, x3⟩ := s
  obtain ⟨v4, F, W⟩ := hR
  have F : Fr 37 [] [(2, .slice none 0 0), (3, v4), (7, v1), (8, .int .i64 (p0.length : Int)), (9, .int .i64 x3)] a := F
  have W : Stw ⟨Y, [], w0⟩ [] [row v4 9 Rp.str x2] w := W
  rw [CD] at H
  refine Ah (Ab ?_)
  refine ls F W Aa (Cu F Aa Aa).q fun a w F W => ?_
  refine Ad (Ac (Ah ?_))
  refine Aw F Aa (fun hb => ?_) fun hb => ?_
  ·
   have H := AV (Bg hb) H
   rw [hb] at F
   refine Ay (Ac (Ah (Az (Ah (Ab ?_)))))
   obtain ⟨x4, h2, H⟩ := Am H
   obtain ⟨v5, h3, h4⟩ := Ez h1 h2
   have h5 : Ls v5 = [.int .i64 x4.un.1, .int .i64 x4.un.2.1.un.1, .int .i64 x4.un.2.1.un.2.1, .int .i64 x4.un.2.1.un.2.2.1, (v5.2.1.2.2.2.1), .int .i64 x4.un.2.2.1, .int .i64 x4.un.2.2.2.1, (v5.2.2.2.2.1)] := congrArg (fun q : Tr39 => ([.int .i64 q.un.1, .int .i64 q.un.2.1.un.1, .int .i64 q.un.2.1.un.2.1, .int .i64 q.un.2.1.un.2.2.1, (v5.2.1.2.2.2.1), .int .i64 q.un.2.2.1, .int .i64 q.un.2.2.2.1, (v5.2.2.2.2.1)] : List Value)) h4
   refine ls F W Aa (AM (r := Of) Uj F Aa Aa (Aq h_v1) h3).q fun a w F W => ?_
   refine ls F W Aa (AA (y := Value.agg #[.int .i64 x4.un.1, .int .i64 x4.un.2.1.un.1, .int .i64 x4.un.2.1.un.2.1, .int .i64 x4.un.2.1.un.2.2.1, (v5.2.1.2.2.2.1), .int .i64 x4.un.2.2.1, .int .i64 x4.un.2.2.2.1, (v5.2.2.2.2.1)]) (j := 0) (i := x3) (enc := Ls) F Aa Aa (Aq h_v1) h3 Rb Ka (by rw [h5]; rfl)).q fun a w F W => ?_
   refine Co (cs := [.int .i64 0, .int .i64 0, .int .i64 0, .int .i64 0, .slice none 0 0, .int .i64 0, .int .i64 0, .slice none 0 0]) F W Aa UK Aa fun b1 a w F W => ?_
   refine Be (vs := [.int .i64 x4.un.1, .int .i64 x4.un.2.1.un.1, .int .i64 x4.un.2.1.un.2.1, .int .i64 x4.un.2.1.un.2.2.1, (v5.2.1.2.2.2.1), .int .i64 x4.un.2.2.1, .int .i64 x4.un.2.2.2.1, (v5.2.2.2.2.1)]) (M' := [(b1, [.int .i64 x4.un.1, .int .i64 x4.un.2.1.un.1, .int .i64 x4.un.2.1.un.2.1, .int .i64 x4.un.2.1.un.2.2.1, (v5.2.1.2.2.2.1), .int .i64 x4.un.2.2.1, .int .i64 x4.un.2.2.2.1, (v5.2.2.2.2.1)])]) 0 F W Aa Aa Aa Ka Aa Aa Aa (An Aa (An Aa (An Aa (An Aa (An ((Cn (Aq h_v1) h3 (AC.snd (AC.fst (AC.snd (AC.snd (AC.snd AC.here))))) (congrArg (fun q : Tr39 => q.un.2.1.un.2.2.2) h4)) _ W).one (An Aa (An Aa (An ((Cn (Aq h_v1) h3 (AC.snd (AC.snd (AC.snd (AC.snd AC.here)))) (congrArg (fun q : Tr39 => q.un.2.2.2.2) h4)) _ W).one Cq)))))))) Aa fun w W => ?_
   refine Ad (Ac (Ah (Ab ?_)))
   refine ls F W Aa (Ao (v := Value.agg #[.int .i64 x4.un.1, .int .i64 x4.un.2.1.un.1, .int .i64 x4.un.2.1.un.2.1, .int .i64 x4.un.2.1.un.2.2.1, (v5.2.1.2.2.2.1), .int .i64 x4.un.2.2.1, .int .i64 x4.un.2.2.2.1, (v5.2.2.2.2.1)]) 0 F Aa Aa Ka Aa).q fun a w F W => ?_
   obtain ⟨x5, h6, H⟩ := Am H
   refine ls F W Aa (A3 (v := Value.string (bs x5)) F W7 Aa (fun w W => ih_policy_Text any w ((v5.2.1.2.2.2.1)) ((v5.2.2.2.2.1)) (Tr39.of (x4.un.1, Tr36.of (x4.un.2.1.un.1, x4.un.2.1.un.2.1, x4.un.2.1.un.2.2.1, x4.un.2.1.un.2.2.2), x4.un.2.2.1, x4.un.2.2.2.1, x4.un.2.2.2.2)) _ h6 (((Cn (Aq h_v1) h3 (AC.snd (AC.fst (AC.snd (AC.snd (AC.snd AC.here))))) (congrArg (fun q : Tr39 => q.un.2.1.un.2.2.2) h4)) : D1 _ _ _ _ _ _) w W).nx (((Cn (Aq h_v1) h3 (AC.snd (AC.snd (AC.snd (AC.snd AC.here)))) (congrArg (fun q : Tr39 => q.un.2.2.2.2) h4)) : D1 _ _ _ _ _ _) w W).nx (hG.go0 W))) fun a w F W => ?_
   refine ls F W Aa (Ae F Aa).q fun a w F W => ?_
   refine Ad (Ac ?_)
   obtain ⟨o3, G3, K3⟩ := Am H
   refine AO (fun a w => ∃ x6 : List UInt8, some (x6) = some o3 ∧ Fr 37 [] [(2, .slice none 0 0), (3, v4), (6, .string (bs x6)), (7, v1), (8, .int .i64 (p0.length : Int)), (9, .int .i64 x3)] a ∧ Stw ⟨Y, [], w0⟩ [(b1, [.int .i64 x4.un.1, .int .i64 x4.un.2.1.un.1, .int .i64 x4.un.2.1.un.2.1, .int .i64 x4.un.2.1.un.2.2.1, (v5.2.1.2.2.2.1), .int .i64 x4.un.2.2.1, .int .i64 x4.un.2.2.2.1, (v5.2.2.2.2.1)])] [row v4 9 Rp.str x2] w) ?_ ?_
   ·
    have H := G3
    refine AO (fun a w => Fr 37 [] [(2, .slice none 0 0), (3, v4), (6, .string (bs x5)), (7, v1), (8, .int .i64 (p0.length : Int)), (9, .int .i64 x3), (27, .bool (decide (x4.un.1 = 3) || (decide (x4.un.1 = 4) || decide (x4.un.1 = 5))))] a ∧ Stw ⟨Y, [], w0⟩ [(b1, [.int .i64 x4.un.1, .int .i64 x4.un.2.1.un.1, .int .i64 x4.un.2.1.un.2.1, .int .i64 x4.un.2.1.un.2.2.1, (v5.2.1.2.2.2.1), .int .i64 x4.un.2.2.1, .int .i64 x4.un.2.2.2.1, (v5.2.2.2.2.1)])] [row v4 9 Rp.str x2] w) ?_ ?_
    ·
     refine Ab ?_
     refine ls F W Aa (Ai Ed Aa Aa Aa T3 F Aa 0 Aa).q fun a w F W => ?_
     refine ls F W Aa (Ao (v := Value.int .i64 x4.un.1) 0 F Aa Aa T3 Aa).q fun a w F W => ?_
     refine ls F W Aa (A7 F Aa Aa).q fun a w F W => ?_
     refine ls F W Aa (Ag F Aa).q fun a w F W => ?_
     rcases bxq (decide (x4.un.1 = 3)) with hb0 | hb0
     ·
      rw [hb0] at F
      iterate 3 refine Dz F Aa Aa Aa Aa Aa Aa Aa fun a F => ?_
      refine ls F W Aa (Ax F Aa Aa Aa).q fun a w F W => ?_
      refine ls F W Aa (Ag F Aa).q fun a w F W => ?_
      iterate 3 refine Dz F Aa Aa Aa Aa Aa Aa Aa fun a F => ?_
      refine ls F W Aa (Ax F Aa Aa Aa).q fun a w F W => ?_
      refine Ad (Ac ?_)
      exact ⟨F.re ⟨rfl, Aa, Aa, Aa, Aa, Aa, (by show some (Value.bool true) = some (Value.bool (decide (x4.un.1 = 3) || (decide (x4.un.1 = 4) || decide (x4.un.1 = 5)))); try rw [hb0]; all_goals simp only [Bool.not_true, Bool.not_false, Bool.true_and, Bool.false_and, Bool.true_or, Bool.false_or, Bool.and_true, Bool.or_false, cond_true, cond_false]), trivial⟩, W⟩
     rw [hb0] at F
     refine AK F W (Af F Aa Aa Aa Aa) Aa (Ak Aa) (Ai Ed Aa Aa Aa T3 F Aa 0 Aa).q fun a w F W => ?_
     refine AK F W (Af F Aa Aa Aa Aa) Aa (Ak Aa) (Ao (v := Value.int .i64 x4.un.1) 0 F Aa Aa T3 Aa).q fun a w F W => ?_
     refine AK F W (Af F Aa Aa Aa Aa) Aa (Ak Aa) (A7 F Aa Aa).q fun a w F W => ?_
     refine ls F W Aa (As F Aa Aa Aa).q fun a w F W => ?_
     refine ls F W Aa (Ag F Aa).q fun a w F W => ?_
     rcases bxq (decide (x4.un.1 = 4)) with hb1 | hb1
     ·
      rw [hb1] at F
      iterate 3 refine Dz F Aa Aa Aa Aa Aa Aa Aa fun a F => ?_
      refine ls F W Aa (Ax F Aa Aa Aa).q fun a w F W => ?_
      refine Ad (Ac ?_)
      exact ⟨F.re ⟨rfl, Aa, Aa, Aa, Aa, Aa, (by show some (Value.bool true) = some (Value.bool (decide (x4.un.1 = 3) || (decide (x4.un.1 = 4) || decide (x4.un.1 = 5)))); try rw [hb0]; try rw [hb1]; all_goals simp only [Bool.not_true, Bool.not_false, Bool.true_and, Bool.false_and, Bool.true_or, Bool.false_or, Bool.and_true, Bool.or_false, cond_true, cond_false]), trivial⟩, W⟩
     rw [hb1] at F
     refine AK F W (Af F Aa Aa Aa Aa) Aa (Ak Aa) (Ai Ed Aa Aa Aa T3 F Aa 0 Aa).q fun a w F W => ?_
     refine AK F W (Af F Aa Aa Aa Aa) Aa (Ak Aa) (Ao (v := Value.int .i64 x4.un.1) 0 F Aa Aa T3 Aa).q fun a w F W => ?_
     refine AK F W (Af F Aa Aa Aa Aa) Aa (Ak Aa) (A7 F Aa Aa).q fun a w F W => ?_
     refine ls F W Aa (As F Aa Aa Aa).q fun a w F W => ?_
     refine Ad (Ac ?_)
     exact ⟨F.re ⟨rfl, Aa, Aa, Aa, Aa, Aa, (by show some (Value.bool (decide (x4.un.1 = 5))) = some (Value.bool (decide (x4.un.1 = 3) || (decide (x4.un.1 = 4) || decide (x4.un.1 = 5)))); try rw [hb0]; try rw [hb1]; all_goals simp only [Bool.not_true, Bool.not_false, Bool.true_and, Bool.false_and, Bool.true_or, Bool.false_or, Bool.and_true, Bool.or_false, cond_true, cond_false]), trivial⟩, W⟩
    rintro a w ⟨F, W⟩
    refine Aw F Aa (fun hb => ?_) fun hb => ?_
    ·
     have H := AV hb H
     rw [hb] at F
     refine Ab ?_
     refine ls F W Aa (Ag F Aa).q fun a w F W => ?_
     obtain ⟨x7, h7, H⟩ := Am H
     refine ls F W Aa (IK (l := ([40] : List UInt8)) (m := x5) F Aa Aa h7).q fun a w F W => ?_
     obtain ⟨x8, h8, H⟩ := Am H
     refine ls F W Aa (IK (l := x7) (m := ([41] : List UInt8)) F Aa Aa h8).q fun a w F W => ?_
     refine ls F W Aa (Ae F Aa).q fun a w F W => ?_
     refine Ad (Ac ?_)
     exact ⟨_, H, F.re ⟨rfl, Aa, Aa, Aa, Aa, Aa, trivial⟩, W⟩
    have H := AR (by rw [hb]; decide) H
    rw [hb] at F
    refine Ay (Ac ?_)
    exact ⟨_, H, F.re ⟨rfl, Aa, Aa, Aa, Aa, Aa, trivial⟩, W⟩
   rintro a w ⟨x6, hj, F, W⟩
   have hj := AP hj
   subst hj
   have H := K3
   refine Ab ?_
   iterate 2 refine ls F W Aa (Ag F Aa).q fun a w F W => ?_
   refine Ke (z := Value.string (bs ([] : List UInt8))) (cs := [.string (bs x6)]) Rp.str ([x6] : List (List UInt8)) F W Aa UM Z9 Aa Aa Aa Aa Aa Aa (Fl.str.repL _ _ ([x6] : List (List UInt8))) fun v6 a w F W => ?_
   obtain ⟨x9, h9, H⟩ := Am H
   refine Fm (r := Rp.str) (i := 1) F W Aa UM Aa Aa Aa Aa (GC W 0 Aa) h9 Aa fun v7 a w F W => ?_
   have W : Stw ⟨Y, [], w0⟩ [(b1, [.int .i64 x4.un.1, .int .i64 x4.un.2.1.un.1, .int .i64 x4.un.2.1.un.2.1, .int .i64 x4.un.2.1.un.2.2.1, (v5.2.1.2.2.2.1), .int .i64 x4.un.2.2.1, .int .i64 x4.un.2.2.2.1, (v5.2.2.2.2.1)])] [row v7 9 Rp.str x9, row v6 9 Rp.str ([x6] : List (List UInt8))] w := W
   refine ls F W Aa (Ae F Aa).q fun a w F W => ?_
   refine Ad (AU (Ac (Ab ?_)))
   refine ls F W Aa (BL F Aa Aa Aa).q fun a w F W => ?_
   refine ls F W Aa (Ag F Aa).q fun a w F W => ?_
   refine Ad (Ac ?_)
   have W := W.sub (M' := []) (Z' := [row v7 9 Rp.str x9]) (List.nil_sublist _) (List.Sublist.cons_cons _ (List.nil_sublist _))
   exact ⟨_, H, (v7), F.re ⟨rfl, Aa, Aa, Aa, Aa, trivial⟩, W⟩
  have H := AR (Bf hb) H
  rw [hb] at F
  refine Bz ?_
  iterate 2 refine BS ?_
  refine Bx (Ac ?_)
  have H := L2 _ H
  exact ⟨_, (v4), H, F.re ⟨rfl, Aa, trivial⟩, W⟩
 rintro a w ⟨x1, v3, hj, F, W⟩
 have hj := AP hj
 subst hj
 have H := K1
 refine Ah (Ab ?_)
 refine ls F W Aa (Ag F Aa).q fun a w F W => ?_
 refine ls F W Aa (Ae F Aa).q fun a w F W => ?_
 refine Ad (Ac (Av ?_))
 have H := AP H
 subst H
 refine AJ (.inl Aa) F W Aa (AB F Aa) ?_
 exact ⟨(v3), Aa, W⟩
theorem Xy : Has Tryz.prog 71 := ⟨fun args w => Aj Tryz.func71 rfl (by decide) args w⟩
def Ev (fRec : Tr39 → Option (List UInt8)) (p0 : Tr39) : Option (List UInt8) := (if p0.un.1 = 1 then (Fq (Tr36.of (p0.un.2.1.un.1, p0.un.2.1.un.2.1, p0.un.2.1.un.2.2.1, p0.un.2.1.un.2.2.2))).bind fun x1 => some x1 else (if p0.un.1 = 2 then (Ig (EX p0.un.2.2.1) ([32, 58, 61, 32] : List UInt8)).bind fun x2 => (Q6 p0.un.2.2.2.1).bind fun x3 => (Ig x2 x3).bind fun x4 => some x4 else (if p0.un.1 = 3 then ((CU fRec) p0.un.2.2.2.2).bind fun x5 => (MP x5 ([59, 32] : List UInt8)).bind fun x6 => some x6 else (if p0.un.1 = 4 then ((CU fRec) p0.un.2.2.2.2).bind fun x7 => (MP x7 ([32, 124, 32] : List UInt8)).bind fun x8 => some x8 else (if p0.un.1 = 5 then (Mo (Tr36.of (p0.un.2.1.un.1, p0.un.2.1.un.2.1, p0.un.2.1.un.2.2.1, p0.un.2.1.un.2.2.2))).bind fun x9 => (Ig ([105, 102, 32] : List UInt8) x9).bind fun x10 => (Ig x10 ([32, 116, 104, 101, 110, 32] : List UInt8)).bind fun x11 => ((CU fRec) p0.un.2.2.2.2).bind fun x12 => (MP x12 ([32, 101, 108, 115, 101, 32] : List UInt8)).bind fun x13 => (Ig x11 x13).bind fun x14 => some x14 else some ([63] : List UInt8))))))
def EW : Nat → Tr39 → Option (List UInt8)
  | 0 => fun _ => none
  | n + 1 => Ev (EW n)
def Ki (p0 : Tr39) : Option (List UInt8) := Jl fun n => EW n p0
theorem O3 (fRec : Tr39 → Option (List UInt8)) (ih : ∀ (Y : Nat → Prop) (w0 : World) (v1 : Value) (v2 : Value) (p0 : Tr39) (r : List UInt8) (H : fRec p0 = some r) (h_v1 : Sl w0 (NX []) BF v1 p0.un.2.1.un.2.2.2) (h_v2 : Sl w0 (NX []) Gy v2 p0.un.2.2.2.2) (hG : Gk [] w0), Calls Tryz.prog 34 #[.agg #[.int .i64 p0.un.1, .int .i64 p0.un.2.1.un.1, .int .i64 p0.un.2.1.un.2.1, .int .i64 p0.un.2.1.un.2.2.1, v1, .int .i64 p0.un.2.2.1, .int .i64 p0.un.2.2.2.1, v2]] w0 fun e w' => e = .returned (.string (bs r)) ∧ Below w0.heap.size w0 w') (Y : Nat → Prop) (w0 : World) (v1 : Value) (v2 : Value) (p0 : Tr39) (r : List UInt8) (H : Ev fRec p0 = some r) (h_v1 : Sl w0 (NX []) BF v1 p0.un.2.1.un.2.2.2) (h_v2 : Sl w0 (NX []) Gy v2 p0.un.2.2.2.2) (hG : Gk [] w0) :
    Calls Tryz.prog 34 #[.agg #[.int .i64 p0.un.1, .int .i64 p0.un.2.1.un.1, .int .i64 p0.un.2.1.un.2.1, .int .i64 p0.un.2.1.un.2.2.1, v1, .int .i64 p0.un.2.2.1, .int .i64 p0.un.2.2.2.1, v2]] w0 fun e w' => e = .returned (.string (bs r)) ∧ Below w0.heap.size w0 w' := by
 refine enter Tryz.func34 Aa Tryz.ntmps34 Aa fun a F => ?_
 have W := Stw.start Y w0
 obtain ⟨v3, h1, h_v1⟩ := h_v1.ex BV
 obtain ⟨v4, h2, h_v2⟩ := h_v2.ex FD
 unfold Ev at H
 refine Ah (Ab ?_)
 refine CS (cs := [.int .i64 p0.un.1, .int .i64 p0.un.2.1.un.1, .int .i64 p0.un.2.1.un.2.1, .int .i64 p0.un.2.1.un.2.2.1, v1, .int .i64 p0.un.2.2.1, .int .i64 p0.un.2.2.2.1, v2]) F W Aa Aa Aa fun b1 a w F W => ?_
 refine ls F W Aa (Ae (v := Value.string (bs ([] : List UInt8))) F Aa).q fun a w F W => ?_
 refine Ad (Ac (Ah (Ah (Ab ?_))))
 refine ls F W Aa (Ai Ed Aa Aa Aa T3 F Aa 0 Aa).q fun a w F W => ?_
 refine ls F W Aa (Ao (v := Value.int .i64 p0.un.1) 0 F Aa Aa T3 Aa).q fun a w F W => ?_
 refine Ad (Ac (Az (Ah (Ab ?_))))
 refine ls F W Aa (A7 F Aa Aa).q fun a w F W => ?_
 refine ls F W Aa (Ae F Aa).q fun a w F W => ?_
 refine Ad (Ac ?_)
 refine Aw F Aa (fun hb => ?_) fun hb => ?_
 ·
  have H := AV (Bg hb) H
  rw [hb] at F
  refine Ah (Ab ?_)
  refine ls F W Aa (Ai Ed Aa Aa Aa ER F Aa 1 Aa).q fun a w F W => ?_
  refine ls F W Aa (Ao (v := Value.agg #[.int .i64 p0.un.2.1.un.1, .int .i64 p0.un.2.1.un.2.1, .int .i64 p0.un.2.1.un.2.2.1, v1]) 0 F Aa Aa ER Aa).q fun a w F W => ?_
  obtain ⟨x1, h3, H⟩ := Am H
  refine ls F W Aa (A3 (v := Value.string (bs x1)) F Yu Aa (fun w W => MC any w (v1) (Tr36.of (p0.un.2.1.un.1, p0.un.2.1.un.2.1, p0.un.2.1.un.2.2.1, p0.un.2.1.un.2.2.2)) _ h3 (((AH BV h1 (Aq h_v1)) : D1 _ _ _ _ _ _) w W).nx (hG.go0 W))) fun a w F W => ?_
  refine ls F W Aa (Ae F Aa).q fun a w F W => ?_
  refine Ad (Ac (Av (AQ (AN ?_))))
  have H := AP H
  subst H
  refine AJ (.inl Aa) F W Aa (AB F Aa) ?_
  exact ⟨rfl, W.done⟩
 have H := AR (Bf hb) H
 rw [hb] at F
 refine Ah (Ab ?_)
 refine ls F W Aa (A7 F Aa Aa).q fun a w F W => ?_
 refine ls F W Aa (Ae F Aa).q fun a w F W => ?_
 refine Ad (Ac ?_)
 refine Aw F Aa (fun hb => ?_) fun hb => ?_
 ·
  have H := AV (Bg hb) H
  rw [hb] at F
  refine Ah ?_
  refine CK W MO (by kernel_rfl) ?_
  refine qs F Aa (Ai Ed Aa Aa Aa T3 F Aa 5 Aa).q fun a F => ?_
  refine qs F Aa (Ao (v := Value.int .i64 p0.un.2.2.1) 0 F Aa Aa T3 Aa).q fun a F => ?_
  refine qs F Aa (A3 (v := Value.string (bs (EX p0.un.2.2.1))) F Yr Aa (fun w W => Na any w p0.un.2.2.1 _ Aa)) fun a F => ?_
  obtain ⟨x2, h4, H⟩ := Am H
  refine qs F Aa (IK (l := (EX p0.un.2.2.1)) (m := ([32, 58, 61, 32] : List UInt8)) F Aa Aa h4).q fun a F => ?_
  refine qs F Aa (Ai Ed Aa Aa Aa T3 F Aa 6 Aa).q fun a F => ?_
  refine qs F Aa (Ao (v := Value.int .i64 p0.un.2.2.2.1) 0 F Aa Aa T3 Aa).q fun a F => ?_
  obtain ⟨x3, h5, H⟩ := Am H
  refine qs F Aa (A3 (v := Value.string (bs x3)) F XP Aa (fun w W => T1 any w p0.un.2.2.2.1 _ h5 (hG.go0 W))) fun a F => ?_
  obtain ⟨x4, h6, H⟩ := Am H
  refine qs F Aa (IK (l := x2) (m := x3) F Aa Aa h6).q fun a F => ?_
  refine qs F Aa (Ae F Aa).q fun a F => ?_
  refine A9 fun w W => ?_
  refine Ac (Av (AQ (AN ?_)))
  have H := AP H
  subst H
  refine AJ (.inl Aa) F W Aa (AB F Aa) ?_
  exact ⟨rfl, W.done⟩
 have H := AR (Bf hb) H
 rw [hb] at F
 refine Ah (Ab ?_)
 refine ls F W Aa (A7 F Aa Aa).q fun a w F W => ?_
 refine ls F W Aa (Ae F Aa).q fun a w F W => ?_
 refine Ad (Ac ?_)
 refine Aw F Aa (fun hb => ?_) fun hb => ?_
 ·
  have H := AV (Bg hb) H
  rw [hb] at F
  refine Ah (Ab ?_)
  refine ls F W Aa (Ai Ed Aa Aa Aa Lx F Aa 7 Aa).q fun a w F W => ?_
  refine ls F W Aa (Ao (v := v2) 0 F Aa Aa Lx Aa).q fun a w F W => ?_
  obtain ⟨x5, h7, H⟩ := Am H
  refine Bj (Ml := []) (Zl := []) (M := [(b1, [.int .i64 p0.un.1, .int .i64 p0.un.2.1.un.1, .int .i64 p0.un.2.1.un.2.1, .int .i64 p0.un.2.1.un.2.2.1, v1, .int .i64 p0.un.2.2.1, .int .i64 p0.un.2.2.2.1, v2])]) (Z := []) (β := Value) (rv := fun x => x) (MM := fun x => []) (ZZ := fun x => [row x 9 Rp.str x5]) F W Xy Aa Aa (fun hL => (Hr fRec ih) _ w (v2) p0.un.2.2.2.2 _ h7 ((AH FD h2 (Aq h_v2)) w W).nx (hG.go0 W)) fun x a w F W => ?_
  obtain ⟨v5, rfl⟩ : ∃ y, y = x := ⟨x, rfl⟩
  have W : Stw ⟨Y, [], w0⟩ [(b1, [.int .i64 p0.un.1, .int .i64 p0.un.2.1.un.1, .int .i64 p0.un.2.1.un.2.1, .int .i64 p0.un.2.1.un.2.2.1, v1, .int .i64 p0.un.2.2.1, .int .i64 p0.un.2.2.2.1, v2])] [row v5 9 Rp.str x5] w := W
  obtain ⟨x6, h8, H⟩ := Am H
  refine ls F W Aa (A3 (v := Value.string (bs x6)) F WJ Aa (fun w W => Rn any w (v5) x5 ([59, 32] : List UInt8) _ h8 (((Au 0 Aa) : D1 _ _ _ _ _ _) w W).nx)) fun a w F W => ?_
  refine ls F W Aa (Ae F Aa).q fun a w F W => ?_
  refine Ad (Ac (Av (AQ (AN ?_))))
  have H := AP H
  subst H
  refine AJ (.inl Aa) F W Aa (AB F Aa) ?_
  exact ⟨rfl, W.done⟩
 have H := AR (Bf hb) H
 rw [hb] at F
 refine Ah (Ab ?_)
 refine ls F W Aa (A7 F Aa Aa).q fun a w F W => ?_
 refine ls F W Aa (Ae F Aa).q fun a w F W => ?_
 refine Ad (Ac ?_)
 refine Aw F Aa (fun hb => ?_) fun hb => ?_
 ·
  have H := AV (Bg hb) H
  rw [hb] at F
  refine Ah (Ab ?_)
  refine ls F W Aa (Ai Ed Aa Aa Aa Lx F Aa 7 Aa).q fun a w F W => ?_
  refine ls F W Aa (Ao (v := v2) 0 F Aa Aa Lx Aa).q fun a w F W => ?_
  obtain ⟨x7, h9, H⟩ := Am H
  refine Bj (Ml := []) (Zl := []) (M := [(b1, [.int .i64 p0.un.1, .int .i64 p0.un.2.1.un.1, .int .i64 p0.un.2.1.un.2.1, .int .i64 p0.un.2.1.un.2.2.1, v1, .int .i64 p0.un.2.2.1, .int .i64 p0.un.2.2.2.1, v2])]) (Z := []) (β := Value) (rv := fun x => x) (MM := fun x => []) (ZZ := fun x => [row x 9 Rp.str x7]) F W Xy Aa Aa (fun hL => (Hr fRec ih) _ w (v2) p0.un.2.2.2.2 _ h9 ((AH FD h2 (Aq h_v2)) w W).nx (hG.go0 W)) fun x a w F W => ?_
  obtain ⟨v6, rfl⟩ : ∃ y, y = x := ⟨x, rfl⟩
  have W : Stw ⟨Y, [], w0⟩ [(b1, [.int .i64 p0.un.1, .int .i64 p0.un.2.1.un.1, .int .i64 p0.un.2.1.un.2.1, .int .i64 p0.un.2.1.un.2.2.1, v1, .int .i64 p0.un.2.2.1, .int .i64 p0.un.2.2.2.1, v2])] [row v6 9 Rp.str x7] w := W
  obtain ⟨x8, h10, H⟩ := Am H
  refine ls F W Aa (A3 (v := Value.string (bs x8)) F WJ Aa (fun w W => Rn any w (v6) x7 ([32, 124, 32] : List UInt8) _ h10 (((Au 0 Aa) : D1 _ _ _ _ _ _) w W).nx)) fun a w F W => ?_
  refine ls F W Aa (Ae F Aa).q fun a w F W => ?_
  refine Ad (Ac (Av (AQ (AN ?_))))
  have H := AP H
  subst H
  refine AJ (.inl Aa) F W Aa (AB F Aa) ?_
  exact ⟨rfl, W.done⟩
 have H := AR (Bf hb) H
 rw [hb] at F
 refine Ah (Ab ?_)
 refine ls F W Aa (A7 F Aa Aa).q fun a w F W => ?_
 refine ls F W Aa (Ae F Aa).q fun a w F W => ?_
 refine Ad (Ac ?_)
 refine Aw F Aa (fun hb => ?_) fun hb => ?_
 ·
  have H := AV (Bg hb) H
  rw [hb] at F
  refine Ah ?_
  refine GP [(true, 0), (true, 1), (true, 5), (true, 6), (false, 2), (true, 3), (true, 4), (false, 7), (false, 8), (true, 9), (false, 10)] (CN ⟨Y, [], w0⟩ [(some 2, b1, [.int .i64 p0.un.1, .int .i64 p0.un.2.1.un.1, .int .i64 p0.un.2.1.un.2.1, .int .i64 p0.un.2.1.un.2.2.1, v1, .int .i64 p0.un.2.2.1, .int .i64 p0.un.2.2.2.1, v2]), (some 7, b1, [.int .i64 p0.un.1, .int .i64 p0.un.2.1.un.1, .int .i64 p0.un.2.1.un.2.1, .int .i64 p0.un.2.1.un.2.2.1, v1, .int .i64 p0.un.2.2.1, .int .i64 p0.un.2.2.2.1, v2])] []) (fun ch a d v w h => by cases d <;> exact h) MO (by kernel_rfl) W (fun w W => ⟨_, _, W, (Al (fun _ => (.head _)) (Al (fun _ => (.head _)) AE)), AE⟩) fun w W => ?_
  refine BK (R := []) F Aa Aa (yC fun M Z hN hZ => Ai Ed Aa Aa Aa ER F Aa 1 Aa) Aa Aa fun a F => ?_
  refine BK (R := [2]) F Aa Aa (yC fun M Z hN hZ => Fj (cs := [.int .i64 p0.un.1, .int .i64 p0.un.2.1.un.1, .int .i64 p0.un.2.1.un.2.1, .int .i64 p0.un.2.1.un.2.2.1, v1, .int .i64 p0.un.2.2.1, .int .i64 p0.un.2.2.2.1, v2]) (v := Value.agg #[.int .i64 p0.un.2.1.un.1, .int .i64 p0.un.2.1.un.2.1, .int .i64 p0.un.2.1.un.2.2.1, v1]) F Aa (hN ((some 2), b1, [.int .i64 p0.un.1, .int .i64 p0.un.2.1.un.1, .int .i64 p0.un.2.1.un.2.1, .int .i64 p0.un.2.1.un.2.2.1, v1, .int .i64 p0.un.2.2.1, .int .i64 p0.un.2.2.2.1, v2]) (.head _) Aa) ER Aa) (by kernel_rfl) Aa fun a F => ?_
  refine BK (R := []) F Aa Aa (yC fun M Z hN hZ => Ai Ed Aa Aa Aa Lx F Aa 7 Aa) Aa Aa fun a F => ?_
  refine BK (R := [7]) F Aa Aa (yC fun M Z hN hZ => Fj (cs := [.int .i64 p0.un.1, .int .i64 p0.un.2.1.un.1, .int .i64 p0.un.2.1.un.2.1, .int .i64 p0.un.2.1.un.2.2.1, v1, .int .i64 p0.un.2.2.1, .int .i64 p0.un.2.2.2.1, v2]) (v := v2) F Aa (hN ((some 7), b1, [.int .i64 p0.un.1, .int .i64 p0.un.2.1.un.1, .int .i64 p0.un.2.1.un.2.1, .int .i64 p0.un.2.1.un.2.2.1, v1, .int .i64 p0.un.2.2.1, .int .i64 p0.un.2.2.2.1, v2]) (.tail _ (.head _)) Aa) Lx Aa) (by kernel_rfl) Aa fun a F => ?_
  refine EK Aa ?_
  obtain ⟨x9, h11, H⟩ := Am H
  refine ls F W Aa (A3 (v := Value.string (bs x9)) F Xz Aa (fun w W => OE any w (v1) (Tr36.of (p0.un.2.1.un.1, p0.un.2.1.un.2.1, p0.un.2.1.un.2.2.1, p0.un.2.1.un.2.2.2)) _ h11 (((AH BV h1 (Aq h_v1)) : D1 _ _ _ _ _ _) w W).nx (hG.go0 W))) fun a w F W => ?_
  refine BP (N2 := []) (NZ2 := []) (N3 := [(some 2, b1, [.int .i64 p0.un.1, .int .i64 p0.un.2.1.un.1, .int .i64 p0.un.2.1.un.2.1, .int .i64 p0.un.2.1.un.2.2.1, v1, .int .i64 p0.un.2.2.1, .int .i64 p0.un.2.2.2.1, v2]), (some 7, b1, [.int .i64 p0.un.1, .int .i64 p0.un.2.1.un.1, .int .i64 p0.un.2.1.un.2.1, .int .i64 p0.un.2.1.un.2.2.1, v1, .int .i64 p0.un.2.2.1, .int .i64 p0.un.2.2.2.1, v2])]) (NZ3 := []) W Aa Aa (Al (fun h => Ap (by kernel_rfl) h) (Al (fun _ => (.head _)) AE)) AE ?_
  obtain ⟨x10, h12, H⟩ := Am H
  refine BK (R := []) F Aa Aa (yC fun M Z hN hZ => IK (l := ([105, 102, 32] : List UInt8)) (m := x9) F Aa Aa h12) Aa Aa fun a F => ?_
  obtain ⟨x11, h13, H⟩ := Am H
  refine BK (R := []) F Aa Aa (yC fun M Z hN hZ => IK (l := x10) (m := ([32, 116, 104, 101, 110, 32] : List UInt8)) F Aa Aa h13) Aa Aa fun a F => ?_
  refine EK Aa ?_
  obtain ⟨x12, h14, H⟩ := Am H
  refine Bj (Ml := []) (Zl := []) (M := [(b1, [.int .i64 p0.un.1, .int .i64 p0.un.2.1.un.1, .int .i64 p0.un.2.1.un.2.1, .int .i64 p0.un.2.1.un.2.2.1, v1, .int .i64 p0.un.2.2.1, .int .i64 p0.un.2.2.2.1, v2])]) (Z := []) (β := Value) (rv := fun x => x) (MM := fun x => []) (ZZ := fun x => [row x 9 Rp.str x12]) F W Xy Aa Aa (fun hL => (Hr fRec ih) _ w (v2) p0.un.2.2.2.2 _ h14 ((AH FD h2 (Aq h_v2)) w W).nx (hG.go0 W)) fun x a w F W => ?_
  obtain ⟨v7, rfl⟩ : ∃ y, y = x := ⟨x, rfl⟩
  have W : Stw ⟨Y, [], w0⟩ [(b1, [.int .i64 p0.un.1, .int .i64 p0.un.2.1.un.1, .int .i64 p0.un.2.1.un.2.1, .int .i64 p0.un.2.1.un.2.2.1, v1, .int .i64 p0.un.2.2.1, .int .i64 p0.un.2.2.2.1, v2])] [row v7 9 Rp.str x12] w := W
  refine BP (N2 := []) (NZ2 := []) (N3 := [(some 2, b1, [.int .i64 p0.un.1, .int .i64 p0.un.2.1.un.1, .int .i64 p0.un.2.1.un.2.1, .int .i64 p0.un.2.1.un.2.2.1, v1, .int .i64 p0.un.2.2.1, .int .i64 p0.un.2.2.2.1, v2]), (some 7, b1, [.int .i64 p0.un.1, .int .i64 p0.un.2.1.un.1, .int .i64 p0.un.2.1.un.2.1, .int .i64 p0.un.2.1.un.2.2.1, v1, .int .i64 p0.un.2.2.1, .int .i64 p0.un.2.2.2.1, v2])]) (NZ3 := []) W Aa Aa (Al (fun h => Ap (by kernel_rfl) h) (Al (fun h => Ap (by kernel_rfl) h) AE)) AE ?_
  refine EK Aa ?_
  obtain ⟨x13, h15, H⟩ := Am H
  refine ls F W Aa (A3 (v := Value.string (bs x13)) F WJ Aa (fun w W => Rn any w (v7) x12 ([32, 101, 108, 115, 101, 32] : List UInt8) _ h15 (((Au 0 Aa) : D1 _ _ _ _ _ _) w W).nx)) fun a w F W => ?_
  refine BP (N2 := []) (NZ2 := []) (N3 := [(some 2, b1, [.int .i64 p0.un.1, .int .i64 p0.un.2.1.un.1, .int .i64 p0.un.2.1.un.2.1, .int .i64 p0.un.2.1.un.2.2.1, v1, .int .i64 p0.un.2.2.1, .int .i64 p0.un.2.2.2.1, v2]), (some 7, b1, [.int .i64 p0.un.1, .int .i64 p0.un.2.1.un.1, .int .i64 p0.un.2.1.un.2.1, .int .i64 p0.un.2.1.un.2.2.1, v1, .int .i64 p0.un.2.2.1, .int .i64 p0.un.2.2.2.1, v2])]) (NZ3 := []) W Aa Aa (Al (fun h => Ap (by kernel_rfl) h) (Al (fun h => Ap (by kernel_rfl) h) AE)) AE ?_
  obtain ⟨x14, h16, H⟩ := Am H
  refine BK (R := []) F Aa Aa (yC fun M Z hN hZ => IK (l := x11) (m := x13) F Aa Aa h16) Aa Aa fun a F => ?_
  refine EK Aa ?_
  refine ls F W Aa (Ae F Aa).q fun a w F W => ?_
  refine BP (N2 := []) (NZ2 := []) (N3 := [(some 2, b1, [.int .i64 p0.un.1, .int .i64 p0.un.2.1.un.1, .int .i64 p0.un.2.1.un.2.1, .int .i64 p0.un.2.1.un.2.2.1, v1, .int .i64 p0.un.2.2.1, .int .i64 p0.un.2.2.2.1, v2]), (some 7, b1, [.int .i64 p0.un.1, .int .i64 p0.un.2.1.un.1, .int .i64 p0.un.2.1.un.2.1, .int .i64 p0.un.2.1.un.2.2.1, v1, .int .i64 p0.un.2.2.1, .int .i64 p0.un.2.2.2.1, v2])]) (NZ3 := []) W Aa Aa (Al (fun h => Ap (by kernel_rfl) h) (Al (fun h => Ap (by kernel_rfl) h) AE)) AE ?_
  refine HG (Ac (Av (AQ (AN ?_))))
  have H := AP H
  subst H
  refine AJ (.inl Aa) F W Aa (AB F Aa) ?_
  exact ⟨rfl, W.done⟩
 have H := AR (Bf hb) H
 rw [hb] at F
 refine Ay (AU (Ac (Ah (Ab ?_))))
 refine ls F W Aa (Ae (v := Value.string (bs ([63] : List UInt8))) F Aa).q fun a w F W => ?_
 refine Ad (Ac (Av ?_))
 have H := AP H
 subst H
 refine AJ (.inl Aa) F W Aa (AB F Aa) ?_
 exact ⟨rfl, W.done⟩
theorem Qv : ∀ (n : Nat) (Y : Nat → Prop) (w0 : World) (v1 : Value) (v2 : Value) (p0 : Tr39) (r : List UInt8) (H : EW n p0 = some r) (h_v1 : Sl w0 (NX []) BF v1 p0.un.2.1.un.2.2.2) (h_v2 : Sl w0 (NX []) Gy v2 p0.un.2.2.2.2) (hG : Gk [] w0), Calls Tryz.prog 34 #[.agg #[.int .i64 p0.un.1, .int .i64 p0.un.2.1.un.1, .int .i64 p0.un.2.1.un.2.1, .int .i64 p0.un.2.1.un.2.2.1, v1, .int .i64 p0.un.2.2.1, .int .i64 p0.un.2.2.2.1, v2]] w0 fun e w' => e = .returned (.string (bs r)) ∧ Below w0.heap.size w0 w' := by
  intro n
  induction n with
  | zero => intro Y w0 v1 v2 p0 r H; exact nomatch H
  | succ n ih => intro Y w0 v1 v2 p0 r H h_v1 h_v2 hG; exact O3 (EW n) ih Y w0 v1 v2 p0 r H h_v1 h_v2 hG
theorem MR (Y : Nat → Prop) (w0 : World) (v1 : Value) (v2 : Value) (p0 : Tr39) (r : List UInt8) (H : Ki p0 = some r) (h_v1 : Sl w0 (NX []) BF v1 p0.un.2.1.un.2.2.2) (h_v2 : Sl w0 (NX []) Gy v2 p0.un.2.2.2.2) (hG : Gk [] w0) :
    Calls Tryz.prog 34 #[.agg #[.int .i64 p0.un.1, .int .i64 p0.un.2.1.un.1, .int .i64 p0.un.2.1.un.2.1, .int .i64 p0.un.2.1.un.2.2.1, v1, .int .i64 p0.un.2.2.1, .int .i64 p0.un.2.2.2.1, v2]] w0 fun e w' => e = .returned (.string (bs r)) ∧ Below w0.heap.size w0 w' := by
  obtain ⟨n, H⟩ := Dd H
  exact Qv n Y w0 v1 v2 p0 r H h_v1 h_v2 hG
theorem RS : type_of% Tryz.underlying63 := Tryz.underlying63
theorem Z3 : (Tryz.prog.info? 3).bind (·.zero) = some (.int .i64 0) := by kernel_rfl
theorem EF : Et Tryz.prog 63 3 1 8 := Et.of RS (by kernel_rfl) (by kernel_rfl) (by kernel_rfl) (by decide)
theorem X6 : Has Tryz.prog 55 := ⟨fun args w => Aj Tryz.func55 rfl (by decide) args w⟩
def Cs (fRec : Tr36 → Int → Option (List Int)) (p0 : Tr36) (p1 : Int) : (List Int × Int) → Option ((List Int × Int) ⊕ (List Int))
  | (x4, x5) => (if x5 < (p0.un.2.2.2.length : Int) then (ix p0.un.2.2.2 x5).bind fun x6 => (fRec x6 p1).bind fun x7 => (Ig x4 x7).bind fun x8 => some (.inl (x8, AG (x5 + 1))) else some (.inr x4))
def C5 (fRec : Tr36 → Int → Option (List Int)) (p0 : Tr36) (p1 : Int) : Option (List Int) := (if (decide (p0.un.1 = 3) && decide (p0.un.2.1 = p1)) = true then (Ig ([] : List Int) ([p0.un.2.2.1] : List Int)).bind fun x2 => some x2 else some ([])).bind fun x1 => (A6 (Cs fRec p0 p1) (x1, 0)).bind fun x3 => some x3
def CC : Nat → Tr36 → Int → Option (List Int)
  | 0 => fun _ _ => none
  | n + 1 => C5 (CC n)
def I2 (p0 : Tr36) (p1 : Int) : Option (List Int) := Jl fun n => CC n p0 p1
theorem Nn (fRec : Tr36 → Int → Option (List Int)) (ih : ∀ (Y : Nat → Prop) (w0 : World) (v1 : Value) (p0 : Tr36) (p1 : Int) (r : List Int) (H : fRec p0 p1 = some r) (h_v1 : Sl w0 (NX []) BF v1 p0.un.2.2.2), Calls Tryz.prog 55 #[.agg #[.int .i64 p0.un.1, .int .i64 p0.un.2.1, .int .i64 p0.un.2.2.1, v1], .int .i64 p1] w0 fun e w' => ∃ x : Value, e = .returned (x) ∧ Stw ⟨Y, [], w0⟩ [] [row (x) 3 (Rp.int .i64) r] w') (Y : Nat → Prop) (w0 : World) (v1 : Value) (p0 : Tr36) (p1 : Int) (r : List Int) (H : C5 fRec p0 p1 = some r) (h_v1 : Sl w0 (NX []) BF v1 p0.un.2.2.2) :
    Calls Tryz.prog 55 #[.agg #[.int .i64 p0.un.1, .int .i64 p0.un.2.1, .int .i64 p0.un.2.2.1, v1], .int .i64 p1] w0 fun e w' => ∃ x : Value, e = .returned (x) ∧ Stw ⟨Y, [], w0⟩ [] [row (x) 3 (Rp.int .i64) r] w' := by
 refine enter Tryz.func55 Aa Tryz.ntmps55 Aa fun a F => ?_
 have W := Stw.start Y w0
 obtain ⟨v2, h1, h_v1⟩ := h_v1.ex BV
 unfold C5 at H
 refine Ah (Ab ?_)
 refine CS (cs := [.int .i64 p0.un.1, .int .i64 p0.un.2.1, .int .i64 p0.un.2.2.1, v1]) F W Aa Aa Aa fun b1 a w F W => ?_
 refine ls F W Aa (Ae F Aa).q fun a w F W => ?_
 refine Ad (Ac (Ah (Ab ?_)))
 refine ls F W Aa (Ae F Aa).q fun a w F W => ?_
 refine Ad (Ac ?_)
 obtain ⟨o1, G1, K1⟩ := Am H
 refine AO (fun a w => ∃ x1 : List Int, ∃ v3 : Value, some (x1) = some o1 ∧ Fr 36 [] [(1, .int .i64 p1), (2, .pointer (some ⟨b1, 0, none⟩)), (4, .slice none 0 0), (5, v3)] a ∧ Stw ⟨Y, [], w0⟩ [(b1, [.int .i64 p0.un.1, .int .i64 p0.un.2.1, .int .i64 p0.un.2.2.1, v1])] [row v3 3 (Rp.int .i64) x1] w) ?_ ?_
 ·
  have H := G1
  refine AO (fun a w => Fr 36 [] [(1, .int .i64 p1), (2, .pointer (some ⟨b1, 0, none⟩)), (4, .slice none 0 0), (5, .slice none 0 0), (16, .bool (decide (p0.un.1 = 3) && decide (p0.un.2.1 = p1)))] a ∧ Stw ⟨Y, [], w0⟩ [(b1, [.int .i64 p0.un.1, .int .i64 p0.un.2.1, .int .i64 p0.un.2.2.1, v1])] [] w) ?_ ?_
  ·
   refine Ab ?_
   refine ls F W Aa (Ai Dt Aa Aa Aa T3 F Aa 0 Aa).q fun a w F W => ?_
   refine ls F W Aa (Ao (v := Value.int .i64 p0.un.1) 0 F Aa Aa T3 Aa).q fun a w F W => ?_
   refine ls F W Aa (A7 F Aa Aa).q fun a w F W => ?_
   refine ls F W Aa (Ag F Aa).q fun a w F W => ?_
   rcases bxq (decide (p0.un.1 = 3)) with hb0 | hb0
   ·
    rw [hb0] at F
    refine AK F W (Af F Aa Aa Aa Aa) Aa (Ak Aa) (Ai Dt Aa Aa Aa T3 F Aa 1 Aa).q fun a w F W => ?_
    refine AK F W (Af F Aa Aa Aa Aa) Aa (Ak Aa) (Ao (v := Value.int .i64 p0.un.2.1) 0 F Aa Aa T3 Aa).q fun a w F W => ?_
    refine AK F W (Af F Aa Aa Aa Aa) Aa (Ak Aa) (Ag F Aa).q fun a w F W => ?_
    refine AK F W (Af F Aa Aa Aa Aa) Aa (Ak Aa) (A7 F Aa Aa).q fun a w F W => ?_
    refine ls F W Aa (Ax F Aa Aa Aa).q fun a w F W => ?_
    refine Ad (Ac ?_)
    exact ⟨F.re ⟨rfl, Aa, Aa, Aa, (by show some (Value.bool (decide (p0.un.2.1 = p1))) = some (Value.bool (decide (p0.un.1 = 3) && decide (p0.un.2.1 = p1))); try rw [hb0]; all_goals simp only [Bool.not_true, Bool.not_false, Bool.true_and, Bool.false_and, Bool.true_or, Bool.false_or, Bool.and_true, Bool.or_false, cond_true, cond_false]), trivial⟩, W⟩
   rw [hb0] at F
   iterate 4 refine Dz F Aa Aa Aa Aa Aa Aa Aa fun a F => ?_
   refine ls F W Aa (As F Aa Aa Aa).q fun a w F W => ?_
   refine Ad (Ac ?_)
   exact ⟨F.re ⟨rfl, Aa, Aa, Aa, (by show some (Value.bool false) = some (Value.bool (decide (p0.un.1 = 3) && decide (p0.un.2.1 = p1))); try rw [hb0]; all_goals simp only [Bool.not_true, Bool.not_false, Bool.true_and, Bool.false_and, Bool.true_or, Bool.false_or, Bool.and_true, Bool.or_false, cond_true, cond_false]), trivial⟩, W⟩
  rintro a w ⟨F, W⟩
  refine Aw F Aa (fun hb => ?_) fun hb => ?_
  ·
   have H := AV hb H
   rw [hb] at F
   refine Ab ?_
   refine ls F W Aa (Ag F Aa).q fun a w F W => ?_
   refine ls F W Aa (Ai Dt Aa Aa Aa T3 F Aa 2 Aa).q fun a w F W => ?_
   refine ls F W Aa (Ao (v := Value.int .i64 p0.un.2.2.1) 0 F Aa Aa T3 Aa).q fun a w F W => ?_
   refine Ke (z := Value.int .i64 0) (cs := [.int .i64 p0.un.2.2.1]) (Rp.int .i64) ([p0.un.2.2.1] : List Int) F W Aa EF Z3 Aa Aa Aa Aa Aa Aa (Fl.int.repL _ _ ([p0.un.2.2.1] : List Int)) fun v4 a w F W => ?_
   have W := W.nilRow 3 (Rp.int .i64)
   obtain ⟨x2, h2, H⟩ := Am H
   refine Fm (r := (Rp.int .i64)) (i := 0) F W Aa EF Aa Aa Aa Aa (GC W 1 Aa) h2 Aa fun v5 a w F W => ?_
   have W : Stw ⟨Y, [], w0⟩ [(b1, [.int .i64 p0.un.1, .int .i64 p0.un.2.1, .int .i64 p0.un.2.2.1, v1])] [row v5 3 (Rp.int .i64) x2, row v4 3 (Rp.int .i64) ([p0.un.2.2.1] : List Int)] w := W
   refine ls F W Aa (Ae F Aa).q fun a w F W => ?_
   refine Ad (Ac ?_)
   have W := W.sub (M' := [(b1, [.int .i64 p0.un.1, .int .i64 p0.un.2.1, .int .i64 p0.un.2.2.1, v1])]) (Z' := [row v5 3 (Rp.int .i64) x2]) (List.Sublist.refl _) (List.Sublist.cons_cons _ (List.nil_sublist _))
   exact ⟨_, (v5), H, F.re ⟨rfl, Aa, Aa, Aa, trivial⟩, W⟩
  have H := AR (by rw [hb]; decide) H
  rw [hb] at F
  refine Ay (Ac ?_)
  have W := W.nilRow 3 (Rp.int .i64)
  exact ⟨_, (Value.slice none 0 0), H, F.re ⟨rfl, Aa, Aa, Aa, trivial⟩, W⟩
 rintro a w ⟨x1, v3, hj, F, W⟩
 have hj := AP hj
 subst hj
 have H := K1
 obtain ⟨o2, G2, K2⟩ := Am H
 refine AO (fun a w => ∃ x3 : List Int, ∃ v6 : Value, some (x3) = some o2 ∧ Fr 36 [] [(4, .slice none 0 0), (5, v6)] a ∧ Stw ⟨Y, [], w0⟩ [(b1, [.int .i64 p0.un.1, .int .i64 p0.un.2.1, .int .i64 p0.un.2.2.1, v1])] [row v6 3 (Rp.int .i64) x3] w) ?_ ?_
 ·
  have H := G2
  refine Ah (Ab ?_)
  refine ls F W Aa (Ai Dt Aa Aa Aa Kg F Aa 3 Aa).q fun a w F W => ?_
  refine ls F W Aa (Ao (v := v1) 0 F Aa Aa Kg Aa).q fun a w F W => ?_
  refine ls F W Aa (CA (r := BF) (l := p0.un.2.2.2) JW Aa F Aa (AH BV h1 (Aq h_v1))).q fun a w F W => ?_
  refine ls F W Aa (Ag F Aa).q fun a w F W => ?_
  refine Ad (Ac (Az ?_))
  refine BG H (fun s a w => ∃ v7 : Value, Fr 36 [] [(1, .int .i64 p1), (4, .slice none 0 0), (5, v7), (23, v1), (24, .int .i64 (p0.un.2.2.2.length : Int)), (25, .int .i64 s.2)] a ∧ Stw ⟨Y, [], w0⟩ [(b1, [.int .i64 p0.un.1, .int .i64 p0.un.2.1, .int .i64 p0.un.2.2.1, v1])] [row v7 3 (Rp.int .i64) s.1] w) ⟨(v3), F.re ⟨rfl, Aa, Aa, Aa, Aa, Aa, trivial⟩, W⟩ fun s o a w H L3 hR => ?_
  obtain ⟨x4, x5⟩ := s
  obtain ⟨v7, F, W⟩ := hR
  have F : Fr 36 [] [(1, .int .i64 p1), (4, .slice none 0 0), (5, v7), (23, v1), (24, .int .i64 (p0.un.2.2.2.length : Int)), (25, .int .i64 x5)] a := F
  have W : Stw ⟨Y, [], w0⟩ [(b1, [.int .i64 p0.un.1, .int .i64 p0.un.2.1, .int .i64 p0.un.2.2.1, v1])] [row v7 3 (Rp.int .i64) x4] w := W
  rw [Cs] at H
  refine Ah (Ab ?_)
  refine ls F W Aa (Cu F Aa Aa).q fun a w F W => ?_
  refine Ad (Ac (Ah ?_))
  refine Aw F Aa (fun hb => ?_) fun hb => ?_
  ·
   have H := AV (Bg hb) H
   rw [hb] at F
   refine Ay (Ac (Ah (Az (Ah (Ab ?_)))))
   obtain ⟨x6, h3, H⟩ := Am H
   obtain ⟨v8, h4, h5⟩ := Ez h1 h3
   have h6 : Hl v8 = [.int .i64 x6.un.1, .int .i64 x6.un.2.1, .int .i64 x6.un.2.2.1, (v8.2.2.2.1)] := congrArg (fun q : Tr36 => ([.int .i64 q.un.1, .int .i64 q.un.2.1, .int .i64 q.un.2.2.1, (v8.2.2.2.1)] : List Value)) h5
   refine ls F W Aa (AM (r := HW) Ps F Aa Aa (Aq h_v1) h4).q fun a w F W => ?_
   refine ls F W Aa (AA (y := Value.agg #[.int .i64 x6.un.1, .int .i64 x6.un.2.1, .int .i64 x6.un.2.2.1, (v8.2.2.2.1)]) (j := 0) (i := x5) (enc := Hl) F Aa Aa (Aq h_v1) h4 MD ER (by rw [h6]; rfl)).q fun a w F W => ?_
   refine Co (cs := [.int .i64 0, .int .i64 0, .int .i64 0, .slice none 0 0]) F W Aa QT Aa fun b2 a w F W => ?_
   refine Be (vs := [.int .i64 x6.un.1, .int .i64 x6.un.2.1, .int .i64 x6.un.2.2.1, (v8.2.2.2.1)]) (M' := [(b2, [.int .i64 x6.un.1, .int .i64 x6.un.2.1, .int .i64 x6.un.2.2.1, (v8.2.2.2.1)]), (b1, [.int .i64 p0.un.1, .int .i64 p0.un.2.1, .int .i64 p0.un.2.2.1, v1])]) 0 F W Aa Aa Aa ER Aa Aa Aa (An Aa (An Aa (An Aa (An ((Cn (Aq h_v1) h4 (AC.snd (AC.snd (AC.snd AC.here))) (congrArg (fun q : Tr36 => q.un.2.2.2) h5)) _ W).one Cq)))) Aa fun w W => ?_
   refine Ad (Ac (Ab ?_))
   refine ls F W Aa (Ag F Aa).q fun a w F W => ?_
   refine ls F W Aa (Ao (v := Value.agg #[.int .i64 x6.un.1, .int .i64 x6.un.2.1, .int .i64 x6.un.2.2.1, (v8.2.2.2.1)]) 0 F Aa Aa ER Aa).q fun a w F W => ?_
   refine ls F W Aa (Ag F Aa).q fun a w F W => ?_
   obtain ⟨x7, h7, H⟩ := Am H
   refine Bj (Ml := []) (Zl := []) (M := [(b2, [.int .i64 x6.un.1, .int .i64 x6.un.2.1, .int .i64 x6.un.2.2.1, (v8.2.2.2.1)]), (b1, [.int .i64 p0.un.1, .int .i64 p0.un.2.1, .int .i64 p0.un.2.2.1, v1])]) (Z := [row v7 3 (Rp.int .i64) x4]) (β := Value) (rv := fun x => x) (MM := fun x => []) (ZZ := fun x => [row x 3 (Rp.int .i64) x7]) F W X6 Aa Aa (fun hL => ih _ w ((v8.2.2.2.1)) x6 p1 _ h7 ((Cn (Aq h_v1) h4 (AC.snd (AC.snd (AC.snd AC.here))) (congrArg (fun q : Tr36 => q.un.2.2.2) h5)) w W).nx) fun x a w F W => ?_
   obtain ⟨v9, rfl⟩ : ∃ y, y = x := ⟨x, rfl⟩
   have W : Stw ⟨Y, [], w0⟩ [(b2, [.int .i64 x6.un.1, .int .i64 x6.un.2.1, .int .i64 x6.un.2.2.1, (v8.2.2.2.1)]), (b1, [.int .i64 p0.un.1, .int .i64 p0.un.2.1, .int .i64 p0.un.2.2.1, v1])] [row v9 3 (Rp.int .i64) x7, row v7 3 (Rp.int .i64) x4] w := W
   obtain ⟨x8, h8, H⟩ := Am H
   refine Fm (r := (Rp.int .i64)) (i := 1) F W Aa EF Aa Aa Aa Aa (GC W 0 Aa) h8 Aa fun v10 a w F W => ?_
   have W : Stw ⟨Y, [], w0⟩ [(b2, [.int .i64 x6.un.1, .int .i64 x6.un.2.1, .int .i64 x6.un.2.2.1, (v8.2.2.2.1)]), (b1, [.int .i64 p0.un.1, .int .i64 p0.un.2.1, .int .i64 p0.un.2.2.1, v1])] [row v10 3 (Rp.int .i64) x8, row v9 3 (Rp.int .i64) x7] w := W
   refine ls F W Aa (Ae F Aa).q fun a w F W => ?_
   refine Ad (AU (Ac (Ab ?_)))
   refine ls F W Aa (BL F Aa Aa Aa).q fun a w F W => ?_
   refine ls F W Aa (Ag F Aa).q fun a w F W => ?_
   refine Ad (Ac ?_)
   have W := W.frontM (i := 1) Aa Aa
   have W := W.sub (M' := [(b1, [.int .i64 p0.un.1, .int .i64 p0.un.2.1, .int .i64 p0.un.2.2.1, v1])]) (Z' := [row v10 3 (Rp.int .i64) x8]) (List.Sublist.cons_cons _ (List.nil_sublist _)) (List.Sublist.cons_cons _ (List.nil_sublist _))
   exact ⟨_, H, (v10), F.re ⟨rfl, Aa, Aa, Aa, Aa, Aa, trivial⟩, W⟩
  have H := AR (Bf hb) H
  rw [hb] at F
  refine Bz ?_
  iterate 2 refine BS ?_
  refine Bx (Ac ?_)
  have H := L3 _ H
  exact ⟨_, (v7), H, F.re ⟨rfl, Aa, trivial⟩, W⟩
 rintro a w ⟨x3, v6, hj, F, W⟩
 have hj := AP hj
 subst hj
 have H := K2
 refine Ah (Ab ?_)
 refine ls F W Aa (Ag F Aa).q fun a w F W => ?_
 refine ls F W Aa (Ae F Aa).q fun a w F W => ?_
 refine Ad (Ac (Av ?_))
 have H := AP H
 subst H
 refine AJ (.inl Aa) F W Aa (AB F Aa) ?_
 have W := W.sub (M' := []) (Z' := [row v6 3 (Rp.int .i64) x3]) (List.nil_sublist _) (List.Sublist.refl _)
 exact ⟨(v6), Aa, W⟩
theorem N6 : ∀ (n : Nat) (Y : Nat → Prop) (w0 : World) (v1 : Value) (p0 : Tr36) (p1 : Int) (r : List Int) (H : CC n p0 p1 = some r) (h_v1 : Sl w0 (NX []) BF v1 p0.un.2.2.2), Calls Tryz.prog 55 #[.agg #[.int .i64 p0.un.1, .int .i64 p0.un.2.1, .int .i64 p0.un.2.2.1, v1], .int .i64 p1] w0 fun e w' => ∃ x : Value, e = .returned (x) ∧ Stw ⟨Y, [], w0⟩ [] [row (x) 3 (Rp.int .i64) r] w' := by
  intro n
  induction n with
  | zero => intro Y w0 v1 p0 p1 r H; exact nomatch H
  | succ n ih => intro Y w0 v1 p0 p1 r H h_v1; exact Nn (CC n) ih Y w0 v1 p0 p1 r H h_v1
theorem OQ (Y : Nat → Prop) (w0 : World) (v1 : Value) (p0 : Tr36) (p1 : Int) (r : List Int) (H : I2 p0 p1 = some r) (h_v1 : Sl w0 (NX []) BF v1 p0.un.2.2.2) :
    Calls Tryz.prog 55 #[.agg #[.int .i64 p0.un.1, .int .i64 p0.un.2.1, .int .i64 p0.un.2.2.1, v1], .int .i64 p1] w0 fun e w' => ∃ x : Value, e = .returned (x) ∧ Stw ⟨Y, [], w0⟩ [] [row (x) 3 (Rp.int .i64) r] w' := by
  obtain ⟨n, H⟩ := Dd H
  exact N6 n Y w0 v1 p0 p1 r H h_v1
theorem UL : type_of% Tryz.underlying3 := Tryz.underlying3
theorem XU : type_of% Tryz.underlying5 := Tryz.underlying5
theorem Yj : type_of% Tryz.underlying9 := Tryz.underlying9
theorem V9 : type_of% Tryz.underlying168 := Tryz.underlying168
def Fe (p0 : Int) : Option Int := (if 4294967296 ≤ p0 then some (H3 .u64 p0 32, 32) else some (p0, 0)).bind fun (x1, x2) => (if 65536 ≤ x1 then some (H3 .u64 x1 16, AG (x2 + 16)) else some (x1, x2)).bind fun (x3, x4) => (if 256 ≤ x3 then some (H3 .u64 x3 8, AG (x4 + 8)) else some (x3, x4)).bind fun (x5, x6) => (ix ([0, 1, 2, 2, 3, 3, 3, 3, 4, 4, 4, 4, 4, 4, 4, 4, 5, 5, 5, 5, 5, 5, 5, 5, 5, 5, 5, 5, 5, 5, 5, 5, 6, 6, 6, 6, 6, 6, 6, 6, 6, 6, 6, 6, 6, 6, 6, 6, 6, 6, 6, 6, 6, 6, 6, 6, 6, 6, 6, 6, 6, 6, 6, 6, 7, 7, 7, 7, 7, 7, 7, 7, 7, 7, 7, 7, 7, 7, 7, 7, 7, 7, 7, 7, 7, 7, 7, 7, 7, 7, 7, 7, 7, 7, 7, 7, 7, 7, 7, 7, 7, 7, 7, 7, 7, 7, 7, 7, 7, 7, 7, 7, 7, 7, 7, 7, 7, 7, 7, 7, 7, 7, 7, 7, 7, 7, 7, 7, 8, 8, 8, 8, 8, 8, 8, 8, 8, 8, 8, 8, 8, 8, 8, 8, 8, 8, 8, 8, 8, 8, 8, 8, 8, 8, 8, 8, 8, 8, 8, 8, 8, 8, 8, 8, 8, 8, 8, 8, 8, 8, 8, 8, 8, 8, 8, 8, 8, 8, 8, 8, 8, 8, 8, 8, 8, 8, 8, 8, 8, 8, 8, 8, 8, 8, 8, 8, 8, 8, 8, 8, 8, 8, 8, 8, 8, 8, 8, 8, 8, 8, 8, 8, 8, 8, 8, 8, 8, 8, 8, 8, 8, 8, 8, 8, 8, 8, 8, 8, 8, 8, 8, 8, 8, 8, 8, 8, 8, 8, 8, 8, 8, 8, 8, 8, 8, 8, 8, 8, 8, 8, 8, 8, 8, 8, 8, 8] : List UInt8) (IntKind.u8.wrap x5)).bind fun x7 => some (AG (x6 + (AG (x7.toNat : Int))))
theorem NH (Y : Nat → Prop) (w0 : World)  (p0 : Int) (r : Int) (H : Fe p0 = some r)  :
    Calls Tryz.prog 123 #[.int .u64 p0] w0 fun e w' => e = .returned (.int .i64 r) ∧ Below w0.heap.size w0 w' := by
 refine enter Tryz.func123 Aa Tryz.ntmps123 Aa fun a F => ?_
 have W := Stw.start Y w0
 unfold Fe at H
 refine Ah (Ab ?_)
 refine ls F W Aa (Ae F Aa).q fun a w F W => ?_
 refine Ad (Ac ?_)
 obtain ⟨o1, G1, K1⟩ := Am H
 refine AO (fun a w => ∃ x1 : Int, ∃ x2 : Int, some ((x1, x2)) = some o1 ∧ Fr 25 [] [(0, .int .u64 x1), (2, .int .i64 x2)] a ∧ Stw ⟨Y, [], w0⟩ [] [] w) ?_ ?_
 ·
  have H := G1
  refine Ah (Ab ?_)
  refine ls F W Aa (Ag F Aa).q fun a w F W => ?_
  refine ls F W Aa (D4 F Aa Aa).q fun a w F W => ?_
  refine Ad (Ac ?_)
  refine Aw F Aa (fun hb => ?_) fun hb => ?_
  ·
   have H := AV (Bg hb) H
   rw [hb] at F
   refine Ah (Ab ?_)
   refine ls F W Aa (Ag F Aa).q fun a w F W => ?_
   refine ls F W Aa (Ta F Aa Aa (by decide)).q fun a w F W => ?_
   refine ls F W Aa (Ae F Aa).q fun a w F W => ?_
   refine Ad (Ac (Ab ?_))
   refine ls F W Aa (Ae F Aa).q fun a w F W => ?_
   refine Ad (Ac ?_)
   exact ⟨_, _, H, F.re ⟨rfl, Aa, trivial⟩, W⟩
  have H := AR (Bf hb) H
  rw [hb] at F
  refine Ay (Ac ?_)
  exact ⟨_, _, H, F.re ⟨rfl, Aa, trivial⟩, W⟩
 rintro a w ⟨x1, x2, hj, F, W⟩
 have hj := AP hj
 subst hj
 have H := K1
 obtain ⟨o2, G2, K2⟩ := Am H
 refine AO (fun a w => ∃ x3 : Int, ∃ x4 : Int, some ((x3, x4)) = some o2 ∧ Fr 25 [] [(0, .int .u64 x3), (2, .int .i64 x4)] a ∧ Stw ⟨Y, [], w0⟩ [] [] w) ?_ ?_
 ·
  have H := G2
  refine Ah (Ab ?_)
  refine ls F W Aa (Ag F Aa).q fun a w F W => ?_
  refine ls F W Aa (D4 F Aa Aa).q fun a w F W => ?_
  refine Ad (Ac ?_)
  refine Aw F Aa (fun hb => ?_) fun hb => ?_
  ·
   have H := AV (Bg hb) H
   rw [hb] at F
   refine Ah (Ab ?_)
   refine ls F W Aa (Ag F Aa).q fun a w F W => ?_
   refine ls F W Aa (Ta F Aa Aa (by decide)).q fun a w F W => ?_
   refine ls F W Aa (Ae F Aa).q fun a w F W => ?_
   refine Ad (Ac (Ab ?_))
   refine ls F W Aa (Ag F Aa).q fun a w F W => ?_
   refine ls F W Aa (BL F Aa Aa Aa).q fun a w F W => ?_
   refine ls F W Aa (Ae F Aa).q fun a w F W => ?_
   refine Ad (Ac ?_)
   exact ⟨_, _, H, F.re ⟨rfl, Aa, trivial⟩, W⟩
  have H := AR (Bf hb) H
  rw [hb] at F
  refine Ay (Ac ?_)
  exact ⟨_, _, H, F.re ⟨rfl, Aa, trivial⟩, W⟩
 rintro a w ⟨x3, x4, hj, F, W⟩
 have hj := AP hj
 subst hj
 have H := K2
 obtain ⟨o3, G3, K3⟩ := Am H
 refine AO (fun a w => ∃ x5 : Int, ∃ x6 : Int, some ((x5, x6)) = some o3 ∧ Fr 25 [] [(0, .int .u64 x5), (2, .int .i64 x6)] a ∧ Stw ⟨Y, [], w0⟩ [] [] w) ?_ ?_
 ·
  have H := G3
  refine Ah (Ab ?_)
  refine ls F W Aa (Ag F Aa).q fun a w F W => ?_
  refine ls F W Aa (D4 F Aa Aa).q fun a w F W => ?_
  refine Ad (Ac ?_)
  refine Aw F Aa (fun hb => ?_) fun hb => ?_
  ·
   have H := AV (Bg hb) H
   rw [hb] at F
   refine Ah (Ab ?_)
   refine ls F W Aa (Ag F Aa).q fun a w F W => ?_
   refine ls F W Aa (Ta F Aa Aa (by decide)).q fun a w F W => ?_
   refine ls F W Aa (Ae F Aa).q fun a w F W => ?_
   refine Ad (Ac (Ab ?_))
   refine ls F W Aa (Ag F Aa).q fun a w F W => ?_
   refine ls F W Aa (BL F Aa Aa Aa).q fun a w F W => ?_
   refine ls F W Aa (Ae F Aa).q fun a w F W => ?_
   refine Ad (Ac ?_)
   exact ⟨_, _, H, F.re ⟨rfl, Aa, trivial⟩, W⟩
  have H := AR (Bf hb) H
  rw [hb] at F
  refine Ay (Ac ?_)
  exact ⟨_, _, H, F.re ⟨rfl, Aa, trivial⟩, W⟩
 rintro a w ⟨x5, x6, hj, F, W⟩
 have hj := AP hj
 subst hj
 have H := K3
 refine Ah (Ab ?_)
 iterate 2 refine ls F W Aa (Ag F Aa).q fun a w F W => ?_
 refine ls F W Aa (Mp V9 XU F Aa).q fun a w F W => ?_
 obtain ⟨x7, h1, H⟩ := Am H
 refine ls F W Aa (Ut (l := ([0, 1, 2, 2, 3, 3, 3, 3, 4, 4, 4, 4, 4, 4, 4, 4, 5, 5, 5, 5, 5, 5, 5, 5, 5, 5, 5, 5, 5, 5, 5, 5, 6, 6, 6, 6, 6, 6, 6, 6, 6, 6, 6, 6, 6, 6, 6, 6, 6, 6, 6, 6, 6, 6, 6, 6, 6, 6, 6, 6, 6, 6, 6, 6, 7, 7, 7, 7, 7, 7, 7, 7, 7, 7, 7, 7, 7, 7, 7, 7, 7, 7, 7, 7, 7, 7, 7, 7, 7, 7, 7, 7, 7, 7, 7, 7, 7, 7, 7, 7, 7, 7, 7, 7, 7, 7, 7, 7, 7, 7, 7, 7, 7, 7, 7, 7, 7, 7, 7, 7, 7, 7, 7, 7, 7, 7, 7, 7, 8, 8, 8, 8, 8, 8, 8, 8, 8, 8, 8, 8, 8, 8, 8, 8, 8, 8, 8, 8, 8, 8, 8, 8, 8, 8, 8, 8, 8, 8, 8, 8, 8, 8, 8, 8, 8, 8, 8, 8, 8, 8, 8, 8, 8, 8, 8, 8, 8, 8, 8, 8, 8, 8, 8, 8, 8, 8, 8, 8, 8, 8, 8, 8, 8, 8, 8, 8, 8, 8, 8, 8, 8, 8, 8, 8, 8, 8, 8, 8, 8, 8, 8, 8, 8, 8, 8, 8, 8, 8, 8, 8, 8, 8, 8, 8, 8, 8, 8, 8, 8, 8, 8, 8, 8, 8, 8, 8, 8, 8, 8, 8, 8, 8, 8, 8, 8, 8, 8, 8, 8, 8, 8, 8, 8, 8, 8, 8] : List UInt8)) Yj F Aa Aa h1).q fun a w F W => ?_
 refine ls F W Aa (Mp XU UL F Aa).q fun a w F W => ?_
 refine ls F W Aa (BL F Aa Aa Aa).q fun a w F W => ?_
 refine ls F W Aa (Ae F Aa).q fun a w F W => ?_
 refine Ad (Ac (Av ?_))
 have H := AP H
 subst H
 refine AJ (.inl Aa) F W Aa (AB F Aa) ?_
 exact ⟨rfl, W.done⟩
theorem Xx : Has Tryz.prog 123 := ⟨fun args w => Aj Tryz.func123 rfl (by decide) args w⟩
def EU (p0 : Int) : Option Int := (Fe p0).bind fun x1 => some x1
theorem Lz (Y : Nat → Prop) (w0 : World)  (p0 : Int) (r : Int) (H : EU p0 = some r)  :
    Calls Tryz.prog 93 #[.int .u64 p0] w0 fun e w' => e = .returned (.int .i64 r) ∧ Below w0.heap.size w0 w' := by
 refine enter Tryz.func93 Aa Tryz.ntmps93 Aa fun a F => ?_
 have W := Stw.start Y w0
 unfold EU at H
 refine Ah (Ab ?_)
 refine ls F W Aa (Ae F Aa).q fun a w F W => ?_
 refine Ad (Ac (Ah ?_))
 refine T9 F Aa ?_
 refine Ay (Ac (Ah (Ab ?_)))
 refine ls F W Aa (Ag F Aa).q fun a w F W => ?_
 obtain ⟨x1, h1, H⟩ := Am H
 refine ls F W Aa (A3 (v := Value.int .i64 x1) F Xx Aa (fun w W => NH any w p0 _ h1)) fun a w F W => ?_
 refine ls F W Aa (Ae F Aa).q fun a w F W => ?_
 refine Ad (Ac (Av ?_))
 have H := AP H
 subst H
 refine AJ (.inl Aa) F W Aa (AB F Aa) ?_
 exact ⟨rfl, W.done⟩
theorem X1 : Has Tryz.prog 93 := ⟨fun args w => Aj Tryz.func93 rfl (by decide) args w⟩
def Cr (p0 : Int) : Bool := decide (p0 ≠ p0)
theorem Lv (Y : Nat → Prop) (w0 : World)  (p0 : Int) (r : Bool) (H : Cr p0 = r)  :
    Calls Tryz.prog 99 #[.int .i64 p0] w0 fun e w' => e = .returned (.bool r) ∧ Below w0.heap.size w0 w' := by
 refine enter Tryz.func99 Aa Tryz.ntmps99 Aa fun a F => ?_
 have W := Stw.start Y w0
 unfold Cr at H
 refine Ah (Ab ?_)
 refine ls F W Aa (Ae F Aa).q fun a w F W => ?_
 refine Ad (Ac (Ah (Ab ?_)))
 iterate 2 refine ls F W Aa (Ag F Aa).q fun a w F W => ?_
 refine ls F W Aa (Ip F Aa Aa).q fun a w F W => ?_
 refine ls F W Aa (Ae F Aa).q fun a w F W => ?_
 refine Ad (Ac (Av ?_))
 subst H
 refine AJ (.inl Aa) F W Aa (AB F Aa) ?_
 exact ⟨rfl, W.done⟩
theorem XY : Has Tryz.prog 99 := ⟨fun args w => Aj Tryz.func99 rfl (by decide) args w⟩
def AX (p0 : Int) (p1 : Int) : Bool := (bif (Cr p0) then (!(Cr p1) || decide (p0 < p1)) else decide (p0 < p1))
theorem CG (Y : Nat → Prop) (w0 : World)  (p0 : Int) (p1 : Int) (r : Bool) (H : AX p0 p1 = r)  :
    Calls Tryz.prog 119 #[.int .i64 p0, .int .i64 p1] w0 fun e w' => e = .returned (.bool r) ∧ Below w0.heap.size w0 w' := by
 refine enter Tryz.func119 Aa Tryz.ntmps119 Aa fun a F => ?_
 have W := Stw.start Y w0
 unfold AX at H
 refine Ah (Ab ?_)
 refine ls F W Aa (Ae F Aa).q fun a w F W => ?_
 refine Ad (Ac ?_)
 refine AO (fun a w => Fr 17 [] [(4, .bool (bif (Cr p0) then (!(Cr p1) || decide (p0 < p1)) else decide (p0 < p1)))] a ∧ Stw ⟨Y, [], w0⟩ [] [] w) ?_ ?_
 ·
  refine Ab ?_
  refine ls F W Aa (Ag F Aa).q fun a w F W => ?_
  refine ls F W Aa (A3 (v := Value.bool (Cr p0)) F XY Aa (fun w W => Lv any w p0 _ Aa)) fun a w F W => ?_
  refine ls F W Aa (Ag F Aa).q fun a w F W => ?_
  rcases bxq (Cr p0) with hb0 | hb0
  ·
   rw [hb0] at F
   refine AK F W (Af F Aa Aa Aa Aa) Aa (Ak Aa) (Ag F Aa).q fun a w F W => ?_
   refine KH (Af F Aa Aa Aa Aa) ?_
   refine ls F W Aa (A3 (v := Value.bool (Cr p1)) F XY Aa (fun w W => Lv any w p1 _ Aa)) fun a w F W => ?_
   refine AK F W (Af F Aa Aa Aa Aa) Aa (Ak Aa) (F4 F Aa).q fun a w F W => ?_
   refine ls F W Aa (Ax F Aa Aa Aa).q fun a w F W => ?_
   refine ls F W Aa (Ag F Aa).q fun a w F W => ?_
   rcases bxq (!(Cr p1)) with hb1 | hb1
   ·
    rw [hb1] at F
    iterate 3 refine Dz F Aa Aa Aa Aa Aa Aa Aa fun a F => ?_
    refine ls F W Aa (Ax F Aa Aa Aa).q fun a w F W => ?_
    refine ls F W Aa (Ae F Aa).q fun a w F W => ?_
    refine Ad (Ac ?_)
    exact ⟨F.re ⟨(by show some (Value.bool true) = some (Value.bool (bif (Cr p0) then (!(Cr p1) || decide (p0 < p1)) else decide (p0 < p1))); try rw [hb1]; try rw [hb0]; all_goals simp only [Bool.not_true, Bool.not_false, Bool.true_and, Bool.false_and, Bool.true_or, Bool.false_or, Bool.and_true, Bool.or_false, cond_true, cond_false]), trivial⟩, W⟩
   rw [hb1] at F
   iterate 2 refine AK F W (Af F Aa Aa Aa Aa) Aa (Ak Aa) (Ag F Aa).q fun a w F W => ?_
   refine AK F W (Af F Aa Aa Aa Aa) Aa (Ak Aa) (Cu F Aa Aa).q fun a w F W => ?_
   refine ls F W Aa (As F Aa Aa Aa).q fun a w F W => ?_
   refine ls F W Aa (Ae F Aa).q fun a w F W => ?_
   refine Ad (Ac ?_)
   exact ⟨F.re ⟨(by show some (Value.bool (decide (p0 < p1))) = some (Value.bool (bif (Cr p0) then (!(Cr p1) || decide (p0 < p1)) else decide (p0 < p1))); try rw [hb1]; try rw [hb0]; all_goals simp only [Bool.not_true, Bool.not_false, Bool.true_and, Bool.false_and, Bool.true_or, Bool.false_or, Bool.and_true, Bool.or_false, cond_true, cond_false]), trivial⟩, W⟩
  rw [hb0] at F
  iterate 3 refine Dz F Aa Aa Aa Aa Aa Aa Aa fun a F => ?_
  refine ls F W Aa (As F Aa Aa Aa).q fun a w F W => ?_
  refine ls F W Aa (Ag F Aa).q fun a w F W => ?_
  iterate 2 refine AK F W (Af F Aa Aa Aa Aa) Aa (Ak Aa) (Ag F Aa).q fun a w F W => ?_
  refine AK F W (Af F Aa Aa Aa Aa) Aa (Ak Aa) (Cu F Aa Aa).q fun a w F W => ?_
  refine ls F W Aa (As F Aa Aa Aa).q fun a w F W => ?_
  refine ls F W Aa (Ae F Aa).q fun a w F W => ?_
  refine Ad (Ac ?_)
  exact ⟨F.re ⟨(by show some (Value.bool (decide (p0 < p1))) = some (Value.bool (bif (Cr p0) then (!(Cr p1) || decide (p0 < p1)) else decide (p0 < p1))); try rw [hb0]; all_goals simp only [Bool.not_true, Bool.not_false, Bool.true_and, Bool.false_and, Bool.true_or, Bool.false_or, Bool.and_true, Bool.or_false, cond_true, cond_false]), trivial⟩, W⟩
 rintro a w ⟨F, W⟩
 refine Av ?_
 subst H
 refine AJ (.inl Aa) F W Aa (AB F Aa) ?_
 exact ⟨rfl, W.done⟩
theorem NI : Has Tryz.prog 119 := ⟨fun args w => Aj Tryz.func119 rfl (by decide) args w⟩
def Ba (p1 : Int) : (List Int × Int) → Option ((List Int × Int) ⊕ (List Int))
  | (x4, x5) => (if p1 < x5 then (ix x4 x5).bind fun x7 => (ix x4 (AG (x5 - 1))).bind fun x8 => some (AX x7 x8) else some false).bind fun x6 => (if x6 = true then (ix x4 (AG (x5 - 1))).bind fun x9 => (ix x4 x5).bind fun x10 => (ix x4 x5).bind fun x11 => (ix (AL x4 x5 x9) (AG (x5 - 1))).bind fun x12 => some (.inl ((AL (AL x4 x5 x9) (AG (x5 - 1)) x10), AG (x5 - 1))) else some (.inr x4))
def BD (p1 : Int) (p2 : Int) : (List Int × Int) → Option ((List Int × Int) ⊕ (List Int))
  | (x1, x2) => (if x2 < p2 then (A6 (Ba p1) (x1, x2)).bind fun x3 => some (.inl (x3, AG (x2 + 1))) else some (.inr x1))
def B6 (p0 : List Int) (p1 : Int) (p2 : Int) : Option (List Int) := A6 (BD p1 p2) (p0, AG (p1 + 1))
theorem HY (Y : Nat → Prop) (X : List Nat) (w0 : World) (v1 : Value) (p0 : List Int) (p1 : Int) (p2 : Int) (r : List Int) (H : B6 p0 p1 p2 = some r) (hL : Stw ⟨Y, X, w0⟩ [] [row v1 3 (Rp.int .i64) p0] w0) :
    Calls Tryz.prog 113 #[v1, .int .i64 p1, .int .i64 p2] w0 fun e w' => ∃ x : Unit, e = .returned (.tuple #[]) ∧ Stw ⟨Y, X, w0⟩ [] [row v1 3 (Rp.int .i64) r] w' := by
 refine enter Tryz.func113 Aa Tryz.ntmps113 Aa fun a F => ?_
 have W := hL
 unfold B6 at H
 refine Ah (Ab ?_)
 refine ls F W Aa (Ag F Aa).q fun a w F W => ?_
 refine ls F W Aa (BL F Aa Aa Aa).q fun a w F W => ?_
 refine ls F W Aa (Ae F Aa).q fun a w F W => ?_
 refine Ad (Ac (Az ?_))
 refine BG H (fun s a w => Fr 49 [] [(0, v1), (1, .int .i64 p1), (2, .int .i64 p2), (6, .int .i64 s.2)] a ∧ Stw ⟨Y, X, w0⟩ [] [row v1 3 (Rp.int .i64) s.1] w) ⟨F.re ⟨rfl, Aa, Aa, Aa, trivial⟩, W⟩ fun s o a w H L1 hR => ?_
 obtain ⟨x1, x2⟩ := s
 obtain ⟨F, W⟩ := hR
 have F : Fr 49 [] [(0, v1), (1, .int .i64 p1), (2, .int .i64 p2), (6, .int .i64 x2)] a := F
 have W : Stw ⟨Y, X, w0⟩ [] [row v1 3 (Rp.int .i64) x1] w := W
 rw [BD] at H
 refine Ah (Ah (Ab ?_))
 iterate 2 refine ls F W Aa (Ag F Aa).q fun a w F W => ?_
 refine ls F W Aa (Cu F Aa Aa).q fun a w F W => ?_
 refine Ad (Ac ?_)
 refine Aw F Aa (fun hb => ?_) fun hb => ?_
 ·
  have H := AV (Bg hb) H
  rw [hb] at F
  refine Ay (Ac ?_)
  obtain ⟨o2, G2, K2⟩ := Am H
  refine AO (fun a w => ∃ x3 : List Int, some (x3) = some o2 ∧ Fr 49 [] [(0, v1), (1, .int .i64 p1), (2, .int .i64 p2), (6, .int .i64 x2)] a ∧ Stw ⟨Y, X, w0⟩ [] [row v1 3 (Rp.int .i64) x3] w) ?_ ?_
  ·
   have H := G2
   refine Az (Ah (Ab ?_))
   refine ls F W Aa (Ag F Aa).q fun a w F W => ?_
   refine ls F W Aa (Ae F Aa).q fun a w F W => ?_
   refine Ad (Ac (Az ?_))
   refine BG H (fun s a w => Fr 49 [] [(0, v1), (1, .int .i64 p1), (2, .int .i64 p2), (6, .int .i64 x2), (7, .int .i64 s.2)] a ∧ Stw ⟨Y, X, w0⟩ [] [row v1 3 (Rp.int .i64) s.1] w) ⟨F.re ⟨rfl, Aa, Aa, Aa, Aa, trivial⟩, W⟩ fun s o a w H L3 hR => ?_
   obtain ⟨x4, x5⟩ := s
   obtain ⟨F, W⟩ := hR
   have F : Fr 49 [] [(0, v1), (1, .int .i64 p1), (2, .int .i64 p2), (6, .int .i64 x2), (7, .int .i64 x5)] a := F
   have W : Stw ⟨Y, X, w0⟩ [] [row v1 3 (Rp.int .i64) x4] w := W
   rw [Ba] at H
   refine Ah ?_
   obtain ⟨o4, G4, K4⟩ := Am H
   refine AO (fun a w => ∃ x6 : Bool, some (x6) = some o4 ∧ Fr 49 [] [(0, v1), (1, .int .i64 p1), (2, .int .i64 p2), (6, .int .i64 x2), (7, .int .i64 x5), (30, .bool x6)] a ∧ Stw ⟨Y, X, w0⟩ [] [row v1 3 (Rp.int .i64) x4] w) ?_ ?_
   ·
    have H := G4
    refine CK W MO (by kernel_rfl) ?_
    iterate 2 refine qs F Aa (Ag F Aa).q fun a F => ?_
    refine qs F Aa (HL F Aa Aa).q fun a F => ?_
    refine qs F Aa (Ag F Aa).q fun a F => ?_
    rcases bxq (decide (p1 < x5)) with hb | hb
    ·
     have H := AV (Bg hb) H
     rw [hb] at F
     iterate 2 refine Bk F (Af F Aa Aa Aa Aa) Aa (Ak Aa) (Ag F Aa).q fun a F => ?_
     obtain ⟨x7, h1, H⟩ := Am H
     refine Bk F (Af F Aa Aa Aa Aa) Aa (Ak Aa) (AM (r := (Rp.int .i64)) EF F Aa Aa (Au 0 Aa) h1).q fun a F => ?_
     refine Bk F (Af F Aa Aa Aa Aa) Aa (Ak Aa) (AA (y := Value.int .i64 x7) (j := 0) (i := x5) F Aa Aa (Au 0 Aa) h1 Fl.int.to T3 Aa).q fun a F => ?_
     iterate 2 refine Bk F (Af F Aa Aa Aa Aa) Aa (Ak Aa) (Ag F Aa).q fun a F => ?_
     refine Bk F (Af F Aa Aa Aa Aa) Aa (Ak Aa) (CT F Aa Aa Aa).q fun a F => ?_
     obtain ⟨x8, h2, H⟩ := Am H
     refine Bk F (Af F Aa Aa Aa Aa) Aa (Ak Aa) (AM (r := (Rp.int .i64)) EF F Aa Aa (Au 0 Aa) h2).q fun a F => ?_
     refine Bk F (Af F Aa Aa Aa Aa) Aa (Ak Aa) (AA (y := Value.int .i64 x8) (j := 0) (i := AG (x5 - 1)) F Aa Aa (Au 0 Aa) h2 Fl.int.to T3 Aa).q fun a F => ?_
     refine Bk F (Af F Aa Aa Aa Aa) Aa (Ak Aa) (A3 (v := Value.bool (AX x7 x8)) F NI Aa (fun w W => CG any w x7 x8 _ Aa)) fun a F => ?_
     refine qs F Aa (Ax F Aa Aa Aa).q fun a F => ?_
     refine A9 fun w W => ?_
     refine Ac ?_
     exact ⟨_, H, F.re ⟨rfl, Aa, Aa, Aa, Aa, Aa, trivial⟩, W⟩
    have H := AR (Bf hb) H
    rw [hb] at F
    iterate 10 refine B4 F (Bi F Aa Aa Aa Aa Aa) Aa Aa fun a F => ?_
    refine qs F Aa (As F Aa Aa Aa).q fun a F => ?_
    refine A9 fun w W => ?_
    refine Ac ?_
    exact ⟨_, H, F.re ⟨rfl, Aa, Aa, Aa, Aa, Aa, trivial⟩, W⟩
   rintro a w ⟨x6, hj, F, W⟩
   have hj := AP hj
   subst hj
   have H := K4
   refine Aw F Aa (fun hb => ?_) fun hb => ?_
   ·
    have H := AV hb H
    rw [hb] at F
    refine Ay (Ac (Ah (Az ?_)))
    refine GP [(true, 0), (true, 1), (true, 2), (true, 3), (true, 4), (true, 5), (true, 6), (true, 7), (true, 8), (true, 9), (true, 10), (true, 11), (true, 12), (true, 13), (true, 14), (false, 15), (true, 16), (false, 17)] (CN ⟨Y, X, w0⟩ [] [(some 15, row v1 3 (Rp.int .i64) x4)]) (fun ch a d v w h => by cases d <;> exact h) MO (by kernel_rfl) W (fun w W => ⟨_, _, W, AE, (Al (fun _ => (.head _)) AE)⟩) fun w W => ?_
    iterate 4 refine BK (R := []) F Aa Aa (yC fun M Z hN hZ => Ag F Aa) Aa Aa fun a F => ?_
    refine BK (R := []) F Aa Aa (yC fun M Z hN hZ => CT F Aa Aa Aa) Aa Aa fun a F => ?_
    iterate 2 refine BK (R := []) F Aa Aa (yC fun M Z hN hZ => Ag F Aa) Aa Aa fun a F => ?_
    refine BK (R := []) F Aa Aa (yC fun M Z hN hZ => CT F Aa Aa Aa) Aa Aa fun a F => ?_
    obtain ⟨x9, h3, H⟩ := Am H
    refine BK (R := []) F Aa Aa (yC fun M Z hN hZ => CM (r := (Rp.int .i64)) EF F Aa Aa (Fx W (Au 0 Aa)) h3) Aa Aa fun a F => ?_
    refine BK (R := [15]) F Aa Aa (yC fun M Z hN hZ => AA (y := Value.int .i64 x9) (j := 0) (i := AG (x5 - 1)) F Aa Aa (E8 (hZ ((some 15), row v1 3 (Rp.int .i64) x4) (.head _) Aa)) h3 Fl.int.to T3 Aa) (by kernel_rfl) Aa fun a F => ?_
    iterate 2 refine BK (R := []) F Aa Aa (yC fun M Z hN hZ => Ag F Aa) Aa Aa fun a F => ?_
    obtain ⟨x10, h4, H⟩ := Am H
    refine BK (R := []) F Aa Aa (yC fun M Z hN hZ => CM (r := (Rp.int .i64)) EF F Aa Aa (Fx W (Au 0 Aa)) h4) Aa Aa fun a F => ?_
    refine BK (R := [15]) F Aa Aa (yC fun M Z hN hZ => AA (y := Value.int .i64 x10) (j := 0) (i := x5) F Aa Aa (E8 (hZ ((some 15), row v1 3 (Rp.int .i64) x4) (.head _) Aa)) h4 Fl.int.to T3 Aa) (by kernel_rfl) Aa fun a F => ?_
    obtain ⟨x11, h5, H⟩ := Am H
    refine BK (R := []) F Aa Aa (yC fun M Z hN hZ => CM (r := (Rp.int .i64)) EF F Aa Aa (Fx W (Au 0 Aa)) h5) Aa Aa fun a F => ?_
    refine EK Aa ?_
    refine BO (i := x5) (j := 0) (vs := [.int .i64 x9]) (x' := x9) F W Aa Aa Aa (k := 0) Aa Aa h5 T3 Aa Aa Aa Aa (fun A cs _ => Fl.int.sto (by rfl) _ _ _) fun w W => ?_
    refine BP (N2 := []) (NZ2 := []) (N3 := []) (NZ3 := [(some 15, row v1 3 (Rp.int .i64) x4)]) W Aa Aa AE (Al (fun h => Ap (by kernel_rfl) h) AE) ?_
    obtain ⟨x12, h6, H⟩ := Am H
    refine BK (R := []) F Aa Aa (yC fun M Z hN hZ => CM (r := (Rp.int .i64)) EF F Aa Aa (Fx W (Au 0 Aa)) h6) Aa Aa fun a F => ?_
    refine EK Aa ?_
    refine BO (i := AG (x5 - 1)) (j := 0) (vs := [.int .i64 x10]) (x' := x10) F W Aa Aa Aa (k := 0) Aa Aa h6 T3 Aa Aa Aa Aa (fun A cs _ => Fl.int.sto (by rfl) _ _ _) fun w W => ?_
    refine BP (N2 := []) (NZ2 := []) (N3 := []) (NZ3 := [(some 15, row v1 3 (Rp.int .i64) x4)]) W Aa Aa AE (Al (fun h => Ap (by kernel_rfl) h) AE) ?_
    refine HG (AU (Ac (Ab ?_)))
    refine ls F W Aa (Ag F Aa).q fun a w F W => ?_
    refine ls F W Aa (CT F Aa Aa Aa).q fun a w F W => ?_
    refine ls F W Aa (Ae F Aa).q fun a w F W => ?_
    refine Ad (Ac ?_)
    exact ⟨_, H, F.re ⟨rfl, Aa, Aa, Aa, Aa, trivial⟩, W⟩
   have H := AR (by rw [hb]; decide) H
   rw [hb] at F
   refine Bz ?_
   iterate 2 refine BS ?_
   refine Bx (AU (Ac ?_))
   have H := L3 _ H
   exact ⟨_, H, F.re ⟨rfl, Aa, Aa, Aa, trivial⟩, W⟩
  rintro a w ⟨x3, hj, F, W⟩
  have hj := AP hj
  subst hj
  have H := K2
  refine Ab ?_
  refine ls F W Aa (Ag F Aa).q fun a w F W => ?_
  refine ls F W Aa (BL F Aa Aa Aa).q fun a w F W => ?_
  refine ls F W Aa (Ae F Aa).q fun a w F W => ?_
  refine Ad (Ac ?_)
  exact ⟨_, H, F.re ⟨rfl, Aa, Aa, Aa, trivial⟩, W⟩
 have H := AR (Bf hb) H
 rw [hb] at F
 refine Bz ?_
 iterate 2 refine BS ?_
 refine Bx ?_
 have H := L1 _ H
 have H := AP H
 subst H
 refine LH (.inr Aa) F Aa ?_
 exact ⟨(), Aa, W⟩
theorem Xo : Has Tryz.prog 113 := ⟨fun args w => Aj Tryz.func113 rfl (by decide) args w⟩
def A8 (p2 : Int) (p3 : Int) : (List Int × Int) → Option ((List Int × Int) ⊕ (List Int))
  | (x1, x2) => (if p2 ≤ (AG ((AG (2 * x2)) + 1)) then some (.inr x1) else ((if (AG ((AG ((AG (2 * x2)) + 1)) + 1)) < p2 then (ix x1 (AG (p3 + (AG ((AG (2 * x2)) + 1))))).bind fun x5 => (ix x1 (AG ((AG (p3 + (AG ((AG (2 * x2)) + 1)))) + 1))).bind fun x6 => some (AX x5 x6) else some false).bind fun x4 => (if x4 = true then some (AG ((AG ((AG (2 * x2)) + 1)) + 1)) else some (AG ((AG (2 * x2)) + 1)))).bind fun x3 => (ix x1 (AG (p3 + x2))).bind fun x7 => (ix x1 (AG (p3 + x3))).bind fun x8 => (if (!(AX x7 x8)) = true then some (.inr x1) else (ix x1 (AG (p3 + x3))).bind fun x9 => (ix x1 (AG (p3 + x2))).bind fun x10 => (ix x1 (AG (p3 + x2))).bind fun x11 => (ix (AL x1 (AG (p3 + x2)) x9) (AG (p3 + x3))).bind fun x12 => some (.inl ((AL (AL x1 (AG (p3 + x2)) x9) (AG (p3 + x3)) x10), x3))))
def Cf (p0 : List Int) (p1 : Int) (p2 : Int) (p3 : Int) : Option (List Int) := A6 (A8 p2 p3) (p0, p1)
theorem Gn (Y : Nat → Prop) (X : List Nat) (w0 : World) (v1 : Value) (p0 : List Int) (p1 : Int) (p2 : Int) (p3 : Int) (r : List Int) (H : Cf p0 p1 p2 p3 = some r) (hL : Stw ⟨Y, X, w0⟩ [] [row v1 3 (Rp.int .i64) p0] w0) :
    Calls Tryz.prog 139 #[v1, .int .i64 p1, .int .i64 p2, .int .i64 p3] w0 fun e w' => ∃ x : Unit, e = .returned (.tuple #[]) ∧ Stw ⟨Y, X, w0⟩ [] [row v1 3 (Rp.int .i64) r] w' := by
 refine enter Tryz.func139 Aa Tryz.ntmps139 Aa fun a F => ?_
 have W := hL
 unfold Cf at H
 refine Ah (Ab ?_)
 refine ls F W Aa (Ag F Aa).q fun a w F W => ?_
 refine ls F W Aa (Ae F Aa).q fun a w F W => ?_
 refine Ad (Ac (Az ?_))
 refine BG H (fun s a w => Fr 76 [] [(0, v1), (2, .int .i64 p2), (3, .int .i64 p3), (8, .int .i64 s.2)] a ∧ Stw ⟨Y, X, w0⟩ [] [row v1 3 (Rp.int .i64) s.1] w) ⟨F.re ⟨rfl, Aa, Aa, Aa, trivial⟩, W⟩ fun s o a w H L1 hR => ?_
 obtain ⟨x1, x2⟩ := s
 obtain ⟨F, W⟩ := hR
 have F : Fr 76 [] [(0, v1), (2, .int .i64 p2), (3, .int .i64 p3), (8, .int .i64 x2)] a := F
 have W : Stw ⟨Y, X, w0⟩ [] [row v1 3 (Rp.int .i64) x1] w := W
 rw [A8] at H
 refine Az (Ah (Ab ?_))
 refine ls F W Aa (Ag F Aa).q fun a w F W => ?_
 refine ls F W Aa (OG F Aa Aa Aa).q fun a w F W => ?_
 refine ls F W Aa (BL F Aa Aa Aa).q fun a w F W => ?_
 refine ls F W Aa (Ae F Aa).q fun a w F W => ?_
 refine Ad (Ac (Ah (Ah (Ab ?_))))
 iterate 2 refine ls F W Aa (Ag F Aa).q fun a w F W => ?_
 refine ls F W Aa (D4 F Aa Aa).q fun a w F W => ?_
 refine Ad (Ac ?_)
 refine Aw F Aa (fun hb => ?_) fun hb => ?_
 ·
  have H := AV (Bg hb) H
  rw [hb] at F
  refine Bz (BS ?_)
  refine Qk Aa ?_
  refine BS (Bx ?_)
  have H := L1 _ H
  have H := AP H
  subst H
  refine LH (.inr Aa) F Aa ?_
  exact ⟨(), Aa, W⟩
 have H := AR (Bf hb) H
 rw [hb] at F
 refine Ay (Ac ?_)
 obtain ⟨o2, G2, K2⟩ := Am H
 refine AO (fun a w => ∃ x3 : Int, some (x3) = some o2 ∧ Fr 76 [] [(0, v1), (2, .int .i64 p2), (3, .int .i64 p3), (8, .int .i64 x2), (9, .int .i64 x3)] a ∧ Stw ⟨Y, X, w0⟩ [] [row v1 3 (Rp.int .i64) x1] w) ?_ ?_
 ·
  have H := G2
  obtain ⟨o3, G3, K3⟩ := Am H
  refine AO (fun a w => ∃ x4 : Bool, some (x4) = some o3 ∧ Fr 76 [] [(0, v1), (2, .int .i64 p2), (3, .int .i64 p3), (8, .int .i64 x2), (9, .int .i64 (AG ((AG (2 * x2)) + 1))), (36, .bool x4)] a ∧ Stw ⟨Y, X, w0⟩ [] [row v1 3 (Rp.int .i64) x1] w) ?_ ?_
  ·
   have H := G3
   refine CK W MO (by kernel_rfl) ?_
   refine qs F Aa (Ag F Aa).q fun a F => ?_
   refine qs F Aa (BL F Aa Aa Aa).q fun a F => ?_
   refine qs F Aa (Ag F Aa).q fun a F => ?_
   refine qs F Aa (Cu F Aa Aa).q fun a F => ?_
   refine qs F Aa (Ag F Aa).q fun a F => ?_
   rcases bxq (decide ((AG ((AG ((AG (2 * x2)) + 1)) + 1)) < p2)) with hb | hb
   ·
    have H := AV (Bg hb) H
    rw [hb] at F
    iterate 3 refine Bk F (Af F Aa Aa Aa Aa) Aa (Ak Aa) (Ag F Aa).q fun a F => ?_
    refine Bk F (Af F Aa Aa Aa Aa) Aa (Ak Aa) (BL F Aa Aa Aa).q fun a F => ?_
    obtain ⟨x5, h1, H⟩ := Am H
    refine Bk F (Af F Aa Aa Aa Aa) Aa (Ak Aa) (AM (r := (Rp.int .i64)) EF F Aa Aa (Au 0 Aa) h1).q fun a F => ?_
    refine Bk F (Af F Aa Aa Aa Aa) Aa (Ak Aa) (AA (y := Value.int .i64 x5) (j := 0) (i := AG (p3 + (AG ((AG (2 * x2)) + 1)))) F Aa Aa (Au 0 Aa) h1 Fl.int.to T3 Aa).q fun a F => ?_
    iterate 3 refine Bk F (Af F Aa Aa Aa Aa) Aa (Ak Aa) (Ag F Aa).q fun a F => ?_
    iterate 2 refine Bk F (Af F Aa Aa Aa Aa) Aa (Ak Aa) (BL F Aa Aa Aa).q fun a F => ?_
    obtain ⟨x6, h2, H⟩ := Am H
    refine Bk F (Af F Aa Aa Aa Aa) Aa (Ak Aa) (AM (r := (Rp.int .i64)) EF F Aa Aa (Au 0 Aa) h2).q fun a F => ?_
    refine Bk F (Af F Aa Aa Aa Aa) Aa (Ak Aa) (AA (y := Value.int .i64 x6) (j := 0) (i := AG ((AG (p3 + (AG ((AG (2 * x2)) + 1)))) + 1)) F Aa Aa (Au 0 Aa) h2 Fl.int.to T3 Aa).q fun a F => ?_
    refine Bk F (Af F Aa Aa Aa Aa) Aa (Ak Aa) (A3 (v := Value.bool (AX x5 x6)) F NI Aa (fun w W => CG any w x5 x6 _ Aa)) fun a F => ?_
    refine qs F Aa (Ax F Aa Aa Aa).q fun a F => ?_
    refine A9 fun w W => ?_
    refine Ac ?_
    exact ⟨_, H, F.re ⟨rfl, Aa, Aa, Aa, Aa, Aa, trivial⟩, W⟩
   have H := AR (Bf hb) H
   rw [hb] at F
   iterate 14 refine B4 F (Bi F Aa Aa Aa Aa Aa) Aa Aa fun a F => ?_
   refine qs F Aa (As F Aa Aa Aa).q fun a F => ?_
   refine A9 fun w W => ?_
   refine Ac ?_
   exact ⟨_, H, F.re ⟨rfl, Aa, Aa, Aa, Aa, Aa, trivial⟩, W⟩
  rintro a w ⟨x4, hj, F, W⟩
  have hj := AP hj
  subst hj
  have H := K3
  refine Aw F Aa (fun hb => ?_) fun hb => ?_
  ·
   have H := AV hb H
   rw [hb] at F
   refine Ab ?_
   refine ls F W Aa (Ag F Aa).q fun a w F W => ?_
   refine ls F W Aa (BL F Aa Aa Aa).q fun a w F W => ?_
   refine ls F W Aa (Ae F Aa).q fun a w F W => ?_
   refine Ad (Ac ?_)
   exact ⟨_, H, F.re ⟨rfl, Aa, Aa, Aa, Aa, trivial⟩, W⟩
  have H := AR (by rw [hb]; decide) H
  rw [hb] at F
  refine Ay (Ac ?_)
  exact ⟨_, H, F.re ⟨rfl, Aa, Aa, Aa, Aa, trivial⟩, W⟩
 rintro a w ⟨x3, hj, F, W⟩
 have hj := AP hj
 subst hj
 have H := K2
 iterate 2 refine Ah ?_
 refine CK W MO (by kernel_rfl) ?_
 iterate 3 refine qs F Aa (Ag F Aa).q fun a F => ?_
 refine qs F Aa (BL F Aa Aa Aa).q fun a F => ?_
 obtain ⟨x7, h3, H⟩ := Am H
 refine qs F Aa (AM (r := (Rp.int .i64)) EF F Aa Aa (Au 0 Aa) h3).q fun a F => ?_
 refine qs F Aa (AA (y := Value.int .i64 x7) (j := 0) (i := AG (p3 + x2)) F Aa Aa (Au 0 Aa) h3 Fl.int.to T3 Aa).q fun a F => ?_
 iterate 3 refine qs F Aa (Ag F Aa).q fun a F => ?_
 refine qs F Aa (BL F Aa Aa Aa).q fun a F => ?_
 obtain ⟨x8, h4, H⟩ := Am H
 refine qs F Aa (AM (r := (Rp.int .i64)) EF F Aa Aa (Au 0 Aa) h4).q fun a F => ?_
 refine qs F Aa (AA (y := Value.int .i64 x8) (j := 0) (i := AG (p3 + x3)) F Aa Aa (Au 0 Aa) h4 Fl.int.to T3 Aa).q fun a F => ?_
 refine qs F Aa (A3 (v := Value.bool (AX x7 x8)) F NI Aa (fun w W => CG any w x7 x8 _ Aa)) fun a F => ?_
 refine qs F Aa (F4 F Aa).q fun a F => ?_
 refine A9 fun w W => ?_
 refine Ac ?_
 refine Aw F Aa (fun hb => ?_) fun hb => ?_
 ·
  have H := AV hb H
  rw [hb] at F
  refine Av (AN (AQ (AN (AQ ?_))))
  have H := L1 _ H
  have H := AP H
  subst H
  refine LH (.inl Aa) F Aa ?_
  exact ⟨(), Aa, W⟩
 have H := AR (by rw [hb]; decide) H
 rw [hb] at F
 refine Ay (Ac (Ah ?_))
 refine GP [(true, 0), (true, 1), (true, 2), (true, 3), (true, 4), (true, 5), (true, 6), (true, 7), (true, 8), (true, 9), (true, 10), (true, 11), (true, 12), (true, 13), (true, 14), (true, 15), (true, 16), (true, 17), (true, 18), (true, 19), (true, 20), (false, 21), (true, 22), (false, 23)] (CN ⟨Y, X, w0⟩ [] [(some 21, row v1 3 (Rp.int .i64) x1)]) (fun ch a d v w h => by cases d <;> exact h) MO (by kernel_rfl) W (fun w W => ⟨_, _, W, AE, (Al (fun _ => (.head _)) AE)⟩) fun w W => ?_
 iterate 3 refine BK (R := []) F Aa Aa (yC fun M Z hN hZ => Ag F Aa) Aa Aa fun a F => ?_
 refine BK (R := []) F Aa Aa (yC fun M Z hN hZ => BL F Aa Aa Aa) Aa Aa fun a F => ?_
 iterate 3 refine BK (R := []) F Aa Aa (yC fun M Z hN hZ => Ag F Aa) Aa Aa fun a F => ?_
 refine BK (R := []) F Aa Aa (yC fun M Z hN hZ => BL F Aa Aa Aa) Aa Aa fun a F => ?_
 iterate 3 refine BK (R := []) F Aa Aa (yC fun M Z hN hZ => Ag F Aa) Aa Aa fun a F => ?_
 refine BK (R := []) F Aa Aa (yC fun M Z hN hZ => BL F Aa Aa Aa) Aa Aa fun a F => ?_
 obtain ⟨x9, h5, H⟩ := Am H
 refine BK (R := []) F Aa Aa (yC fun M Z hN hZ => CM (r := (Rp.int .i64)) EF F Aa Aa (Fx W (Au 0 Aa)) h5) Aa Aa fun a F => ?_
 refine BK (R := [21]) F Aa Aa (yC fun M Z hN hZ => AA (y := Value.int .i64 x9) (j := 0) (i := AG (p3 + x3)) F Aa Aa (E8 (hZ ((some 21), row v1 3 (Rp.int .i64) x1) (.head _) Aa)) h5 Fl.int.to T3 Aa) (by kernel_rfl) Aa fun a F => ?_
 iterate 3 refine BK (R := []) F Aa Aa (yC fun M Z hN hZ => Ag F Aa) Aa Aa fun a F => ?_
 refine BK (R := []) F Aa Aa (yC fun M Z hN hZ => BL F Aa Aa Aa) Aa Aa fun a F => ?_
 obtain ⟨x10, h6, H⟩ := Am H
 refine BK (R := []) F Aa Aa (yC fun M Z hN hZ => CM (r := (Rp.int .i64)) EF F Aa Aa (Fx W (Au 0 Aa)) h6) Aa Aa fun a F => ?_
 refine BK (R := [21]) F Aa Aa (yC fun M Z hN hZ => AA (y := Value.int .i64 x10) (j := 0) (i := AG (p3 + x2)) F Aa Aa (E8 (hZ ((some 21), row v1 3 (Rp.int .i64) x1) (.head _) Aa)) h6 Fl.int.to T3 Aa) (by kernel_rfl) Aa fun a F => ?_
 obtain ⟨x11, h7, H⟩ := Am H
 refine BK (R := []) F Aa Aa (yC fun M Z hN hZ => CM (r := (Rp.int .i64)) EF F Aa Aa (Fx W (Au 0 Aa)) h7) Aa Aa fun a F => ?_
 refine EK Aa ?_
 refine BO (i := AG (p3 + x2)) (j := 0) (vs := [.int .i64 x9]) (x' := x9) F W Aa Aa Aa (k := 0) Aa Aa h7 T3 Aa Aa Aa Aa (fun A cs _ => Fl.int.sto (by rfl) _ _ _) fun w W => ?_
 refine BP (N2 := []) (NZ2 := []) (N3 := []) (NZ3 := [(some 21, row v1 3 (Rp.int .i64) x1)]) W Aa Aa AE (Al (fun h => Ap (by kernel_rfl) h) AE) ?_
 obtain ⟨x12, h8, H⟩ := Am H
 refine BK (R := []) F Aa Aa (yC fun M Z hN hZ => CM (r := (Rp.int .i64)) EF F Aa Aa (Fx W (Au 0 Aa)) h8) Aa Aa fun a F => ?_
 refine EK Aa ?_
 refine BO (i := AG (p3 + x3)) (j := 0) (vs := [.int .i64 x10]) (x' := x10) F W Aa Aa Aa (k := 0) Aa Aa h8 T3 Aa Aa Aa Aa (fun A cs _ => Fl.int.sto (by rfl) _ _ _) fun w W => ?_
 refine BP (N2 := []) (NZ2 := []) (N3 := []) (NZ3 := [(some 21, row v1 3 (Rp.int .i64) x1)]) W Aa Aa AE (Al (fun h => Ap (by kernel_rfl) h) AE) ?_
 refine HG (Ac (Ab ?_))
 refine ls F W Aa (Ag F Aa).q fun a w F W => ?_
 refine ls F W Aa (Ae F Aa).q fun a w F W => ?_
 refine Ad (AU (Ac ?_))
 exact ⟨_, H, F.re ⟨rfl, Aa, Aa, Aa, trivial⟩, W⟩
theorem Wh : Has Tryz.prog 139 := ⟨fun args w => Aj Tryz.func139 rfl (by decide) args w⟩
def BW (p1 : Int) (p2 : Int) : (List Int × Int) → Option ((List Int × Int) ⊕ (List Int))
  | (x2, x3) => (if 0 ≤ x3 then (Cf x2 x3 (AG (p2 - p1)) p1).bind fun x4 => some (.inl (x4, AG (x3 - 1))) else some (.inr x2))
def BX (p1 : Int) : (List Int × Int) → Option ((List Int × Int) ⊕ (List Int))
  | (x5, x6) => (if 0 ≤ x6 then (ix x5 (AG (p1 + x6))).bind fun x7 => (ix x5 p1).bind fun x8 => (ix x5 p1).bind fun x9 => (ix (AL x5 p1 x7) (AG (p1 + x6))).bind fun x10 => (Cf (AL (AL x5 p1 x7) (AG (p1 + x6)) x8) 0 x6 p1).bind fun x11 => some (.inl (x11, AG (x6 - 1))) else some (.inr x5))
def Cy (p0 : List Int) (p1 : Int) (p2 : Int) : Option (List Int) := (A6 (BW p1 p2) (p0, AG (Int.tdiv (AG ((AG (p2 - p1)) - 1)) 2))).bind fun x1 => A6 (BX p1) (x1, AG ((AG (p2 - p1)) - 1))
theorem Jv (Y : Nat → Prop) (X : List Nat) (w0 : World) (v1 : Value) (p0 : List Int) (p1 : Int) (p2 : Int) (r : List Int) (H : Cy p0 p1 p2 = some r) (hL : Stw ⟨Y, X, w0⟩ [] [row v1 3 (Rp.int .i64) p0] w0) :
    Calls Tryz.prog 114 #[v1, .int .i64 p1, .int .i64 p2] w0 fun e w' => ∃ x : Unit, e = .returned (.tuple #[]) ∧ Stw ⟨Y, X, w0⟩ [] [row v1 3 (Rp.int .i64) r] w' := by
 refine enter Tryz.func114 Aa Tryz.ntmps114 Aa fun a F => ?_
 have W := hL
 unfold Cy at H
 refine Ah (Ab ?_)
 refine ls F W Aa (Ag F Aa).q fun a w F W => ?_
 refine ls F W Aa (Ae F Aa).q fun a w F W => ?_
 refine Ad (Ac (Ah (Ab ?_)))
 refine ls F W Aa (Ae F Aa).q fun a w F W => ?_
 refine Ad (Ac (Ah (Ab ?_)))
 iterate 2 refine ls F W Aa (Ag F Aa).q fun a w F W => ?_
 refine ls F W Aa (CT F Aa Aa Aa).q fun a w F W => ?_
 refine ls F W Aa (Ae F Aa).q fun a w F W => ?_
 refine Ad (Ac ?_)
 obtain ⟨o1, G1, K1⟩ := Am H
 refine AO (fun a w => ∃ x1 : List Int, some (x1) = some o1 ∧ Fr 56 [] [(0, v1), (6, .int .i64 p1), (7, .int .i64 0), (8, .int .i64 (AG (p2 - p1)))] a ∧ Stw ⟨Y, X, w0⟩ [] [row v1 3 (Rp.int .i64) x1] w) ?_ ?_
 ·
  have H := G1
  refine Ah (Ab ?_)
  refine ls F W Aa (Ag F Aa).q fun a w F W => ?_
  refine ls F W Aa (CT F Aa Aa Aa).q fun a w F W => ?_
  refine ls F W Aa (Qo F Aa Aa (by decide) Aa).q fun a w F W => ?_
  refine ls F W Aa (Ae F Aa).q fun a w F W => ?_
  refine Ad (Ac (Az ?_))
  refine BG H (fun s a w => Fr 56 [] [(0, v1), (6, .int .i64 p1), (7, .int .i64 0), (8, .int .i64 (AG (p2 - p1))), (9, .int .i64 s.2)] a ∧ Stw ⟨Y, X, w0⟩ [] [row v1 3 (Rp.int .i64) s.1] w) ⟨F.re ⟨rfl, Aa, Aa, Aa, Aa, trivial⟩, W⟩ fun s o a w H L2 hR => ?_
  obtain ⟨x2, x3⟩ := s
  obtain ⟨F, W⟩ := hR
  have F : Fr 56 [] [(0, v1), (6, .int .i64 p1), (7, .int .i64 0), (8, .int .i64 (AG (p2 - p1))), (9, .int .i64 x3)] a := F
  have W : Stw ⟨Y, X, w0⟩ [] [row v1 3 (Rp.int .i64) x2] w := W
  rw [BW] at H
  refine Ah (Ah (Ab ?_))
  refine ls F W Aa (Ag F Aa).q fun a w F W => ?_
  refine ls F W Aa (D4 F Aa Aa).q fun a w F W => ?_
  refine Ad (Ac ?_)
  refine Aw F Aa (fun hb => ?_) fun hb => ?_
  ·
   have H := AV (Bg hb) H
   rw [hb] at F
   refine Ay (Ac (Ah (Az (Ab ?_))))
   iterate 4 refine ls F W Aa (Ag F Aa).q fun a w F W => ?_
   obtain ⟨x4, h1, H⟩ := Am H
   refine Bj (Ml := []) (Zl := [row v1 3 (Rp.int .i64) x2]) (M := []) (Z := []) (β := Unit) (rv := fun x => .tuple #[]) (MM := fun x => []) (ZZ := fun x => [row v1 3 (Rp.int .i64) x4]) F W Wh Aa Aa (fun hL => Gn _ _ w (v1) x2 x3 (AG (p2 - p1)) p1 _ h1 hL) fun x a w F W => ?_
   have W : Stw ⟨Y, X, w0⟩ [] [row v1 3 (Rp.int .i64) x4] w := W
   refine Ad (AU (Ac (Ab ?_)))
   refine ls F W Aa (Ag F Aa).q fun a w F W => ?_
   refine ls F W Aa (CT F Aa Aa Aa).q fun a w F W => ?_
   refine ls F W Aa (Ae F Aa).q fun a w F W => ?_
   refine Ad (Ac ?_)
   exact ⟨_, H, F.re ⟨rfl, Aa, Aa, Aa, Aa, trivial⟩, W⟩
  have H := AR (Bf hb) H
  rw [hb] at F
  refine Bz ?_
  iterate 2 refine BS ?_
  refine Bx (Ac ?_)
  have H := L2 _ H
  exact ⟨_, H, F.re ⟨rfl, Aa, Aa, Aa, trivial⟩, W⟩
 rintro a w ⟨x1, hj, F, W⟩
 have hj := AP hj
 subst hj
 have H := K1
 refine Ah (Ab ?_)
 refine ls F W Aa (Ag F Aa).q fun a w F W => ?_
 refine ls F W Aa (CT F Aa Aa Aa).q fun a w F W => ?_
 refine ls F W Aa (Ae F Aa).q fun a w F W => ?_
 refine Ad (Ac (Az ?_))
 refine BG H (fun s a w => Fr 56 [] [(0, v1), (6, .int .i64 p1), (7, .int .i64 0), (10, .int .i64 s.2)] a ∧ Stw ⟨Y, X, w0⟩ [] [row v1 3 (Rp.int .i64) s.1] w) ⟨F.re ⟨rfl, Aa, Aa, Aa, trivial⟩, W⟩ fun s o a w H L3 hR => ?_
 obtain ⟨x5, x6⟩ := s
 obtain ⟨F, W⟩ := hR
 have F : Fr 56 [] [(0, v1), (6, .int .i64 p1), (7, .int .i64 0), (10, .int .i64 x6)] a := F
 have W : Stw ⟨Y, X, w0⟩ [] [row v1 3 (Rp.int .i64) x5] w := W
 rw [BX] at H
 refine Ah (Ah (Ab ?_))
 refine ls F W Aa (Ag F Aa).q fun a w F W => ?_
 refine ls F W Aa (D4 F Aa Aa).q fun a w F W => ?_
 refine Ad (Ac ?_)
 refine Aw F Aa (fun hb => ?_) fun hb => ?_
 ·
  have H := AV (Bg hb) H
  rw [hb] at F
  refine Ay (Ac (Ah (Az (Ah ?_))))
  refine GP [(true, 0), (true, 1), (true, 2), (true, 3), (true, 4), (true, 5), (true, 6), (true, 7), (true, 8), (true, 9), (true, 10), (true, 11), (true, 12), (true, 13), (true, 14), (true, 15), (true, 16), (false, 17), (true, 18), (false, 19)] (CN ⟨Y, X, w0⟩ [] [(some 17, row v1 3 (Rp.int .i64) x5)]) (fun ch a d v w h => by cases d <;> exact h) MO (by kernel_rfl) W (fun w W => ⟨_, _, W, AE, (Al (fun _ => (.head _)) AE)⟩) fun w W => ?_
  iterate 5 refine BK (R := []) F Aa Aa (yC fun M Z hN hZ => Ag F Aa) Aa Aa fun a F => ?_
  refine BK (R := []) F Aa Aa (yC fun M Z hN hZ => BL F Aa Aa Aa) Aa Aa fun a F => ?_
  iterate 3 refine BK (R := []) F Aa Aa (yC fun M Z hN hZ => Ag F Aa) Aa Aa fun a F => ?_
  refine BK (R := []) F Aa Aa (yC fun M Z hN hZ => BL F Aa Aa Aa) Aa Aa fun a F => ?_
  obtain ⟨x7, h2, H⟩ := Am H
  refine BK (R := []) F Aa Aa (yC fun M Z hN hZ => CM (r := (Rp.int .i64)) EF F Aa Aa (Fx W (Au 0 Aa)) h2) Aa Aa fun a F => ?_
  refine BK (R := [17]) F Aa Aa (yC fun M Z hN hZ => AA (y := Value.int .i64 x7) (j := 0) (i := AG (p1 + x6)) F Aa Aa (E8 (hZ ((some 17), row v1 3 (Rp.int .i64) x5) (.head _) Aa)) h2 Fl.int.to T3 Aa) (by kernel_rfl) Aa fun a F => ?_
  iterate 2 refine BK (R := []) F Aa Aa (yC fun M Z hN hZ => Ag F Aa) Aa Aa fun a F => ?_
  obtain ⟨x8, h3, H⟩ := Am H
  refine BK (R := []) F Aa Aa (yC fun M Z hN hZ => CM (r := (Rp.int .i64)) EF F Aa Aa (Fx W (Au 0 Aa)) h3) Aa Aa fun a F => ?_
  refine BK (R := [17]) F Aa Aa (yC fun M Z hN hZ => AA (y := Value.int .i64 x8) (j := 0) (i := p1) F Aa Aa (E8 (hZ ((some 17), row v1 3 (Rp.int .i64) x5) (.head _) Aa)) h3 Fl.int.to T3 Aa) (by kernel_rfl) Aa fun a F => ?_
  obtain ⟨x9, h4, H⟩ := Am H
  refine BK (R := []) F Aa Aa (yC fun M Z hN hZ => CM (r := (Rp.int .i64)) EF F Aa Aa (Fx W (Au 0 Aa)) h4) Aa Aa fun a F => ?_
  refine EK Aa ?_
  refine BO (i := p1) (j := 0) (vs := [.int .i64 x7]) (x' := x7) F W Aa Aa Aa (k := 0) Aa Aa h4 T3 Aa Aa Aa Aa (fun A cs _ => Fl.int.sto (by rfl) _ _ _) fun w W => ?_
  refine BP (N2 := []) (NZ2 := []) (N3 := []) (NZ3 := [(some 17, row v1 3 (Rp.int .i64) x5)]) W Aa Aa AE (Al (fun h => Ap (by kernel_rfl) h) AE) ?_
  obtain ⟨x10, h5, H⟩ := Am H
  refine BK (R := []) F Aa Aa (yC fun M Z hN hZ => CM (r := (Rp.int .i64)) EF F Aa Aa (Fx W (Au 0 Aa)) h5) Aa Aa fun a F => ?_
  refine EK Aa ?_
  refine BO (i := AG (p1 + x6)) (j := 0) (vs := [.int .i64 x8]) (x' := x8) F W Aa Aa Aa (k := 0) Aa Aa h5 T3 Aa Aa Aa Aa (fun A cs _ => Fl.int.sto (by rfl) _ _ _) fun w W => ?_
  refine BP (N2 := []) (NZ2 := []) (N3 := []) (NZ3 := [(some 17, row v1 3 (Rp.int .i64) x5)]) W Aa Aa AE (Al (fun h => Ap (by kernel_rfl) h) AE) ?_
  refine HG (Ac (Ab ?_))
  iterate 4 refine ls F W Aa (Ag F Aa).q fun a w F W => ?_
  obtain ⟨x11, h6, H⟩ := Am H
  refine Bj (Ml := []) (Zl := [row v1 3 (Rp.int .i64) (AL (AL x5 p1 x7) (AG (p1 + x6)) x8)]) (M := []) (Z := []) (β := Unit) (rv := fun x => .tuple #[]) (MM := fun x => []) (ZZ := fun x => [row v1 3 (Rp.int .i64) x11]) F W Wh Aa Aa (fun hL => Gn _ _ w (v1) (AL (AL x5 p1 x7) (AG (p1 + x6)) x8) 0 x6 p1 _ h6 hL) fun x a w F W => ?_
  have W : Stw ⟨Y, X, w0⟩ [] [row v1 3 (Rp.int .i64) x11] w := W
  refine Ad (AU (Ac (Ab ?_)))
  refine ls F W Aa (Ag F Aa).q fun a w F W => ?_
  refine ls F W Aa (CT F Aa Aa Aa).q fun a w F W => ?_
  refine ls F W Aa (Ae F Aa).q fun a w F W => ?_
  refine Ad (Ac ?_)
  exact ⟨_, H, F.re ⟨rfl, Aa, Aa, Aa, trivial⟩, W⟩
 have H := AR (Bf hb) H
 rw [hb] at F
 refine Bz ?_
 iterate 2 refine BS ?_
 refine Bx ?_
 have H := L3 _ H
 have H := AP H
 subst H
 refine LH (.inr Aa) F Aa ?_
 exact ⟨(), Aa, W⟩
end
end Go.Proofs.YtgoifghhcekahaaGreatDoor
