/- The functions of layer 30, JA. Conditions: none. -/
import Derived.Test.YtgoifghhcekahaaGreatDoorbA0
namespace Go.Proofs.YtgoifghhcekahaaGreatDoor
noncomputable section
open Go Go.RowKit
set_option linter.unusedVariables false
set_option linter.unusedSimpArgs false
set_option maxRecDepth 20000
theorem YP : Has Tryz.prog 85 := ⟨fun args w => Aj Tryz.func85 rfl (by decide) args w⟩
def Bv (p0 : List Tr36) (p1c0 : Int) : Int → Option (Int ⊕ (Unit ⊕ Int))
  | x1 => (if x1 < (p0.length : Int) then (ix p0 x1).bind fun x2 => (if (E4 x2 p1c0) = true then some (.inr (.inr x1)) else some (.inl (AG (x1 + 1)))) else some (.inr (.inl ())))
def B0 (p0 : List Tr36) (p1c0 : Int) : Option Int := Je (A6 (Bv p0 p1c0) 0) fun _ => some (-1)
theorem GS (Y : Nat → Prop) (w0 : World) (v1 : Value) (q_p1c0 : Nat) (p0 : List Tr36) (p1c0 : Int) (r : Int) (H : B0 p0 p1c0 = some r) (h_v1 : Sl w0 (NX []) BF v1 p0) (a_q_p1c0 : At ⟨Y, [], w0⟩ q_p1c0 0 [.int .i64 p1c0]) :
    Calls Tryz.prog 110 #[v1, .func (.func 85) #[] #[.pointer (some ⟨q_p1c0, 0, none⟩)]] w0 fun e w' => e = .returned (.int .i64 r) ∧ Below w0.heap.size w0 w' := by
 refine enter Tryz.func110 Aa Tryz.ntmps110 Aa fun a F => ?_
 have W := Stw.start Y w0
 obtain ⟨v2, h1, h_v1⟩ := h_v1.ex BV
 unfold B0 at H
 refine Ah (Ab ?_)
 refine ls F W Aa (Ae F Aa).q fun a w F W => ?_
 refine Ad (Ac ?_)
 obtain ⟨o1, G1, K1, L1⟩ := PQ H
 refine AO (fun a w => some (Sum.inl ()) = some o1 ∧ Fr 19 [] [(4, .int .i64 0)] a ∧ Stw ⟨Y, [], w0⟩ [] [] w) ?_ ?_
 ·
  have H := G1
  refine Ah (Ab ?_)
  refine ls F W Aa (Ag F Aa).q fun a w F W => ?_
  refine ls F W Aa (CA (r := BF) (l := p0) JW Aa F Aa (AH BV h1 (Aq h_v1))).q fun a w F W => ?_
  refine ls F W Aa (Ag F Aa).q fun a w F W => ?_
  refine Ad (Ac (Az ?_))
  refine BG H (fun s a w => Fr 19 [] [(0, v1), (1, .func (.func 85) #[] #[.pointer (some ⟨q_p1c0, 0, none⟩)]), (4, .int .i64 0), (7, .int .i64 (p0.length : Int)), (8, .int .i64 s)] a ∧ Stw ⟨Y, [], w0⟩ [] [] w) ⟨F.re ⟨rfl, Aa, Aa, Aa, Aa, trivial⟩, W⟩ fun s o a w H L2 hR => ?_
  obtain ⟨x1, rfl⟩ : ∃ x, x = s := ⟨s, rfl⟩
  obtain ⟨F, W⟩ := hR
  have F : Fr 19 [] [(0, v1), (1, .func (.func 85) #[] #[.pointer (some ⟨q_p1c0, 0, none⟩)]), (4, .int .i64 0), (7, .int .i64 (p0.length : Int)), (8, .int .i64 x1)] a := F
  have W : Stw ⟨Y, [], w0⟩ [] [] w := W
  rw [Bv] at H
  refine Ah (Ab ?_)
  refine ls F W Aa (Cu F Aa Aa).q fun a w F W => ?_
  refine Ad (Ac (Ah ?_))
  refine Aw F Aa (fun hb => ?_) fun hb => ?_
  ·
   have H := AV (Bg hb) H
   rw [hb] at F
   refine Ay (Ac (Ah (Az (Ah (Ab ?_)))))
   refine ls F W Aa (Ag F Aa).q fun a w F W => ?_
   refine ls F W Aa (Ae F Aa).q fun a w F W => ?_
   refine Ad (Ac (Ah (Ab ?_)))
   iterate 3 refine ls F W Aa (Ag F Aa).q fun a w F W => ?_
   obtain ⟨x2, h2, H⟩ := Am H
   obtain ⟨v3, h3, h4⟩ := Ez h1 h2
   have h5 : Hl v3 = [.int .i64 x2.un.1, .int .i64 x2.un.2.1, .int .i64 x2.un.2.2.1, (v3.2.2.2.1)] := congrArg (fun q : Tr36 => ([.int .i64 q.un.1, .int .i64 q.un.2.1, .int .i64 q.un.2.2.1, (v3.2.2.2.1)] : List Value)) h4
   refine ls F W Aa (AM (r := HW) Ps F Aa Aa (Aq h_v1) h3).q fun a w F W => ?_
   refine ls F W Aa (AA (y := Value.agg #[.int .i64 x2.un.1, .int .i64 x2.un.2.1, .int .i64 x2.un.2.2.1, (v3.2.2.2.1)]) (j := 0) (i := x1) (enc := Hl) F Aa Aa (Aq h_v1) h3 MD ER (by rw [h5]; rfl)).q fun a w F W => ?_
   refine ls F W Aa (I7 (ws := [.agg #[.int .i64 x2.un.1, .int .i64 x2.un.2.1, .int .i64 x2.un.2.2.1, (v3.2.2.2.1)], .pointer (some ⟨q_p1c0, 0, none⟩)]) (v := Value.bool (E4 x2 p1c0)) F YP Aa (fun w W => LT any w ((v3.2.2.2.1)) q_p1c0 x2 p1c0 _ Aa (((Cn (Aq h_v1) h3 (AC.snd (AC.snd (AC.snd AC.here))) (congrArg (fun q : Tr36 => q.un.2.2.2) h4)) : D1 _ _ _ _ _ _) w W).nx (At.re a_q_p1c0 W))) fun a w F W => ?_
   refine Ad (Ac ?_)
   refine Aw F Aa (fun hb => ?_) fun hb => ?_
   ·
    have H := AV hb H
    rw [hb] at F
    refine Ah (Ab ?_)
    refine ls F W Aa (Ag F Aa).q fun a w F W => ?_
    refine ls F W Aa (Ae F Aa).q fun a w F W => ?_
    refine Ad (Ac (Av (AQ ?_)))
    iterate 2 refine AN ?_
    refine AQ (AN ?_)
    have H := L2 _ H
    have H := L1 _ H
    have H := AP H
    subst H
    refine AJ (.inl Aa) F W Aa (AB F Aa) ?_
    exact ⟨rfl, W.done⟩
   have H := AR (by rw [hb]; decide) H
   rw [hb] at F
   refine Ay (AU (Ac (Ab ?_)))
   refine ls F W Aa (BL F Aa Aa Aa).q fun a w F W => ?_
   refine ls F W Aa (Ag F Aa).q fun a w F W => ?_
   refine Ad (Ac ?_)
   exact ⟨_, H, F.re ⟨rfl, Aa, Aa, Aa, Aa, trivial⟩, W⟩
  have H := AR (Bf hb) H
  rw [hb] at F
  refine Bz ?_
  iterate 2 refine BS ?_
  refine Bx (Ac ?_)
  have H := L2 _ H
  exact ⟨H, F.re ⟨rfl, trivial⟩, W⟩
 rintro a w ⟨hj, F, W⟩
 have H := K1 _ hj
 refine Ah (Ab ?_)
 refine ls F W Aa (Ae F Aa).q fun a w F W => ?_
 refine Ad (Ac (Av ?_))
 have H := AP H
 subst H
 refine AJ (.inl Aa) F W Aa (AB F Aa) ?_
 exact ⟨rfl, W.done⟩
theorem VH : Has Tryz.prog 110 := ⟨fun args w => Aj Tryz.func110 rfl (by decide) args w⟩
def BN (p0 : List Tr36) (p1c0 : Int) : Option Bool := (B0 p0 p1c0).bind fun x1 => some (decide (0 ≤ x1))
theorem Gm (Y : Nat → Prop) (w0 : World) (v1 : Value) (q_p1c0 : Nat) (p0 : List Tr36) (p1c0 : Int) (r : Bool) (H : BN p0 p1c0 = some r) (h_v1 : Sl w0 (NX []) BF v1 p0) (a_q_p1c0 : At ⟨Y, [], w0⟩ q_p1c0 0 [.int .i64 p1c0]) :
    Calls Tryz.prog 84 #[v1, .func (.func 85) #[] #[.pointer (some ⟨q_p1c0, 0, none⟩)]] w0 fun e w' => e = .returned (.bool r) ∧ Below w0.heap.size w0 w' := by
 refine enter Tryz.func84 Aa Tryz.ntmps84 Aa fun a F => ?_
 have W := Stw.start Y w0
 obtain ⟨v2, h1, h_v1⟩ := h_v1.ex BV
 unfold BN at H
 refine Ah (Ab ?_)
 refine ls F W Aa (Ae F Aa).q fun a w F W => ?_
 refine Ad (Ac (Ah (Ab ?_)))
 iterate 2 refine ls F W Aa (Ag F Aa).q fun a w F W => ?_
 obtain ⟨x1, h2, H⟩ := Am H
 refine ls F W Aa (A3 (v := Value.int .i64 x1) F VH Aa (fun w W => GS any w (v1) q_p1c0 p0 p1c0 _ h2 (((AH BV h1 (Aq h_v1)) : D1 _ _ _ _ _ _) w W).nx (At.re a_q_p1c0 W))) fun a w F W => ?_
 refine ls F W Aa (D4 F Aa Aa).q fun a w F W => ?_
 refine ls F W Aa (Ae F Aa).q fun a w F W => ?_
 refine Ad (Ac (Av ?_))
 have H := AP H
 subst H
 refine AJ (.inl Aa) F W Aa (AB F Aa) ?_
 exact ⟨rfl, W.done⟩
theorem W2 : Has Tryz.prog 84 := ⟨fun args w => Aj Tryz.func84 rfl (by decide) args w⟩
def Ej (p0 : Tr36) (p1 : Int) : Bool := decide (p0.un.1 ≠ p1)
theorem LS (Y : Nat → Prop) (w0 : World) (v1 : Value) (q_p1 : Nat) (p0 : Tr36) (p1 : Int) (r : Bool) (H : Ej p0 p1 = r) (h_v1 : Sl w0 (NX []) BF v1 p0.un.2.2.2) (a_q_p1 : At ⟨Y, [], w0⟩ q_p1 0 [.int .i64 p1]) :
    Calls Tryz.prog 87 #[.agg #[.int .i64 p0.un.1, .int .i64 p0.un.2.1, .int .i64 p0.un.2.2.1, v1], .pointer (some ⟨q_p1, 0, none⟩)] w0 fun e w' => e = .returned (.bool r) ∧ Below w0.heap.size w0 w' := by
 refine enter Tryz.func87 Aa Tryz.ntmps87 Aa fun a F => ?_
 have W := Stw.start Y w0
 obtain ⟨v2, h1, h_v1⟩ := h_v1.ex BV
 unfold Ej at H
 refine Ah (Ab ?_)
 refine CS (cs := [.int .i64 p0.un.1, .int .i64 p0.un.2.1, .int .i64 p0.un.2.2.1, v1]) F W Aa Aa Aa fun b1 a w F W => ?_
 refine ls F W Aa (Ae F Aa).q fun a w F W => ?_
 refine Ad (Ac (Ah (Ab ?_)))
 refine ls F W Aa (Ai Dt Aa Aa Aa T3 F Aa 0 Aa).q fun a w F W => ?_
 refine ls F W Aa (Ao (v := Value.int .i64 p0.un.1) 0 F Aa Aa T3 Aa).q fun a w F W => ?_
 refine ls F W Aa (IR (y := Value.int .i64 p1) (j := 0) F Aa (Nat.zero_add _).symm a_q_p1 T3 Aa).q fun a w F W => ?_
 refine ls F W Aa (Ip F Aa Aa).q fun a w F W => ?_
 refine ls F W Aa (Ae F Aa).q fun a w F W => ?_
 refine Ad (Ac (Av ?_))
 subst H
 refine AJ (.inl Aa) F W Aa (AB F Aa) ?_
 exact ⟨rfl, W.done⟩
theorem Yi : Has Tryz.prog 87 := ⟨fun args w => Aj Tryz.func87 rfl (by decide) args w⟩
def Dw (p0 : List Tr36) (p1c0 : Int) : (List Tr36 × Int) → Option ((List Tr36 × Int) ⊕ (List Tr36))
  | (x2, x3) => (if x3 < (p0.length : Int) then ((ix p0 x3).bind fun x5 => (if (Ej x5 p1c0) = true then (Ig x2 ([x5] : List Tr36)).bind fun x6 => some x6 else some x2)).bind fun x4 => some (.inl (x4, AG (x3 + 1))) else some (.inr x2))
def EZ (p0 : List Tr36) (p1c0 : Int) : Option (List Tr36) := (A6 (Dw p0 p1c0) ([], 0)).bind fun x1 => some x1
theorem Og (Y : Nat → Prop) (w0 : World) (v1 : Value) (q_p1c0 : Nat) (p0 : List Tr36) (p1c0 : Int) (r : List Tr36) (H : EZ p0 p1c0 = some r) (s_v1 : Sl w0 Y BF v1 p0) (a_q_p1c0 : At ⟨Y, [], w0⟩ q_p1c0 0 [.int .i64 p1c0]) :
    Calls Tryz.prog 86 #[v1, .func (.func 87) #[] #[.pointer (some ⟨q_p1c0, 0, none⟩)]] w0 fun e w' => ∃ x : Value, e = .returned (x) ∧ Stw ⟨Y, [], w0⟩ [] [row (x) 36 BF r] w' := by
 refine enter Tryz.func86 Aa Tryz.ntmps86 Aa fun a F => ?_
 have W := Stw.start Y w0
 obtain ⟨v2, h1, s_v1⟩ := s_v1.ex BV
 have h_v1 := W.nx s_v1
 unfold EZ at H
 refine Ah (Ab ?_)
 refine ls F W Aa (Ae F Aa).q fun a w F W => ?_
 refine Ad (Ac (Ah (Ab ?_)))
 refine ls F W Aa (Ae F Aa).q fun a w F W => ?_
 refine Ad (Ac ?_)
 obtain ⟨o1, G1, K1⟩ := Am H
 refine AO (fun a w => ∃ x1 : List Tr36, ∃ v3 : Value, some (x1) = some o1 ∧ Fr 23 [] [(4, .slice none 0 0), (5, v3)] a ∧ Stw ⟨Y, [], w0⟩ [] [row v3 36 BF x1] w) ?_ ?_
 ·
  have H := G1
  refine Ah (Ab ?_)
  refine ls F W Aa (Ag F Aa).q fun a w F W => ?_
  refine ls F W Aa (CA (r := BF) (l := p0) JW Aa F Aa (AH BV h1 (Aq h_v1))).q fun a w F W => ?_
  refine ls F W Aa (Ag F Aa).q fun a w F W => ?_
  refine Ad (Ac (Az ?_))
  have W := W.nilRow 36 BF
  refine BG H (fun s a w => ∃ v4 : Value, Fr 23 [] [(1, .func (.func 87) #[] #[.pointer (some ⟨q_p1c0, 0, none⟩)]), (4, .slice none 0 0), (5, v4), (8, v1), (9, .int .i64 (p0.length : Int)), (10, .int .i64 s.2)] a ∧ Stw ⟨Y, [], w0⟩ [] [row v4 36 BF s.1] w) ⟨(Value.slice none 0 0), F.re ⟨rfl, Aa, Aa, Aa, Aa, Aa, trivial⟩, W⟩ fun s o a w H L2 hR => ?_
  obtain ⟨x2, x3⟩ := s
  obtain ⟨v4, F, W⟩ := hR
  have F : Fr 23 [] [(1, .func (.func 87) #[] #[.pointer (some ⟨q_p1c0, 0, none⟩)]), (4, .slice none 0 0), (5, v4), (8, v1), (9, .int .i64 (p0.length : Int)), (10, .int .i64 x3)] a := F
  have W : Stw ⟨Y, [], w0⟩ [] [row v4 36 BF x2] w := W
  rw [Dw] at H
  refine Ah (Ab ?_)
  refine ls F W Aa (Cu F Aa Aa).q fun a w F W => ?_
  refine Ad (Ac (Ah ?_))
  refine Aw F Aa (fun hb => ?_) fun hb => ?_
  ·
   have H := AV (Bg hb) H
   rw [hb] at F
   refine Ay (Ac ?_)
   obtain ⟨o3, G3, K3⟩ := Am H
   refine AO (fun a w => ∃ x4 : List Tr36, ∃ v5 : Value, some (x4) = some o3 ∧ Fr 23 [] [(1, .func (.func 87) #[] #[.pointer (some ⟨q_p1c0, 0, none⟩)]), (4, .slice none 0 0), (5, v5), (8, v1), (9, .int .i64 (p0.length : Int)), (10, .int .i64 x3)] a ∧ Stw ⟨Y, [], w0⟩ [] [row v5 36 BF x4] w) ?_ ?_
   ·
    have H := G3
    refine Az (Ah ?_)
    obtain ⟨v6, h2, W⟩ := W.exR BV
    refine Ab ?_
    obtain ⟨x5, h3, H⟩ := Am H
    obtain ⟨v7, h4, h5⟩ := Ez h1 h3
    have h6 : Hl v7 = [.int .i64 x5.un.1, .int .i64 x5.un.2.1, .int .i64 x5.un.2.2.1, (v7.2.2.2.1)] := congrArg (fun q : Tr36 => ([.int .i64 q.un.1, .int .i64 q.un.2.1, .int .i64 q.un.2.2.1, (v7.2.2.2.1)] : List Value)) h5
    refine ls F W Aa (AM (r := HW) Ps F Aa Aa (Aq h_v1) h4).q fun a w F W => ?_
    refine ls F W Aa (AA (y := Value.agg #[.int .i64 x5.un.1, .int .i64 x5.un.2.1, .int .i64 x5.un.2.2.1, (v7.2.2.2.1)]) (j := 0) (i := x3) (enc := Hl) F Aa Aa (Aq h_v1) h4 MD ER (by rw [h6]; rfl)).q fun a w F W => ?_
    refine Co (cs := [.int .i64 0, .int .i64 0, .int .i64 0, .slice none 0 0]) F W Aa QT Aa fun b1 a w F W => ?_
    refine Be (vs := [.int .i64 x5.un.1, .int .i64 x5.un.2.1, .int .i64 x5.un.2.2.1, (v7.2.2.2.1)]) (M' := [(b1, [.int .i64 x5.un.1, .int .i64 x5.un.2.1, .int .i64 x5.un.2.2.1, (v7.2.2.2.1)])]) 0 F W Aa Aa Aa ER Aa Aa Aa (An Aa (An Aa (An Aa (An ((Cn (Aq h_v1) h4 (AC.snd (AC.snd (AC.snd AC.here))) (congrArg (fun q : Tr36 => q.un.2.2.2) h5)) _ W).one Cq)))) Aa fun w W => ?_
    refine Ad (Ac (Ah (Ab ?_)))
    refine ls F W Aa (Ag F Aa).q fun a w F W => ?_
    refine ls F W Aa (Ao (v := Value.agg #[.int .i64 x5.un.1, .int .i64 x5.un.2.1, .int .i64 x5.un.2.2.1, (v7.2.2.2.1)]) 0 F Aa Aa ER Aa).q fun a w F W => ?_
    refine ls F W Aa (I7 (ws := [.agg #[.int .i64 x5.un.1, .int .i64 x5.un.2.1, .int .i64 x5.un.2.2.1, (v7.2.2.2.1)], .pointer (some ⟨q_p1c0, 0, none⟩)]) (v := Value.bool (Ej x5 p1c0)) F Yi Aa (fun w W => LS any w ((v7.2.2.2.1)) q_p1c0 x5 p1c0 _ Aa (((Cn (Aq h_v1) h4 (AC.snd (AC.snd (AC.snd AC.here))) (congrArg (fun q : Tr36 => q.un.2.2.2) h5)) : D1 _ _ _ _ _ _) w W).nx (At.re a_q_p1c0 W))) fun a w F W => ?_
    refine Ad (Ac ?_)
    refine Aw F Aa (fun hb => ?_) fun hb => ?_
    ·
     have H := AV hb H
     rw [hb] at F
     refine Ab ?_
     refine ls F W Aa (Ag F Aa).q fun a w F W => ?_
     refine ls F W Aa (Ao (v := Value.agg #[.int .i64 x5.un.1, .int .i64 x5.un.2.1, .int .i64 x5.un.2.2.1, (v7.2.2.2.1)]) 0 F Aa Aa ER Aa).q fun a w F W => ?_
     refine Ke (z := Value.agg #[.int .i64 0, .int .i64 0, .int .i64 0, .slice none 0 0]) (cs := [.int .i64 x5.un.1, .int .i64 x5.un.2.1, .int .i64 x5.un.2.2.1, (v7.2.2.2.1)]) BF ([x5] : List Tr36) F W Aa Ps QT Aa Aa Aa (CR Aa Aa Aa Fp) Aa Aa ⟨[Value.int .i64 x5.un.1, Value.int .i64 x5.un.2.1, Value.int .i64 x5.un.2.2.1, (v7.2.2.2.1)], _, Aa, (Tp.2 ⟨[Value.int .i64 x5.un.1], [Value.int .i64 x5.un.2.1, Value.int .i64 x5.un.2.2.1, (v7.2.2.2.1)], Aa, Aa, ⟨[Value.int .i64 x5.un.2.1], [Value.int .i64 x5.un.2.2.1, (v7.2.2.2.1)], Aa, Aa, ⟨[Value.int .i64 x5.un.2.2.1], [(v7.2.2.2.1)], Aa, Aa, ⟨_, Aa, (Sl.at_ (W.old s_v1) h4 (AC.snd (AC.snd (AC.snd AC.here))) (congrArg (fun q : Tr36 => q.un.2.2.2) h5))⟩⟩⟩⟩), Aa⟩ fun v8 a w F W => ?_
     have W := W.frontZ (i := 1) Aa Aa
     have W := W.hideR BV h2
     obtain ⟨x6, h7, H⟩ := Am H
     refine Fm (r := BF) (i := 0) F W Aa Ps Aa Aa Aa Aa (GC W 1 Aa) h7 Aa fun v9 a w F W => ?_
     have W : Stw ⟨Y, [], w0⟩ [(b1, [.int .i64 x5.un.1, .int .i64 x5.un.2.1, .int .i64 x5.un.2.2.1, (v7.2.2.2.1)])] [row v9 36 BF x6, row v8 36 BF ([x5] : List Tr36)] w := W
     refine ls F W Aa (Ae F Aa).q fun a w F W => ?_
     refine Ad (AU (Ac ?_))
     have W := W.sub (M' := []) (Z' := [row v9 36 BF x6]) (List.nil_sublist _) (List.Sublist.cons_cons _ (List.nil_sublist _))
     exact ⟨_, (v9), H, F.re ⟨rfl, Aa, Aa, Aa, Aa, Aa, trivial⟩, W⟩
    have H := AR (by rw [hb]; decide) H
    rw [hb] at F
    refine Ay (AU (Ac ?_))
    have W := W.hideR BV h2
    have W := W.sub (M' := []) (Z' := [row v4 36 BF x2]) (List.nil_sublist _) (List.Sublist.refl _)
    exact ⟨_, (v4), H, F.re ⟨rfl, Aa, Aa, Aa, Aa, Aa, trivial⟩, W⟩
   rintro a w ⟨x4, v5, hj, F, W⟩
   have hj := AP hj
   subst hj
   have H := K3
   refine Ab ?_
   refine ls F W Aa (BL F Aa Aa Aa).q fun a w F W => ?_
   refine ls F W Aa (Ag F Aa).q fun a w F W => ?_
   refine Ad (Ac ?_)
   exact ⟨_, H, (v5), F.re ⟨rfl, Aa, Aa, Aa, Aa, Aa, trivial⟩, W⟩
  have H := AR (Bf hb) H
  rw [hb] at F
  refine Bz ?_
  iterate 2 refine BS ?_
  refine Bx (Ac ?_)
  have H := L2 _ H
  exact ⟨_, (v4), H, F.re ⟨rfl, Aa, trivial⟩, W⟩
 rintro a w ⟨x1, v3, hj, F, W⟩
 have hj := AP hj
 subst hj
 have H := K1
 refine Ah (Ab ?_)
 refine ls F W Aa (Ag F Aa).q fun a w F W => ?_
 refine ls F W Aa (Ae F Aa).q fun a w F W => ?_
 refine Ad (Ac (Av ?_))
 have H := AP H
 subst H
 refine AJ (.inl Aa) F W Aa (AB F Aa) ?_
 exact ⟨(v3), Aa, W⟩
theorem Yk : Has Tryz.prog 86 := ⟨fun args w => Aj Tryz.func86 rfl (by decide) args w⟩
def DI (p0 : Int) (p1 : List Tr36) (p2 : Int) (p3 : Int) : Option Tr36 := (BN p1 p3).bind fun x1 => (if x1 = true then some (Tr36.of (p3, 0, 0, ([] : List Tr36))) else (EZ p1 p2).bind fun x2 => (if (x2.length : Int) = 0 then some (Tr36.of (p2, 0, 0, ([] : List Tr36))) else (if (x2.length : Int) = 1 then (ix x2 0).bind fun x3 => some x3 else some (Tr36.of (p0, 0, 0, x2)))))
theorem J4 (Y : Nat → Prop) (w0 : World) (v1 : Value) (p0 : Int) (p1 : List Tr36) (p2 : Int) (p3 : Int) (r : Tr36) (H : DI p0 p1 p2 p3 = some r) (s_v1 : Sl w0 Y BF v1 p1) :
    Calls Tryz.prog 52 #[.int .i64 p0, v1, .int .i64 p2, .int .i64 p3] w0 fun e w' => ∃ x : Value, e = .returned (.agg #[.int .i64 r.un.1, .int .i64 r.un.2.1, .int .i64 r.un.2.2.1, x]) ∧ Stw ⟨Y, [], w0⟩ [] [DE (x) BF r.un.2.2.2] w' := by
 refine enter Tryz.func52 Aa Tryz.ntmps52 Aa fun a F => ?_
 have W := Stw.start Y w0
 obtain ⟨v2, h1, s_v1⟩ := s_v1.ex BV
 have h_v1 := W.nx s_v1
 unfold DI at H
 refine Ah (Ab ?_)
 refine CS (cs := [.int .i64 p2]) F W Aa Aa Aa fun b1 a w F W => ?_
 refine CS (cs := [.int .i64 p3]) F W Aa Aa Aa fun b2 a w F W => ?_
 refine Co (cs := [.int .i64 0, .int .i64 0, .int .i64 0, .slice none 0 0]) F W Aa QT Aa fun b3 a w F W => ?_
 refine Ad (Ac (Ah (Ah (Ab ?_))))
 refine ls F W Aa (Ag F Aa).q fun a w F W => ?_
 refine ls F W Aa (GX (us := []) (vs := [.pointer (some ⟨b2, 0, none⟩)]) F Aa Aa).q fun a w F W => ?_
 obtain ⟨x1, h2, H⟩ := Am H
 refine ls F W Aa (A3 (v := Value.bool x1) F W2 Aa (fun w W => Gm any w (v1) b2 p1 p3 _ h2 (((AH BV h1 (Aq h_v1)) : D1 _ _ _ _ _ _) w W).nx (TE W 1 Aa))) fun a w F W => ?_
 refine Ad (Ac ?_)
 refine Aw F Aa (fun hb => ?_) fun hb => ?_
 ·
  have H := AV hb H
  rw [hb] at F
  refine Ah (Ab ?_)
  refine ls F W Aa (Ao (v := Value.int .i64 p3) 1 F Aa Aa T3 Aa).q fun a w F W => ?_
  refine ls F W Aa (De (v := Value.agg #[.int .i64 p3, .int .i64 0, .int .i64 0, .slice none 0 0]) UB F Aa Aa Aa).q fun a w F W => ?_
  refine Be (vs := [.int .i64 p3, .int .i64 0, .int .i64 0, .slice none 0 0]) (M' := [(b3, [.int .i64 p3, .int .i64 0, .int .i64 0, .slice none 0 0]), (b2, [.int .i64 p3]), (b1, [.int .i64 p2])]) 0 F W Aa Aa Aa ER Aa Aa Aa Aa Aa fun w W => ?_
  refine Ad (Ac (Av (AN ?_)))
  have H := AP H
  subst H
  refine AJ (.inl Aa) F W Aa (Dy 0 F Aa Aa ER Aa) ?_
  have W := W.note (Sl.nil (r := BF))
  have W := W.sub (M' := []) (Z' := [DE (Value.slice none 0 0) BF ([])]) (List.nil_sublist _) (List.Sublist.refl _)
  exact ⟨(Value.slice none 0 0), Aa, W⟩
 have H := AR (by rw [hb]; decide) H
 rw [hb] at F
 refine Ay (Ac (Ah (Ab ?_)))
 refine ls F W Aa (Ag F Aa).q fun a w F W => ?_
 refine ls F W Aa (GX (us := []) (vs := [.pointer (some ⟨b1, 0, none⟩)]) F Aa Aa).q fun a w F W => ?_
 obtain ⟨x2, h3, H⟩ := Am H
 refine Bj (Ml := []) (Zl := []) (M := [(b3, [.int .i64 0, .int .i64 0, .int .i64 0, .slice none 0 0]), (b2, [.int .i64 p3]), (b1, [.int .i64 p2])]) (Z := []) (β := Value) (rv := fun x => x) (MM := fun x => []) (ZZ := fun x => [row x 36 BF x2]) F W Yk Aa Aa (fun hL => Og _ w (v1) b1 p1 p2 _ h3 (Sl.hide BV h1 (W.old s_v1)) (TE W 2 Aa)) fun x a w F W => ?_
 obtain ⟨v3, rfl⟩ : ∃ y, y = x := ⟨x, rfl⟩
 have W : Stw ⟨Y, [], w0⟩ [(b3, [.int .i64 0, .int .i64 0, .int .i64 0, .slice none 0 0]), (b2, [.int .i64 p3]), (b1, [.int .i64 p2])] [row v3 36 BF x2] w := W
 refine ls F W Aa (Ae F Aa).q fun a w F W => ?_
 refine Ad (Ac (Ah (Ah (Ab ?_))))
 refine ls F W Aa (Ag F Aa).q fun a w F W => ?_
 refine ls F W Aa (CA (r := BF) (l := x2) JW Aa F Aa (Au 0 Aa)).q fun a w F W => ?_
 refine Ad (Ac (Az (Ah (Ab ?_))))
 refine ls F W Aa (A7 F Aa Aa).q fun a w F W => ?_
 refine ls F W Aa (Ae F Aa).q fun a w F W => ?_
 refine Ad (Ac ?_)
 refine Aw F Aa (fun hb => ?_) fun hb => ?_
 ·
  have H := AV (Bg hb) H
  rw [hb] at F
  refine Ah (Ab ?_)
  refine ls F W Aa (Ao (v := Value.int .i64 p2) 2 F Aa Aa T3 Aa).q fun a w F W => ?_
  refine ls F W Aa (De (v := Value.agg #[.int .i64 p2, .int .i64 0, .int .i64 0, .slice none 0 0]) UB F Aa Aa Aa).q fun a w F W => ?_
  refine Be (vs := [.int .i64 p2, .int .i64 0, .int .i64 0, .slice none 0 0]) (M' := [(b3, [.int .i64 p2, .int .i64 0, .int .i64 0, .slice none 0 0]), (b2, [.int .i64 p3]), (b1, [.int .i64 p2])]) 0 F W Aa Aa Aa ER Aa Aa Aa Aa Aa fun w W => ?_
  refine Ad (Ac (Av (AQ (AN ?_))))
  have H := AP H
  subst H
  refine AJ (.inl Aa) F W Aa (Dy 0 F Aa Aa ER Aa) ?_
  have W := W.note (Sl.nil (r := BF))
  have W := W.sub (M' := []) (Z' := [DE (Value.slice none 0 0) BF ([])]) (List.nil_sublist _) (List.Sublist.cons_cons _ (List.nil_sublist _))
  exact ⟨(Value.slice none 0 0), Aa, W⟩
 have H := AR (Bf hb) H
 rw [hb] at F
 refine Ah (Ab ?_)
 refine ls F W Aa (A7 F Aa Aa).q fun a w F W => ?_
 refine ls F W Aa (Ae F Aa).q fun a w F W => ?_
 refine Ad (Ac ?_)
 refine Aw F Aa (fun hb => ?_) fun hb => ?_
 ·
  have H := AV (Bg hb) H
  rw [hb] at F
  refine Ah ?_
  obtain ⟨v4, h4, W⟩ := W.exR BV
  refine Ab ?_
  refine ls F W Aa (Ag F Aa).q fun a w F W => ?_
  obtain ⟨x3, h5, H⟩ := Am H
  obtain ⟨v5, h6, h7⟩ := Ez h4 h5
  have h8 : Hl v5 = [.int .i64 x3.un.1, .int .i64 x3.un.2.1, .int .i64 x3.un.2.2.1, (v5.2.2.2.1)] := congrArg (fun q : Tr36 => ([.int .i64 q.un.1, .int .i64 q.un.2.1, .int .i64 q.un.2.2.1, (v5.2.2.2.1)] : List Value)) h7
  refine ls F W Aa (AM (r := HW) Ps F Aa Aa (Au 0 Aa) h6).q fun a w F W => ?_
  refine ls F W Aa (AA (y := Value.agg #[.int .i64 x3.un.1, .int .i64 x3.un.2.1, .int .i64 x3.un.2.2.1, (v5.2.2.2.1)]) (j := 0) (i := 0) (enc := Hl) F Aa Aa (Au 0 Aa) h6 MD ER (by rw [h8]; rfl)).q fun a w F W => ?_
  have W := W.note (W.rowAt (k := 0) Aa h6 (AC.snd (AC.snd (AC.snd AC.here))) (congrArg (fun q : Tr36 => q.un.2.2.2) h7))
  refine Be (vs := [.int .i64 x3.un.1, .int .i64 x3.un.2.1, .int .i64 x3.un.2.2.1, (v5.2.2.2.1)]) (M' := [(b3, [.int .i64 x3.un.1, .int .i64 x3.un.2.1, .int .i64 x3.un.2.2.1, (v5.2.2.2.1)]), (b2, [.int .i64 p3]), (b1, [.int .i64 p2])]) 0 F W Aa Aa Aa ER Aa Aa Aa (An Aa (An Aa (An Aa (An (W.oneF (k := 0) Aa) Cq)))) Aa fun w W => ?_
  refine Ad (Ac (Av (AQ (AN ?_))))
  have H := AP H
  subst H
  refine AJ (.inl Aa) F W Aa (Dy 0 F Aa Aa ER Aa) ?_
  have W := W.sub (M' := []) (Z' := [DE (v5.2.2.2.1) BF x3.un.2.2.2]) (List.nil_sublist _) (List.Sublist.cons_cons _ (List.nil_sublist _))
  exact ⟨((v5.2.2.2.1)), Aa, W⟩
 have H := AR (Bf hb) H
 rw [hb] at F
 refine Ay (AU (Ac (Ah (Ab ?_))))
 iterate 2 refine ls F W Aa (Ag F Aa).q fun a w F W => ?_
 refine ls F W Aa (De (v := Value.agg #[.int .i64 p0, .int .i64 0, .int .i64 0, v3]) UB F Aa (CR Aa Aa Aa (CR Aa (JK (W.one (k := 0) Aa)) Aa Fp)) Aa).q fun a w F W => ?_
 refine Be (vs := [.int .i64 p0, .int .i64 0, .int .i64 0, v3]) (M' := [(b3, [.int .i64 p0, .int .i64 0, .int .i64 0, v3]), (b2, [.int .i64 p3]), (b1, [.int .i64 p2])]) 0 F W Aa Aa Aa ER Aa Aa Aa (An Aa (An Aa (An Aa (An (W.one (k := 0) Aa) Cq)))) Aa fun w W => ?_
 refine Ad (Ac (Av ?_))
 have H := AP H
 subst H
 refine AJ (.inl Aa) F W Aa (Dy 0 F Aa Aa ER Aa) ?_
 have W := W.freeze
 have W := W.sub (M' := []) (Z' := [DE v3 BF x2]) (List.nil_sublist _) (List.Sublist.refl _)
 exact ⟨(v3), Aa, W⟩
theorem XJ : Has Tryz.prog 52 := ⟨fun args w => Aj Tryz.func52 rfl (by decide) args w⟩
def Eo (fRec : Tr36 → Int → Option Tr36) (p0 : Tr36) (p1 : Int) : Option Tr36 := ((Ep fRec) p0.un.2.2.2 p1).bind fun x1 => Je (if p0.un.1 = 3 then (if p0.un.2.1 = 5 then some (.inr (Tr36.of ((AF (decide (p0.un.2.2.1 = p1))).un.1, (AF (decide (p0.un.2.2.1 = p1))).un.2.1, (AF (decide (p0.un.2.2.1 = p1))).un.2.2.1, (AF (decide (p0.un.2.2.1 = p1))).un.2.2.2))) else some (.inl ())) else (if p0.un.1 = 4 then (if (x1.length : Int) = 1 then (ix x1 0).bind fun x3 => some (decide (x3.un.1 = 1)) else some false).bind fun x2 => (if x2 = true then some (.inr (Tr36.of ((AF false).un.1, (AF false).un.2.1, (AF false).un.2.2.1, (AF false).un.2.2.2))) else (if (x1.length : Int) = 1 then (ix x1 0).bind fun x5 => some (decide (x5.un.1 = 2)) else some false).bind fun x4 => (if x4 = true then some (.inr (Tr36.of ((AF true).un.1, (AF true).un.2.1, (AF true).un.2.2.1, (AF true).un.2.2.2))) else some (.inl ()))) else (if p0.un.1 = 5 then (DI p0.un.1 x1 1 2).bind fun x6 => some (.inr x6) else (if p0.un.1 = 6 then (DI p0.un.1 x1 2 1).bind fun x7 => some (.inr x7) else some (.inl ()))))) fun _ => some (Tr36.of (p0.un.1, p0.un.2.1, p0.un.2.2.1, x1))
def Dv : Nat → Tr36 → Int → Option Tr36
  | 0 => fun _ _ => none
  | n + 1 => Eo (Dv n)
def KQ (p0 : Tr36) (p1 : Int) : Option Tr36 := Jl fun n => Dv n p0 p1
theorem QB (fRec : Tr36 → Int → Option Tr36) (ih : ∀ (Y : Nat → Prop) (w0 : World) (v1 : Value) (p0 : Tr36) (p1 : Int) (r : Tr36) (H : fRec p0 p1 = some r) (h_v1 : Sl w0 (NX []) BF v1 p0.un.2.2.2), Calls Tryz.prog 22 #[.agg #[.int .i64 p0.un.1, .int .i64 p0.un.2.1, .int .i64 p0.un.2.2.1, v1], .int .i64 p1] w0 fun e w' => ∃ x : Value, e = .returned (.agg #[.int .i64 r.un.1, .int .i64 r.un.2.1, .int .i64 r.un.2.2.1, x]) ∧ Stw ⟨Y, [], w0⟩ [] [DE (x) BF r.un.2.2.2] w') (Y : Nat → Prop) (w0 : World) (v1 : Value) (p0 : Tr36) (p1 : Int) (r : Tr36) (H : Eo fRec p0 p1 = some r) (h_v1 : Sl w0 (NX []) BF v1 p0.un.2.2.2) :
    Calls Tryz.prog 22 #[.agg #[.int .i64 p0.un.1, .int .i64 p0.un.2.1, .int .i64 p0.un.2.2.1, v1], .int .i64 p1] w0 fun e w' => ∃ x : Value, e = .returned (.agg #[.int .i64 r.un.1, .int .i64 r.un.2.1, .int .i64 r.un.2.2.1, x]) ∧ Stw ⟨Y, [], w0⟩ [] [DE (x) BF r.un.2.2.2] w' := by
 refine enter Tryz.func22 Aa Tryz.ntmps22 Aa fun a F => ?_
 have W := Stw.start Y w0
 obtain ⟨v2, h1, h_v1⟩ := h_v1.ex BV
 unfold Eo at H
 refine Ah (Ab ?_)
 refine CS (cs := [.int .i64 p0.un.1, .int .i64 p0.un.2.1, .int .i64 p0.un.2.2.1, v1]) F W Aa Aa Aa fun b1 a w F W => ?_
 refine Co (cs := [.int .i64 0, .int .i64 0, .int .i64 0, .slice none 0 0]) F W Aa QT Aa fun b2 a w F W => ?_
 refine Ad (Ac (Ah (Ab ?_)))
 refine ls F W Aa (Ai Dt Aa Aa Aa Kg F Aa 3 Aa).q fun a w F W => ?_
 refine ls F W Aa (Ao (v := v1) 1 F Aa Aa Kg Aa).q fun a w F W => ?_
 refine ls F W Aa (Ag F Aa).q fun a w F W => ?_
 obtain ⟨x1, h2, H⟩ := Am H
 refine Bj (Ml := []) (Zl := []) (M := [(b2, [.int .i64 0, .int .i64 0, .int .i64 0, .slice none 0 0]), (b1, [.int .i64 p0.un.1, .int .i64 p0.un.2.1, .int .i64 p0.un.2.2.1, v1])]) (Z := []) (β := Value) (rv := fun x => x) (MM := fun x => []) (ZZ := fun x => [row x 36 BF x1]) F W YO Aa Aa (fun hL => (PP fRec ih) _ w (v1) p0.un.2.2.2 p1 _ h2 ((AH BV h1 (Aq h_v1)) w W).nx) fun x a w F W => ?_
 obtain ⟨v3, rfl⟩ : ∃ y, y = x := ⟨x, rfl⟩
 have W : Stw ⟨Y, [], w0⟩ [(b2, [.int .i64 0, .int .i64 0, .int .i64 0, .slice none 0 0]), (b1, [.int .i64 p0.un.1, .int .i64 p0.un.2.1, .int .i64 p0.un.2.2.1, v1])] [row v3 36 BF x1] w := W
 refine ls F W Aa (Ae F Aa).q fun a w F W => ?_
 refine Ad (Ac ?_)
 obtain ⟨o1, G1, K1, L1⟩ := PQ H
 refine AO (fun a w => some (Sum.inl ()) = some o1 ∧ Fr 66 [] [(2, .pointer (some ⟨b1, 0, none⟩)), (4, .pointer (some ⟨b2, 0, none⟩)), (5, v3)] a ∧ Stw ⟨Y, [], w0⟩ [(b2, [.int .i64 0, .int .i64 0, .int .i64 0, .slice none 0 0]), (b1, [.int .i64 p0.un.1, .int .i64 p0.un.2.1, .int .i64 p0.un.2.2.1, v1])] [row v3 36 BF x1] w) ?_ ?_
 ·
  have H := G1
  refine Ah (Ab ?_)
  refine ls F W Aa (Ai Dt Aa Aa Aa T3 F Aa 0 Aa).q fun a w F W => ?_
  refine ls F W Aa (Ao (v := Value.int .i64 p0.un.1) 1 F Aa Aa T3 Aa).q fun a w F W => ?_
  refine Ad (Ac (Az (Ah (Ab ?_))))
  refine ls F W Aa (A7 F Aa Aa).q fun a w F W => ?_
  refine ls F W Aa (Ae F Aa).q fun a w F W => ?_
  refine Ad (Ac ?_)
  refine Aw F Aa (fun hb => ?_) fun hb => ?_
  ·
   have H := AV (Bg hb) H
   rw [hb] at F
   refine Ah (Ab ?_)
   refine ls F W Aa (Ai Dt Aa Aa Aa T3 F Aa 1 Aa).q fun a w F W => ?_
   refine ls F W Aa (Ao (v := Value.int .i64 p0.un.2.1) 1 F Aa Aa T3 Aa).q fun a w F W => ?_
   refine ls F W Aa (A7 F Aa Aa).q fun a w F W => ?_
   refine Ad (Ac ?_)
   refine Aw F Aa (fun hb => ?_) fun hb => ?_
   ·
    have H := AV (Bg hb) H
    rw [hb] at F
    refine Ah (Ab ?_)
    refine ls F W Aa (Ai Dt Aa Aa Aa T3 F Aa 2 Aa).q fun a w F W => ?_
    refine ls F W Aa (Ao (v := Value.int .i64 p0.un.2.2.1) 1 F Aa Aa T3 Aa).q fun a w F W => ?_
    refine ls F W Aa (Ag F Aa).q fun a w F W => ?_
    refine ls F W Aa (A7 F Aa Aa).q fun a w F W => ?_
    refine Bj (Ml := []) (Zl := []) (M := [(b2, [.int .i64 0, .int .i64 0, .int .i64 0, .slice none 0 0]), (b1, [.int .i64 p0.un.1, .int .i64 p0.un.2.1, .int .i64 p0.un.2.2.1, v1])]) (Z := [row v3 36 BF x1]) (β := Value) (rv := fun x => .agg #[.int .i64 ((AF (decide (p0.un.2.2.1 = p1))).un.1), .int .i64 ((AF (decide (p0.un.2.2.1 = p1))).un.2.1), .int .i64 ((AF (decide (p0.un.2.2.1 = p1))).un.2.2.1), x]) (MM := fun x => []) (ZZ := fun x => [row x 36 BF ((AF (decide (p0.un.2.2.1 = p1))).un.2.2.2)]) F W W6 Aa Aa (fun hL => Kn _ w (decide (p0.un.2.2.1 = p1)) _ Aa) fun x a w F W => ?_
    obtain ⟨v4, rfl⟩ : ∃ y, y = x := ⟨x, rfl⟩
    have W : Stw ⟨Y, [], w0⟩ [(b2, [.int .i64 0, .int .i64 0, .int .i64 0, .slice none 0 0]), (b1, [.int .i64 p0.un.1, .int .i64 p0.un.2.1, .int .i64 p0.un.2.2.1, v1])] [row v4 36 BF ((AF (decide (p0.un.2.2.1 = p1))).un.2.2.2), row v3 36 BF x1] w := W
    refine Be (vs := [.int .i64 ((AF (decide (p0.un.2.2.1 = p1))).un.1), .int .i64 ((AF (decide (p0.un.2.2.1 = p1))).un.2.1), .int .i64 ((AF (decide (p0.un.2.2.1 = p1))).un.2.2.1), v4]) (M' := [(b2, [.int .i64 ((AF (decide (p0.un.2.2.1 = p1))).un.1), .int .i64 ((AF (decide (p0.un.2.2.1 = p1))).un.2.1), .int .i64 ((AF (decide (p0.un.2.2.1 = p1))).un.2.2.1), v4]), (b1, [.int .i64 p0.un.1, .int .i64 p0.un.2.1, .int .i64 p0.un.2.2.1, v1])]) 0 F W Aa Aa Aa ER Aa Aa Aa (An Aa (An Aa (An Aa (An (W.one (k := 0) Aa) Cq)))) Aa fun w W => ?_
    refine Ad (Ac (Av (AQ (AN ?_))))
    have H := L1 _ H
    have H := AP H
    subst H
    refine AJ (.inl Aa) F W Aa (Dy 0 F Aa Aa ER Aa) ?_
    have W := W.freeze
    have W := W.sub (M' := []) (Z' := [DE v4 BF ((AF (decide (p0.un.2.2.1 = p1))).un.2.2.2)]) (List.nil_sublist _) (List.Sublist.cons_cons _ (List.nil_sublist _))
    exact ⟨(v4), Aa, W⟩
   have H := AR (Bf hb) H
   rw [hb] at F
   refine Ay (AU (Ac ?_))
   have W := W.frontM (i := 1) Aa Aa
   have W := W.frontM (i := 1) Aa Aa
   exact ⟨H, F.re ⟨rfl, Aa, Aa, trivial⟩, W⟩
  have H := AR (Bf hb) H
  rw [hb] at F
  refine Ah (Ab ?_)
  refine ls F W Aa (A7 F Aa Aa).q fun a w F W => ?_
  refine ls F W Aa (Ae F Aa).q fun a w F W => ?_
  refine Ad (Ac ?_)
  refine Aw F Aa (fun hb => ?_) fun hb => ?_
  ·
   have H := AV (Bg hb) H
   rw [hb] at F
   refine Ah ?_
   obtain ⟨o2, G2, K2⟩ := Am H
   refine AO (fun a w => ∃ x2 : Bool, some (x2) = some o2 ∧ Fr 66 [] [(2, .pointer (some ⟨b1, 0, none⟩)), (4, .pointer (some ⟨b2, 0, none⟩)), (5, v3), (33, .bool x2)] a ∧ Stw ⟨Y, [], w0⟩ [(b2, [.int .i64 0, .int .i64 0, .int .i64 0, .slice none 0 0]), (b1, [.int .i64 p0.un.1, .int .i64 p0.un.2.1, .int .i64 p0.un.2.2.1, v1])] [row v3 36 BF x1] w) ?_ ?_
   ·
    have H := G2
    obtain ⟨v5, h3, W⟩ := W.exR BV
    refine Ab ?_
    refine ls F W Aa (Ag F Aa).q fun a w F W => ?_
    refine ls F W Aa (CA (r := BF) (l := x1) JW Aa F Aa (AH BV h3 (Au 0 Aa))).q fun a w F W => ?_
    refine ls F W Aa (A7 F Aa Aa).q fun a w F W => ?_
    refine ls F W Aa (Ag F Aa).q fun a w F W => ?_
    rcases bxq (decide ((x1.length : Int) = 1)) with hb | hb
    ·
     have H := AV (Bg hb) H
     rw [hb] at F
     refine AK F W (Af F Aa Aa Aa Aa) Aa (Ak Aa) (Ag F Aa).q fun a w F W => ?_
     obtain ⟨x3, h4, H⟩ := Am H
     obtain ⟨v6, h5, h6⟩ := Ez h3 h4
     have h7 : Hl v6 = [.int .i64 x3.un.1, .int .i64 x3.un.2.1, .int .i64 x3.un.2.2.1, (v6.2.2.2.1)] := congrArg (fun q : Tr36 => ([.int .i64 q.un.1, .int .i64 q.un.2.1, .int .i64 q.un.2.2.1, (v6.2.2.2.1)] : List Value)) h6
     refine AK F W (Af F Aa Aa Aa Aa) Aa (Ak Aa) (AM (r := HW) Ps F Aa Aa (Au 0 Aa) h5).q fun a w F W => ?_
     refine AK F W (Af F Aa Aa Aa Aa) Aa (Ak Aa) (Ai Dt Aa Aa Aa T3 F Aa (Nf v3 + (0 : Int).toNat * 4) Aa).q fun a w F W => ?_
     refine AK F W (Af F Aa Aa Aa Aa) Aa (Ak Aa) (AA (y := Value.int .i64 x3.un.1) (j := 0) (i := 0) (enc := Hl) F Aa Aa (Au 0 Aa) h5 MD T3 (by rw [h7]; rfl)).q fun a w F W => ?_
     refine AK F W (Af F Aa Aa Aa Aa) Aa (Ak Aa) (A7 F Aa Aa).q fun a w F W => ?_
     refine ls F W Aa (Ax F Aa Aa Aa).q fun a w F W => ?_
     refine Ad (Ac ?_)
     have W := W.hideR BV h3
     have W := W.frontM (i := 1) Aa Aa
     have W := W.frontM (i := 1) Aa Aa
     exact ⟨_, H, F.re ⟨rfl, Aa, Aa, Aa, trivial⟩, W⟩
    have H := AR (Bf hb) H
    rw [hb] at F
    iterate 5 refine Dz F Aa Aa Aa Aa Aa Aa Aa fun a F => ?_
    refine ls F W Aa (As F Aa Aa Aa).q fun a w F W => ?_
    refine Ad (Ac ?_)
    have W := W.hideR BV h3
    have W := W.frontM (i := 1) Aa Aa
    have W := W.frontM (i := 1) Aa Aa
    exact ⟨_, H, F.re ⟨rfl, Aa, Aa, Aa, trivial⟩, W⟩
   rintro a w ⟨x2, hj, F, W⟩
   have hj := AP hj
   subst hj
   have H := K2
   refine Aw F Aa (fun hb => ?_) fun hb => ?_
   ·
    have H := AV hb H
    rw [hb] at F
    refine Ah (Ab ?_)
    refine Bj (Ml := []) (Zl := []) (M := [(b2, [.int .i64 0, .int .i64 0, .int .i64 0, .slice none 0 0]), (b1, [.int .i64 p0.un.1, .int .i64 p0.un.2.1, .int .i64 p0.un.2.2.1, v1])]) (Z := [row v3 36 BF x1]) (β := Value) (rv := fun x => .agg #[.int .i64 ((AF false).un.1), .int .i64 ((AF false).un.2.1), .int .i64 ((AF false).un.2.2.1), x]) (MM := fun x => []) (ZZ := fun x => [row x 36 BF ((AF false).un.2.2.2)]) F W W6 Aa Aa (fun hL => Kn _ w false _ Aa) fun x a w F W => ?_
    obtain ⟨v7, rfl⟩ : ∃ y, y = x := ⟨x, rfl⟩
    have W : Stw ⟨Y, [], w0⟩ [(b2, [.int .i64 0, .int .i64 0, .int .i64 0, .slice none 0 0]), (b1, [.int .i64 p0.un.1, .int .i64 p0.un.2.1, .int .i64 p0.un.2.2.1, v1])] [row v7 36 BF ((AF false).un.2.2.2), row v3 36 BF x1] w := W
    refine Be (vs := [.int .i64 ((AF false).un.1), .int .i64 ((AF false).un.2.1), .int .i64 ((AF false).un.2.2.1), v7]) (M' := [(b2, [.int .i64 ((AF false).un.1), .int .i64 ((AF false).un.2.1), .int .i64 ((AF false).un.2.2.1), v7]), (b1, [.int .i64 p0.un.1, .int .i64 p0.un.2.1, .int .i64 p0.un.2.2.1, v1])]) 0 F W Aa Aa Aa ER Aa Aa Aa (An Aa (An Aa (An Aa (An (W.one (k := 0) Aa) Cq)))) Aa fun w W => ?_
    refine Ad (Ac (Av (AN (AQ (AN ?_)))))
    have H := L1 _ H
    have H := AP H
    subst H
    refine AJ (.inl Aa) F W Aa (Dy 0 F Aa Aa ER Aa) ?_
    have W := W.freeze
    have W := W.sub (M' := []) (Z' := [DE v7 BF ((AF false).un.2.2.2)]) (List.nil_sublist _) (List.Sublist.cons_cons _ (List.nil_sublist _))
    exact ⟨(v7), Aa, W⟩
   have H := AR (by rw [hb]; decide) H
   rw [hb] at F
   refine Ay (Ac ?_)
   obtain ⟨o3, G3, K3⟩ := Am H
   refine AO (fun a w => ∃ x4 : Bool, some (x4) = some o3 ∧ Fr 66 [] [(2, .pointer (some ⟨b1, 0, none⟩)), (4, .pointer (some ⟨b2, 0, none⟩)), (5, v3), (44, .bool x4)] a ∧ Stw ⟨Y, [], w0⟩ [(b2, [.int .i64 0, .int .i64 0, .int .i64 0, .slice none 0 0]), (b1, [.int .i64 p0.un.1, .int .i64 p0.un.2.1, .int .i64 p0.un.2.2.1, v1])] [row v3 36 BF x1] w) ?_ ?_
   ·
    have H := G3
    obtain ⟨v8, h8, W⟩ := W.exR BV
    refine Ab ?_
    refine ls F W Aa (Ag F Aa).q fun a w F W => ?_
    refine ls F W Aa (CA (r := BF) (l := x1) JW Aa F Aa (AH BV h8 (Au 0 Aa))).q fun a w F W => ?_
    refine ls F W Aa (A7 F Aa Aa).q fun a w F W => ?_
    refine ls F W Aa (Ag F Aa).q fun a w F W => ?_
    rcases bxq (decide ((x1.length : Int) = 1)) with hb | hb
    ·
     have H := AV (Bg hb) H
     rw [hb] at F
     refine AK F W (Af F Aa Aa Aa Aa) Aa (Ak Aa) (Ag F Aa).q fun a w F W => ?_
     obtain ⟨x5, h9, H⟩ := Am H
     obtain ⟨v9, h10, h11⟩ := Ez h8 h9
     have h12 : Hl v9 = [.int .i64 x5.un.1, .int .i64 x5.un.2.1, .int .i64 x5.un.2.2.1, (v9.2.2.2.1)] := congrArg (fun q : Tr36 => ([.int .i64 q.un.1, .int .i64 q.un.2.1, .int .i64 q.un.2.2.1, (v9.2.2.2.1)] : List Value)) h11
     refine AK F W (Af F Aa Aa Aa Aa) Aa (Ak Aa) (AM (r := HW) Ps F Aa Aa (Au 0 Aa) h10).q fun a w F W => ?_
     refine AK F W (Af F Aa Aa Aa Aa) Aa (Ak Aa) (Ai Dt Aa Aa Aa T3 F Aa (Nf v3 + (0 : Int).toNat * 4) Aa).q fun a w F W => ?_
     refine AK F W (Af F Aa Aa Aa Aa) Aa (Ak Aa) (AA (y := Value.int .i64 x5.un.1) (j := 0) (i := 0) (enc := Hl) F Aa Aa (Au 0 Aa) h10 MD T3 (by rw [h12]; rfl)).q fun a w F W => ?_
     refine AK F W (Af F Aa Aa Aa Aa) Aa (Ak Aa) (A7 F Aa Aa).q fun a w F W => ?_
     refine ls F W Aa (Ax F Aa Aa Aa).q fun a w F W => ?_
     refine Ad (Ac ?_)
     have W := W.hideR BV h8
     have W := W.frontM (i := 1) Aa Aa
     have W := W.frontM (i := 1) Aa Aa
     exact ⟨_, H, F.re ⟨rfl, Aa, Aa, Aa, trivial⟩, W⟩
    have H := AR (Bf hb) H
    rw [hb] at F
    iterate 5 refine Dz F Aa Aa Aa Aa Aa Aa Aa fun a F => ?_
    refine ls F W Aa (As F Aa Aa Aa).q fun a w F W => ?_
    refine Ad (Ac ?_)
    have W := W.hideR BV h8
    have W := W.frontM (i := 1) Aa Aa
    have W := W.frontM (i := 1) Aa Aa
    exact ⟨_, H, F.re ⟨rfl, Aa, Aa, Aa, trivial⟩, W⟩
   rintro a w ⟨x4, hj, F, W⟩
   have hj := AP hj
   subst hj
   have H := K3
   refine Aw F Aa (fun hb => ?_) fun hb => ?_
   ·
    have H := AV hb H
    rw [hb] at F
    refine Ah (Ab ?_)
    refine Bj (Ml := []) (Zl := []) (M := [(b2, [.int .i64 0, .int .i64 0, .int .i64 0, .slice none 0 0]), (b1, [.int .i64 p0.un.1, .int .i64 p0.un.2.1, .int .i64 p0.un.2.2.1, v1])]) (Z := [row v3 36 BF x1]) (β := Value) (rv := fun x => .agg #[.int .i64 ((AF true).un.1), .int .i64 ((AF true).un.2.1), .int .i64 ((AF true).un.2.2.1), x]) (MM := fun x => []) (ZZ := fun x => [row x 36 BF ((AF true).un.2.2.2)]) F W W6 Aa Aa (fun hL => Kn _ w true _ Aa) fun x a w F W => ?_
    obtain ⟨v10, rfl⟩ : ∃ y, y = x := ⟨x, rfl⟩
    have W : Stw ⟨Y, [], w0⟩ [(b2, [.int .i64 0, .int .i64 0, .int .i64 0, .slice none 0 0]), (b1, [.int .i64 p0.un.1, .int .i64 p0.un.2.1, .int .i64 p0.un.2.2.1, v1])] [row v10 36 BF ((AF true).un.2.2.2), row v3 36 BF x1] w := W
    refine Be (vs := [.int .i64 ((AF true).un.1), .int .i64 ((AF true).un.2.1), .int .i64 ((AF true).un.2.2.1), v10]) (M' := [(b2, [.int .i64 ((AF true).un.1), .int .i64 ((AF true).un.2.1), .int .i64 ((AF true).un.2.2.1), v10]), (b1, [.int .i64 p0.un.1, .int .i64 p0.un.2.1, .int .i64 p0.un.2.2.1, v1])]) 0 F W Aa Aa Aa ER Aa Aa Aa (An Aa (An Aa (An Aa (An (W.one (k := 0) Aa) Cq)))) Aa fun w W => ?_
    refine Ad (Ac (Av (AQ (AN ?_))))
    have H := L1 _ H
    have H := AP H
    subst H
    refine AJ (.inl Aa) F W Aa (Dy 0 F Aa Aa ER Aa) ?_
    have W := W.freeze
    have W := W.sub (M' := []) (Z' := [DE v10 BF ((AF true).un.2.2.2)]) (List.nil_sublist _) (List.Sublist.cons_cons _ (List.nil_sublist _))
    exact ⟨(v10), Aa, W⟩
   have H := AR (by rw [hb]; decide) H
   rw [hb] at F
   refine Ay (AU (Ac ?_))
   have W := W.frontM (i := 1) Aa Aa
   have W := W.frontM (i := 1) Aa Aa
   exact ⟨H, F.re ⟨rfl, Aa, Aa, trivial⟩, W⟩
  have H := AR (Bf hb) H
  rw [hb] at F
  refine Ah (Ab ?_)
  refine ls F W Aa (A7 F Aa Aa).q fun a w F W => ?_
  refine ls F W Aa (Ae F Aa).q fun a w F W => ?_
  refine Ad (Ac ?_)
  refine Aw F Aa (fun hb => ?_) fun hb => ?_
  ·
   have H := AV (Bg hb) H
   rw [hb] at F
   refine Ah (Ab ?_)
   refine ls F W Aa (Ai Dt Aa Aa Aa T3 F Aa 0 Aa).q fun a w F W => ?_
   refine ls F W Aa (Ao (v := Value.int .i64 p0.un.1) 1 F Aa Aa T3 Aa).q fun a w F W => ?_
   refine ls F W Aa (Ag F Aa).q fun a w F W => ?_
   obtain ⟨x6, h13, H⟩ := Am H
   have W := W.freeze
   refine Bj (Ml := []) (Zl := []) (M := [(b2, [.int .i64 0, .int .i64 0, .int .i64 0, .slice none 0 0]), (b1, [.int .i64 p0.un.1, .int .i64 p0.un.2.1, .int .i64 p0.un.2.2.1, v1])]) (Z := [DE v3 BF x1]) (β := Value) (rv := fun x => .agg #[.int .i64 x6.un.1, .int .i64 x6.un.2.1, .int .i64 x6.un.2.2.1, x]) (MM := fun x => []) (ZZ := fun x => [DE x BF x6.un.2.2.2]) F W XJ Aa Aa (fun hL => J4 _ w (v3) p0.un.1 x1 1 2 _ h13 (W.item (i := 0) Aa)) fun x a w F W => ?_
   obtain ⟨v11, rfl⟩ : ∃ y, y = x := ⟨x, rfl⟩
   have W : Stw ⟨Y, [], w0⟩ [(b2, [.int .i64 0, .int .i64 0, .int .i64 0, .slice none 0 0]), (b1, [.int .i64 p0.un.1, .int .i64 p0.un.2.1, .int .i64 p0.un.2.2.1, v1])] [DE v11 BF x6.un.2.2.2, DE v3 BF x1] w := W
   refine Be (vs := [.int .i64 x6.un.1, .int .i64 x6.un.2.1, .int .i64 x6.un.2.2.1, v11]) (M' := [(b2, [.int .i64 x6.un.1, .int .i64 x6.un.2.1, .int .i64 x6.un.2.2.1, v11]), (b1, [.int .i64 p0.un.1, .int .i64 p0.un.2.1, .int .i64 p0.un.2.2.1, v1])]) 0 F W Aa Aa Aa ER Aa Aa Aa (An Aa (An Aa (An Aa (An (W.oneF (k := 0) Aa) Cq)))) Aa fun w W => ?_
   refine Ad (Ac (Av (AQ (AN ?_))))
   have H := L1 _ H
   have H := AP H
   subst H
   refine AJ (.inl Aa) F W Aa (Dy 0 F Aa Aa ER Aa) ?_
   have W := W.sub (M' := []) (Z' := [DE v11 BF x6.un.2.2.2]) (List.nil_sublist _) (List.Sublist.cons_cons _ (List.nil_sublist _))
   exact ⟨(v11), Aa, W⟩
  have H := AR (Bf hb) H
  rw [hb] at F
  refine Ah (Ab ?_)
  refine ls F W Aa (A7 F Aa Aa).q fun a w F W => ?_
  refine ls F W Aa (Ae F Aa).q fun a w F W => ?_
  refine Ad (Ac ?_)
  refine Aw F Aa (fun hb => ?_) fun hb => ?_
  ·
   have H := AV (Bg hb) H
   rw [hb] at F
   refine Ah (Ab ?_)
   refine ls F W Aa (Ai Dt Aa Aa Aa T3 F Aa 0 Aa).q fun a w F W => ?_
   refine ls F W Aa (Ao (v := Value.int .i64 p0.un.1) 1 F Aa Aa T3 Aa).q fun a w F W => ?_
   refine ls F W Aa (Ag F Aa).q fun a w F W => ?_
   obtain ⟨x7, h14, H⟩ := Am H
   have W := W.freeze
   refine Bj (Ml := []) (Zl := []) (M := [(b2, [.int .i64 0, .int .i64 0, .int .i64 0, .slice none 0 0]), (b1, [.int .i64 p0.un.1, .int .i64 p0.un.2.1, .int .i64 p0.un.2.2.1, v1])]) (Z := [DE v3 BF x1]) (β := Value) (rv := fun x => .agg #[.int .i64 x7.un.1, .int .i64 x7.un.2.1, .int .i64 x7.un.2.2.1, x]) (MM := fun x => []) (ZZ := fun x => [DE x BF x7.un.2.2.2]) F W XJ Aa Aa (fun hL => J4 _ w (v3) p0.un.1 x1 2 1 _ h14 (W.item (i := 0) Aa)) fun x a w F W => ?_
   obtain ⟨v12, rfl⟩ : ∃ y, y = x := ⟨x, rfl⟩
   have W : Stw ⟨Y, [], w0⟩ [(b2, [.int .i64 0, .int .i64 0, .int .i64 0, .slice none 0 0]), (b1, [.int .i64 p0.un.1, .int .i64 p0.un.2.1, .int .i64 p0.un.2.2.1, v1])] [DE v12 BF x7.un.2.2.2, DE v3 BF x1] w := W
   refine Be (vs := [.int .i64 x7.un.1, .int .i64 x7.un.2.1, .int .i64 x7.un.2.2.1, v12]) (M' := [(b2, [.int .i64 x7.un.1, .int .i64 x7.un.2.1, .int .i64 x7.un.2.2.1, v12]), (b1, [.int .i64 p0.un.1, .int .i64 p0.un.2.1, .int .i64 p0.un.2.2.1, v1])]) 0 F W Aa Aa Aa ER Aa Aa Aa (An Aa (An Aa (An Aa (An (W.oneF (k := 0) Aa) Cq)))) Aa fun w W => ?_
   refine Ad (Ac (Av (AQ (AN ?_))))
   have H := L1 _ H
   have H := AP H
   subst H
   refine AJ (.inl Aa) F W Aa (Dy 0 F Aa Aa ER Aa) ?_
   have W := W.sub (M' := []) (Z' := [DE v12 BF x7.un.2.2.2]) (List.nil_sublist _) (List.Sublist.cons_cons _ (List.nil_sublist _))
   exact ⟨(v12), Aa, W⟩
  have H := AR (Bf hb) H
  rw [hb] at F
  refine Ay (AU (Ac ?_))
  have W := W.frontM (i := 1) Aa Aa
  have W := W.frontM (i := 1) Aa Aa
  exact ⟨H, F.re ⟨rfl, Aa, Aa, trivial⟩, W⟩
 rintro a w ⟨hj, F, W⟩
 have H := K1 _ hj
 refine Ah (Ab ?_)
 refine ls F W Aa (Ai Dt Aa Aa Aa T3 F Aa 0 Aa).q fun a w F W => ?_
 refine ls F W Aa (Ao (v := Value.int .i64 p0.un.1) 1 F Aa Aa T3 Aa).q fun a w F W => ?_
 refine ls F W Aa (Ai Dt Aa Aa Aa T3 F Aa 1 Aa).q fun a w F W => ?_
 refine ls F W Aa (Ao (v := Value.int .i64 p0.un.2.1) 1 F Aa Aa T3 Aa).q fun a w F W => ?_
 refine ls F W Aa (Ai Dt Aa Aa Aa T3 F Aa 2 Aa).q fun a w F W => ?_
 refine ls F W Aa (Ao (v := Value.int .i64 p0.un.2.2.1) 1 F Aa Aa T3 Aa).q fun a w F W => ?_
 refine ls F W Aa (Ag F Aa).q fun a w F W => ?_
 refine ls F W Aa (De (v := Value.agg #[.int .i64 p0.un.1, .int .i64 p0.un.2.1, .int .i64 p0.un.2.2.1, v3]) UB F Aa (CR Aa Aa Aa (CR Aa Aa Aa (CR Aa Aa Aa (CR Aa (JK (W.one (k := 0) Aa)) Aa Fp)))) Aa).q fun a w F W => ?_
 refine Be (vs := [.int .i64 p0.un.1, .int .i64 p0.un.2.1, .int .i64 p0.un.2.2.1, v3]) (M' := [(b2, [.int .i64 p0.un.1, .int .i64 p0.un.2.1, .int .i64 p0.un.2.2.1, v3]), (b1, [.int .i64 p0.un.1, .int .i64 p0.un.2.1, .int .i64 p0.un.2.2.1, v1])]) 0 F W Aa Aa Aa ER Aa Aa Aa (An Aa (An Aa (An Aa (An (W.one (k := 0) Aa) Cq)))) Aa fun w W => ?_
 refine Ad (Ac (Av ?_))
 have H := AP H
 subst H
 refine AJ (.inl Aa) F W Aa (Dy 0 F Aa Aa ER Aa) ?_
 have W := W.freeze
 have W := W.sub (M' := []) (Z' := [DE v3 BF x1]) (List.nil_sublist _) (List.Sublist.refl _)
 exact ⟨(v3), Aa, W⟩
theorem RP : ∀ (n : Nat) (Y : Nat → Prop) (w0 : World) (v1 : Value) (p0 : Tr36) (p1 : Int) (r : Tr36) (H : Dv n p0 p1 = some r) (h_v1 : Sl w0 (NX []) BF v1 p0.un.2.2.2), Calls Tryz.prog 22 #[.agg #[.int .i64 p0.un.1, .int .i64 p0.un.2.1, .int .i64 p0.un.2.2.1, v1], .int .i64 p1] w0 fun e w' => ∃ x : Value, e = .returned (.agg #[.int .i64 r.un.1, .int .i64 r.un.2.1, .int .i64 r.un.2.2.1, x]) ∧ Stw ⟨Y, [], w0⟩ [] [DE (x) BF r.un.2.2.2] w' := by
  intro n
  induction n with
  | zero => intro Y w0 v1 p0 p1 r H; exact nomatch H
  | succ n ih => intro Y w0 v1 p0 p1 r H h_v1; exact QB (Dv n) ih Y w0 v1 p0 p1 r H h_v1
theorem OI (Y : Nat → Prop) (w0 : World) (v1 : Value) (p0 : Tr36) (p1 : Int) (r : Tr36) (H : KQ p0 p1 = some r) (h_v1 : Sl w0 (NX []) BF v1 p0.un.2.2.2) :
    Calls Tryz.prog 22 #[.agg #[.int .i64 p0.un.1, .int .i64 p0.un.2.1, .int .i64 p0.un.2.2.1, v1], .int .i64 p1] w0 fun e w' => ∃ x : Value, e = .returned (.agg #[.int .i64 r.un.1, .int .i64 r.un.2.1, .int .i64 r.un.2.2.1, x]) ∧ Stw ⟨Y, [], w0⟩ [] [DE (x) BF r.un.2.2.2] w' := by
  obtain ⟨n, H⟩ := Dd H
  exact RP n Y w0 v1 p0 p1 r H h_v1
theorem Ng : type_of% Tryz.underlying37 := Tryz.underlying37
theorem Lx : Ty Tryz.prog 37 false 1 := ⟨by kernel_rfl, by kernel_rfl⟩
abbrev Ls (a : Int × (Int × Int × Int × (Value × List Tr36)) × Int × Int × (Value × List Tr39)) : List Value := [.int .i64 a.1, .int .i64 a.2.1.1, .int .i64 a.2.1.2.1, .int .i64 a.2.1.2.2.1, a.2.1.2.2.2.1, .int .i64 a.2.2.1, .int .i64 a.2.2.2.1, a.2.2.2.2.1]
theorem Rb : Iv Of Ls := (Iv.pair Fl.int.to (Iv.pair (Iv.pair Fl.int.to (Iv.pair Fl.int.to (Iv.pair Fl.int.to Iv.vsl))) (Iv.pair Fl.int.to (Iv.pair Fl.int.to Iv.vsl))))
theorem Uj : Et Tryz.prog 37 39 8 96 := Et.of Ng (by kernel_rfl) (by kernel_rfl) (by kernel_rfl) (by decide)
theorem Wg : Has Tryz.prog 18 := ⟨fun args w => Aj Tryz.func18 rfl (by decide) args w⟩
def Fs (fRec : Tr39 → Int → Option Tr39) (p0 : Tr39) (p1 : Int) : (List Tr39 × Int) → Option ((List Tr39 × Int) ⊕ (List Tr39))
  | (x11, x12) => (if x12 < (p0.un.2.2.2.2.length : Int) then (ix p0.un.2.2.2.2 x12).bind fun x13 => (fRec (Tr39.of (x13.un.1, Tr36.of (x13.un.2.1.un.1, x13.un.2.1.un.2.1, x13.un.2.1.un.2.2.1, x13.un.2.1.un.2.2.2), x13.un.2.2.1, x13.un.2.2.2.1, x13.un.2.2.2.2)) p1).bind fun x14 => (Ig x11 ([Tr39.of (x14.un.1, Tr36.of (x14.un.2.1.un.1, x14.un.2.1.un.2.1, x14.un.2.1.un.2.2.1, x14.un.2.1.un.2.2.2), x14.un.2.2.1, x14.un.2.2.2.1, x14.un.2.2.2.2)] : List Tr39)).bind fun x15 => some (.inl (x15, AG (x12 + 1))) else some (.inr x11))
def FV (fRec : Tr39 → Int → Option Tr39) (p0 : Tr39) (p1 : Int) : Option Tr39 := (if (decide (p0.un.1 = 1) || decide (p0.un.1 = 5)) = true then (KQ (Tr36.of (p0.un.2.1.un.1, p0.un.2.1.un.2.1, p0.un.2.1.un.2.2.1, p0.un.2.1.un.2.2.2)) p1).bind fun x5 => some (x5.un.1, x5.un.2.1, x5.un.2.2.1, x5.un.2.2.2) else some (p0.un.2.1.un.1, p0.un.2.1.un.2.1, p0.un.2.1.un.2.2.1, p0.un.2.1.un.2.2.2)).bind fun (x1, x2, x3, x4) => (if (decide (p0.un.1 = 5) && (decide ((p0.un.2.2.2.2.length : Int) = 2) && decide (x1 = 1))) = true then (ix p0.un.2.2.2.2 0).bind fun x6 => (fRec (Tr39.of (x6.un.1, Tr36.of (x6.un.2.1.un.1, x6.un.2.1.un.2.1, x6.un.2.1.un.2.2.1, x6.un.2.1.un.2.2.2), x6.un.2.2.1, x6.un.2.2.2.1, x6.un.2.2.2.2)) p1).bind fun x7 => some (Tr39.of (x7.un.1, Tr36.of (x7.un.2.1.un.1, x7.un.2.1.un.2.1, x7.un.2.1.un.2.2.1, x7.un.2.1.un.2.2.2), x7.un.2.2.1, x7.un.2.2.2.1, x7.un.2.2.2.2)) else (if (decide (p0.un.1 = 5) && (decide ((p0.un.2.2.2.2.length : Int) = 2) && decide (x1 = 2))) = true then (ix p0.un.2.2.2.2 1).bind fun x8 => (fRec (Tr39.of (x8.un.1, Tr36.of (x8.un.2.1.un.1, x8.un.2.1.un.2.1, x8.un.2.1.un.2.2.1, x8.un.2.1.un.2.2.2), x8.un.2.2.1, x8.un.2.2.2.1, x8.un.2.2.2.2)) p1).bind fun x9 => some (Tr39.of (x9.un.1, Tr36.of (x9.un.2.1.un.1, x9.un.2.1.un.2.1, x9.un.2.1.un.2.2.1, x9.un.2.1.un.2.2.2), x9.un.2.2.1, x9.un.2.2.2.1, x9.un.2.2.2.2)) else (A6 (Fs fRec p0 p1) ([], 0)).bind fun x10 => some (Tr39.of (p0.un.1, Tr36.of (x1, x2, x3, x4), p0.un.2.2.1, p0.un.2.2.2.1, x10))))
def GV : Nat → Tr39 → Int → Option Tr39
  | 0 => fun _ _ => none
  | n + 1 => FV (GV n)
def Nr (p0 : Tr39) (p1 : Int) : Option Tr39 := Jl fun n => GV n p0 p1
theorem Rj (fRec : Tr39 → Int → Option Tr39) (ih : ∀ (Y : Nat → Prop) (w0 : World) (v1 : Value) (v2 : Value) (p0 : Tr39) (p1 : Int) (r : Tr39) (H : fRec p0 p1 = some r) (s_v1 : Sl w0 Y BF v1 p0.un.2.1.un.2.2.2) (s_v2 : Sl w0 Y Gy v2 p0.un.2.2.2.2), Calls Tryz.prog 18 #[.agg #[.int .i64 p0.un.1, .int .i64 p0.un.2.1.un.1, .int .i64 p0.un.2.1.un.2.1, .int .i64 p0.un.2.1.un.2.2.1, v1, .int .i64 p0.un.2.2.1, .int .i64 p0.un.2.2.2.1, v2], .int .i64 p1] w0 fun e w' => ∃ x : Value × Value, e = .returned (.agg #[.int .i64 r.un.1, .int .i64 r.un.2.1.un.1, .int .i64 r.un.2.1.un.2.1, .int .i64 r.un.2.1.un.2.2.1, x.1, .int .i64 r.un.2.2.1, .int .i64 r.un.2.2.2.1, x.2]) ∧ Stw ⟨Y, [], w0⟩ [] [DE (x.1) BF r.un.2.1.un.2.2.2, row (x.2) 39 Gy r.un.2.2.2.2] w') (Y : Nat → Prop) (w0 : World) (v1 : Value) (v2 : Value) (p0 : Tr39) (p1 : Int) (r : Tr39) (H : FV fRec p0 p1 = some r) (s_v1 : Sl w0 Y BF v1 p0.un.2.1.un.2.2.2) (s_v2 : Sl w0 Y Gy v2 p0.un.2.2.2.2) :
    Calls Tryz.prog 18 #[.agg #[.int .i64 p0.un.1, .int .i64 p0.un.2.1.un.1, .int .i64 p0.un.2.1.un.2.1, .int .i64 p0.un.2.1.un.2.2.1, v1, .int .i64 p0.un.2.2.1, .int .i64 p0.un.2.2.2.1, v2], .int .i64 p1] w0 fun e w' => ∃ x : Value × Value, e = .returned (.agg #[.int .i64 r.un.1, .int .i64 r.un.2.1.un.1, .int .i64 r.un.2.1.un.2.1, .int .i64 r.un.2.1.un.2.2.1, x.1, .int .i64 r.un.2.2.1, .int .i64 r.un.2.2.2.1, x.2]) ∧ Stw ⟨Y, [], w0⟩ [] [DE (x.1) BF r.un.2.1.un.2.2.2, row (x.2) 39 Gy r.un.2.2.2.2] w' := by
 refine enter Tryz.func18 Aa Tryz.ntmps18 Aa fun a F => ?_
 have W := Stw.start Y w0
 obtain ⟨v3, h1, s_v1⟩ := s_v1.ex BV
 obtain ⟨v4, h2, s_v2⟩ := s_v2.ex FD
 have h_v1 := W.nx s_v1
 have h_v2 := W.nx s_v2
 unfold FV at H
 refine Ah (Ab ?_)
 refine CS (cs := [.int .i64 p0.un.1, .int .i64 p0.un.2.1.un.1, .int .i64 p0.un.2.1.un.2.1, .int .i64 p0.un.2.1.un.2.2.1, v1, .int .i64 p0.un.2.2.1, .int .i64 p0.un.2.2.2.1, v2]) F W Aa Aa Aa fun b1 a w F W => ?_
 refine Co (cs := [.int .i64 0, .int .i64 0, .int .i64 0, .int .i64 0, .slice none 0 0, .int .i64 0, .int .i64 0, .slice none 0 0]) F W Aa UK Aa fun b2 a w F W => ?_
 refine Ad (Ac ?_)
 obtain ⟨o1, G1, K1⟩ := Am H
 refine AO (fun a w => ∃ x1 : Int, ∃ x2 : Int, ∃ x3 : Int, ∃ x4 : List Tr36, ∃ v5 : Value, some ((x1, x2, x3, x4)) = some o1 ∧ Fr 80 [] [(1, .int .i64 p1), (2, .pointer (some ⟨b1, 0, none⟩)), (4, .pointer (some ⟨b2, 0, none⟩))] a ∧ Stw ⟨Y, [], w0⟩ [(b2, [.int .i64 0, .int .i64 0, .int .i64 0, .int .i64 0, .slice none 0 0, .int .i64 0, .int .i64 0, .slice none 0 0]), (b1, [.int .i64 p0.un.1, .int .i64 x1, .int .i64 x2, .int .i64 x3, v5, .int .i64 p0.un.2.2.1, .int .i64 p0.un.2.2.2.1, v2])] [DE v5 BF x4] w) ?_ ?_
 ·
  have H := G1
  refine AO (fun a w => Fr 80 [] [(1, .int .i64 p1), (2, .pointer (some ⟨b1, 0, none⟩)), (4, .pointer (some ⟨b2, 0, none⟩)), (15, .bool (decide (p0.un.1 = 1) || decide (p0.un.1 = 5)))] a ∧ Stw ⟨Y, [], w0⟩ [(b2, [.int .i64 0, .int .i64 0, .int .i64 0, .int .i64 0, .slice none 0 0, .int .i64 0, .int .i64 0, .slice none 0 0]), (b1, [.int .i64 p0.un.1, .int .i64 p0.un.2.1.un.1, .int .i64 p0.un.2.1.un.2.1, .int .i64 p0.un.2.1.un.2.2.1, v1, .int .i64 p0.un.2.2.1, .int .i64 p0.un.2.2.2.1, v2])] [] w) ?_ ?_
  ·
   refine Ab ?_
   refine ls F W Aa (Ai Ed Aa Aa Aa T3 F Aa 0 Aa).q fun a w F W => ?_
   refine ls F W Aa (Ao (v := Value.int .i64 p0.un.1) 1 F Aa Aa T3 Aa).q fun a w F W => ?_
   refine ls F W Aa (A7 F Aa Aa).q fun a w F W => ?_
   refine ls F W Aa (Ag F Aa).q fun a w F W => ?_
   rcases bxq (decide (p0.un.1 = 1)) with hb0 | hb0
   ·
    rw [hb0] at F
    iterate 3 refine Dz F Aa Aa Aa Aa Aa Aa Aa fun a F => ?_
    refine ls F W Aa (Ax F Aa Aa Aa).q fun a w F W => ?_
    refine Ad (Ac ?_)
    exact ⟨F.re ⟨rfl, Aa, Aa, (by show some (Value.bool true) = some (Value.bool (decide (p0.un.1 = 1) || decide (p0.un.1 = 5))); try rw [hb0]; all_goals simp only [Bool.not_true, Bool.not_false, Bool.true_and, Bool.false_and, Bool.true_or, Bool.false_or, Bool.and_true, Bool.or_false, cond_true, cond_false]), trivial⟩, W⟩
   rw [hb0] at F
   refine AK F W (Af F Aa Aa Aa Aa) Aa (Ak Aa) (Ai Ed Aa Aa Aa T3 F Aa 0 Aa).q fun a w F W => ?_
   refine AK F W (Af F Aa Aa Aa Aa) Aa (Ak Aa) (Ao (v := Value.int .i64 p0.un.1) 1 F Aa Aa T3 Aa).q fun a w F W => ?_
   refine AK F W (Af F Aa Aa Aa Aa) Aa (Ak Aa) (A7 F Aa Aa).q fun a w F W => ?_
   refine ls F W Aa (As F Aa Aa Aa).q fun a w F W => ?_
   refine Ad (Ac ?_)
   exact ⟨F.re ⟨rfl, Aa, Aa, (by show some (Value.bool (decide (p0.un.1 = 5))) = some (Value.bool (decide (p0.un.1 = 1) || decide (p0.un.1 = 5))); try rw [hb0]; all_goals simp only [Bool.not_true, Bool.not_false, Bool.true_and, Bool.false_and, Bool.true_or, Bool.false_or, Bool.and_true, Bool.or_false, cond_true, cond_false]), trivial⟩, W⟩
  rintro a w ⟨F, W⟩
  refine Aw F Aa (fun hb => ?_) fun hb => ?_
  ·
   have H := AV hb H
   rw [hb] at F
   refine Ab ?_
   refine ls F W Aa (Ai Ed Aa Aa Aa ER F Aa 1 Aa).q fun a w F W => ?_
   refine ls F W Aa (Ao (v := Value.agg #[.int .i64 p0.un.2.1.un.1, .int .i64 p0.un.2.1.un.2.1, .int .i64 p0.un.2.1.un.2.2.1, v1]) 1 F Aa Aa ER Aa).q fun a w F W => ?_
   refine ls F W Aa (Ag F Aa).q fun a w F W => ?_
   obtain ⟨x5, h3, H⟩ := Am H
   refine Bj (Ml := []) (Zl := []) (M := [(b2, [.int .i64 0, .int .i64 0, .int .i64 0, .int .i64 0, .slice none 0 0, .int .i64 0, .int .i64 0, .slice none 0 0]), (b1, [.int .i64 p0.un.1, .int .i64 p0.un.2.1.un.1, .int .i64 p0.un.2.1.un.2.1, .int .i64 p0.un.2.1.un.2.2.1, v1, .int .i64 p0.un.2.2.1, .int .i64 p0.un.2.2.2.1, v2])]) (Z := []) (β := Value) (rv := fun x => .agg #[.int .i64 x5.un.1, .int .i64 x5.un.2.1, .int .i64 x5.un.2.2.1, x]) (MM := fun x => []) (ZZ := fun x => [DE x BF x5.un.2.2.2]) F W W9 Aa Aa (fun hL => OI _ w (v1) (Tr36.of (p0.un.2.1.un.1, p0.un.2.1.un.2.1, p0.un.2.1.un.2.2.1, p0.un.2.1.un.2.2.2)) p1 _ h3 ((AH BV h1 (Aq h_v1)) w W).nx) fun x a w F W => ?_
   obtain ⟨v6, rfl⟩ : ∃ y, y = x := ⟨x, rfl⟩
   have W : Stw ⟨Y, [], w0⟩ [(b2, [.int .i64 0, .int .i64 0, .int .i64 0, .int .i64 0, .slice none 0 0, .int .i64 0, .int .i64 0, .slice none 0 0]), (b1, [.int .i64 p0.un.1, .int .i64 p0.un.2.1.un.1, .int .i64 p0.un.2.1.un.2.1, .int .i64 p0.un.2.1.un.2.2.1, v1, .int .i64 p0.un.2.2.1, .int .i64 p0.un.2.2.2.1, v2])] [DE v6 BF x5.un.2.2.2] w := W
   refine ls F W Aa (Ai Ed Aa Aa Aa ER F Aa 1 Aa).q fun a w F W => ?_
   refine Be (vs := [.int .i64 x5.un.1, .int .i64 x5.un.2.1, .int .i64 x5.un.2.2.1, v6]) (M' := [(b2, [.int .i64 0, .int .i64 0, .int .i64 0, .int .i64 0, .slice none 0 0, .int .i64 0, .int .i64 0, .slice none 0 0]), (b1, [.int .i64 p0.un.1, .int .i64 x5.un.1, .int .i64 x5.un.2.1, .int .i64 x5.un.2.2.1, v6, .int .i64 p0.un.2.2.1, .int .i64 p0.un.2.2.2.1, v2])]) 1 F W Aa Aa Aa ER Aa Aa Aa (An Aa (An Aa (An Aa (An (W.oneF (k := 0) Aa) Cq)))) Aa fun w W => ?_
   refine Ad (Ac ?_)
   have W := W.frontM (i := 1) Aa Aa
   have W := W.frontM (i := 1) Aa Aa
   exact ⟨_, _, _, _, (v6), H, F.re ⟨rfl, Aa, Aa, trivial⟩, W⟩
  have H := AR (by rw [hb]; decide) H
  rw [hb] at F
  refine Ay (Ac ?_)
  have W := W.note (Sl.hide BV h1 (W.old s_v1))
  have W := W.frontM (i := 1) Aa Aa
  have W := W.frontM (i := 1) Aa Aa
  exact ⟨_, _, _, _, (v1), H, F.re ⟨rfl, Aa, Aa, trivial⟩, W⟩
 rintro a w ⟨x1, x2, x3, x4, v5, hj, F, W⟩
 have hj := AP hj
 subst hj
 have H := K1
 refine Ah ?_
 refine AO (fun a w => Fr 80 [] [(1, .int .i64 p1), (2, .pointer (some ⟨b1, 0, none⟩)), (4, .pointer (some ⟨b2, 0, none⟩)), (35, .bool (decide (p0.un.1 = 5) && (decide ((p0.un.2.2.2.2.length : Int) = 2) && decide (x1 = 1))))] a ∧ Stw ⟨Y, [], w0⟩ [(b2, [.int .i64 0, .int .i64 0, .int .i64 0, .int .i64 0, .slice none 0 0, .int .i64 0, .int .i64 0, .slice none 0 0]), (b1, [.int .i64 p0.un.1, .int .i64 x1, .int .i64 x2, .int .i64 x3, v5, .int .i64 p0.un.2.2.1, .int .i64 p0.un.2.2.2.1, v2])] [DE v5 BF x4] w) ?_ ?_
 ·
  refine Ab ?_
  refine ls F W Aa (Ai Ed Aa Aa Aa T3 F Aa 0 Aa).q fun a w F W => ?_
  refine ls F W Aa (Ao (v := Value.int .i64 p0.un.1) 1 F Aa Aa T3 Aa).q fun a w F W => ?_
  refine ls F W Aa (A7 F Aa Aa).q fun a w F W => ?_
  refine ls F W Aa (Ag F Aa).q fun a w F W => ?_
  rcases bxq (decide (p0.un.1 = 5)) with hb0 | hb0
  ·
   rw [hb0] at F
   refine AK F W (Af F Aa Aa Aa Aa) Aa (Ak Aa) (Ai Ed Aa Aa Aa Lx F Aa 7 Aa).q fun a w F W => ?_
   refine AK F W (Af F Aa Aa Aa Aa) Aa (Ak Aa) (Ao (v := v2) 1 F Aa Aa Lx Aa).q fun a w F W => ?_
   refine AK F W (Af F Aa Aa Aa Aa) Aa (Ak Aa) (CA (r := Gy) (l := p0.un.2.2.2.2) Ng Aa F Aa (AH FD h2 (Aq h_v2))).q fun a w F W => ?_
   refine AK F W (Af F Aa Aa Aa Aa) Aa (Ak Aa) (A7 F Aa Aa).q fun a w F W => ?_
   refine ls F W Aa (Ax F Aa Aa Aa).q fun a w F W => ?_
   refine ls F W Aa (Ag F Aa).q fun a w F W => ?_
   rcases bxq (decide ((p0.un.2.2.2.2.length : Int) = 2)) with hb1 | hb1
   ·
    rw [hb1] at F
    refine AK F W (Af F Aa Aa Aa Aa) Aa (Ak Aa) (Ai Ed Aa Aa Aa ER F Aa 1 Aa).q fun a w F W => ?_
    refine AK F W (Af F Aa Aa Aa Aa) Aa (Ak Aa) (Ai Dt Aa Aa Aa T3 F Aa 1 Aa).q fun a w F W => ?_
    refine AK F W (Af F Aa Aa Aa Aa) Aa (Ak Aa) (Ao (v := Value.int .i64 x1) 1 F Aa Aa T3 Aa).q fun a w F W => ?_
    refine AK F W (Af F Aa Aa Aa Aa) Aa (Ak Aa) (A7 F Aa Aa).q fun a w F W => ?_
    refine ls F W Aa (Ax F Aa Aa Aa).q fun a w F W => ?_
    refine Ad (Ac ?_)
    exact ⟨F.re ⟨rfl, Aa, Aa, (by show some (Value.bool (decide (x1 = 1))) = some (Value.bool (decide (p0.un.1 = 5) && (decide ((p0.un.2.2.2.2.length : Int) = 2) && decide (x1 = 1)))); try rw [hb1]; try rw [hb0]; all_goals simp only [Bool.not_true, Bool.not_false, Bool.true_and, Bool.false_and, Bool.true_or, Bool.false_or, Bool.and_true, Bool.or_false, cond_true, cond_false]), trivial⟩, W⟩
   rw [hb1] at F
   iterate 4 refine Dz F Aa Aa Aa Aa Aa Aa Aa fun a F => ?_
   refine ls F W Aa (As F Aa Aa Aa).q fun a w F W => ?_
   refine Ad (Ac ?_)
   exact ⟨F.re ⟨rfl, Aa, Aa, (by show some (Value.bool false) = some (Value.bool (decide (p0.un.1 = 5) && (decide ((p0.un.2.2.2.2.length : Int) = 2) && decide (x1 = 1)))); try rw [hb1]; try rw [hb0]; all_goals simp only [Bool.not_true, Bool.not_false, Bool.true_and, Bool.false_and, Bool.true_or, Bool.false_or, Bool.and_true, Bool.or_false, cond_true, cond_false]), trivial⟩, W⟩
  rw [hb0] at F
  iterate 4 refine Dz F Aa Aa Aa Aa Aa Aa Aa fun a F => ?_
  refine ls F W Aa (As F Aa Aa Aa).q fun a w F W => ?_
  refine ls F W Aa (Ag F Aa).q fun a w F W => ?_
  iterate 4 refine Dz F Aa Aa Aa Aa Aa Aa Aa fun a F => ?_
  refine ls F W Aa (As F Aa Aa Aa).q fun a w F W => ?_
  refine Ad (Ac ?_)
  exact ⟨F.re ⟨rfl, Aa, Aa, (by show some (Value.bool false) = some (Value.bool (decide (p0.un.1 = 5) && (decide ((p0.un.2.2.2.2.length : Int) = 2) && decide (x1 = 1)))); try rw [hb0]; all_goals simp only [Bool.not_true, Bool.not_false, Bool.true_and, Bool.false_and, Bool.true_or, Bool.false_or, Bool.and_true, Bool.or_false, cond_true, cond_false]), trivial⟩, W⟩
 rintro a w ⟨F, W⟩
 refine Aw F Aa (fun hb => ?_) fun hb => ?_
 ·
  have H := AV hb H
  rw [hb] at F
  refine Ah ?_
  obtain ⟨v7, h4, W⟩ := W.exF BV
  refine Ab ?_
  refine ls F W Aa (Ai Ed Aa Aa Aa Lx F Aa 7 Aa).q fun a w F W => ?_
  refine ls F W Aa (Ao (v := v2) 1 F Aa Aa Lx Aa).q fun a w F W => ?_
  obtain ⟨x6, h5, H⟩ := Am H
  obtain ⟨v8, h6, h7⟩ := Ez h2 h5
  have h8 : Ls v8 = [.int .i64 x6.un.1, .int .i64 x6.un.2.1.un.1, .int .i64 x6.un.2.1.un.2.1, .int .i64 x6.un.2.1.un.2.2.1, (v8.2.1.2.2.2.1), .int .i64 x6.un.2.2.1, .int .i64 x6.un.2.2.2.1, (v8.2.2.2.2.1)] := congrArg (fun q : Tr39 => ([.int .i64 q.un.1, .int .i64 q.un.2.1.un.1, .int .i64 q.un.2.1.un.2.1, .int .i64 q.un.2.1.un.2.2.1, (v8.2.1.2.2.2.1), .int .i64 q.un.2.2.1, .int .i64 q.un.2.2.2.1, (v8.2.2.2.2.1)] : List Value)) h7
  refine ls F W Aa (AM (r := Of) Uj F Aa Aa (Aq h_v2) h6).q fun a w F W => ?_
  refine ls F W Aa (AA (y := Value.agg #[.int .i64 x6.un.1, .int .i64 x6.un.2.1.un.1, .int .i64 x6.un.2.1.un.2.1, .int .i64 x6.un.2.1.un.2.2.1, (v8.2.1.2.2.2.1), .int .i64 x6.un.2.2.1, .int .i64 x6.un.2.2.2.1, (v8.2.2.2.2.1)]) (j := 0) (i := 0) (enc := Ls) F Aa Aa (Aq h_v2) h6 Rb Ka (by rw [h8]; rfl)).q fun a w F W => ?_
  refine ls F W Aa (Ag F Aa).q fun a w F W => ?_
  obtain ⟨x7, h9, H⟩ := Am H
  refine Bj (Ml := []) (Zl := []) (M := [(b2, [.int .i64 0, .int .i64 0, .int .i64 0, .int .i64 0, .slice none 0 0, .int .i64 0, .int .i64 0, .slice none 0 0]), (b1, [.int .i64 p0.un.1, .int .i64 x1, .int .i64 x2, .int .i64 x3, v5, .int .i64 p0.un.2.2.1, .int .i64 p0.un.2.2.2.1, v2])]) (Z := [DE v5 HW v7]) (β := Value × Value) (rv := fun x => .agg #[.int .i64 x7.un.1, .int .i64 x7.un.2.1.un.1, .int .i64 x7.un.2.1.un.2.1, .int .i64 x7.un.2.1.un.2.2.1, x.1, .int .i64 x7.un.2.2.1, .int .i64 x7.un.2.2.2.1, x.2]) (MM := fun x => []) (ZZ := fun x => [DE x.1 BF x7.un.2.1.un.2.2.2, row x.2 39 Gy x7.un.2.2.2.2]) F W Wg Aa Aa (fun hL => ih _ w ((v8.2.1.2.2.2.1)) ((v8.2.2.2.2.1)) (Tr39.of (x6.un.1, Tr36.of (x6.un.2.1.un.1, x6.un.2.1.un.2.1, x6.un.2.1.un.2.2.1, x6.un.2.1.un.2.2.2), x6.un.2.2.1, x6.un.2.2.2.1, x6.un.2.2.2.2)) p1 _ h9 (Sl.at_ (W.old s_v2) h6 (AC.snd (AC.fst (AC.snd (AC.snd (AC.snd AC.here))))) (congrArg (fun q : Tr39 => q.un.2.1.un.2.2.2) h7)) (Sl.at_ (W.old s_v2) h6 (AC.snd (AC.snd (AC.snd (AC.snd AC.here)))) (congrArg (fun q : Tr39 => q.un.2.2.2.2) h7))) fun x a w F W => ?_
  obtain ⟨v9, v10⟩ := x
  have W : Stw ⟨Y, [], w0⟩ [(b2, [.int .i64 0, .int .i64 0, .int .i64 0, .int .i64 0, .slice none 0 0, .int .i64 0, .int .i64 0, .slice none 0 0]), (b1, [.int .i64 p0.un.1, .int .i64 x1, .int .i64 x2, .int .i64 x3, v5, .int .i64 p0.un.2.2.1, .int .i64 p0.un.2.2.2.1, v2])] [DE v9 BF x7.un.2.1.un.2.2.2, row v10 39 Gy x7.un.2.2.2.2, DE v5 HW v7] w := W
  refine Be (vs := [.int .i64 x7.un.1, .int .i64 x7.un.2.1.un.1, .int .i64 x7.un.2.1.un.2.1, .int .i64 x7.un.2.1.un.2.2.1, v9, .int .i64 x7.un.2.2.1, .int .i64 x7.un.2.2.2.1, v10]) (M' := [(b2, [.int .i64 x7.un.1, .int .i64 x7.un.2.1.un.1, .int .i64 x7.un.2.1.un.2.1, .int .i64 x7.un.2.1.un.2.2.1, v9, .int .i64 x7.un.2.2.1, .int .i64 x7.un.2.2.2.1, v10]), (b1, [.int .i64 p0.un.1, .int .i64 x1, .int .i64 x2, .int .i64 x3, v5, .int .i64 p0.un.2.2.1, .int .i64 p0.un.2.2.2.1, v2])]) 0 F W Aa Aa Aa Ka Aa Aa Aa (An Aa (An Aa (An Aa (An Aa (An (W.oneF (k := 0) Aa) (An Aa (An Aa (An (W.one (k := 1) Aa) Cq)))))))) Aa fun w W => ?_
  refine Ad (Ac (Av (AN ?_)))
  have H := AP H
  subst H
  refine AJ (.inl Aa) F W Aa (Dy 0 F Aa Aa Ka Aa) ?_
  have W := W.frontZ (i := 1) Aa Aa
  have W := W.frontZ (i := 1) Aa Aa
  have W := W.sub (M' := []) (Z' := [DE v9 BF x7.un.2.1.un.2.2.2, row v10 39 Gy x7.un.2.2.2.2]) (List.nil_sublist _) (List.Sublist.cons_cons _ (List.Sublist.cons_cons _ (List.nil_sublist _)))
  exact ⟨((v9), (v10)), Aa, W⟩
 have H := AR (by rw [hb]; decide) H
 rw [hb] at F
 refine Ay (Ac (Ah ?_))
 refine AO (fun a w => Fr 80 [] [(1, .int .i64 p1), (2, .pointer (some ⟨b1, 0, none⟩)), (4, .pointer (some ⟨b2, 0, none⟩)), (56, .bool (decide (p0.un.1 = 5) && (decide ((p0.un.2.2.2.2.length : Int) = 2) && decide (x1 = 2))))] a ∧ Stw ⟨Y, [], w0⟩ [(b2, [.int .i64 0, .int .i64 0, .int .i64 0, .int .i64 0, .slice none 0 0, .int .i64 0, .int .i64 0, .slice none 0 0]), (b1, [.int .i64 p0.un.1, .int .i64 x1, .int .i64 x2, .int .i64 x3, v5, .int .i64 p0.un.2.2.1, .int .i64 p0.un.2.2.2.1, v2])] [DE v5 BF x4] w) ?_ ?_
 ·
  refine Ab ?_
  refine ls F W Aa (Ai Ed Aa Aa Aa T3 F Aa 0 Aa).q fun a w F W => ?_
  refine ls F W Aa (Ao (v := Value.int .i64 p0.un.1) 1 F Aa Aa T3 Aa).q fun a w F W => ?_
  refine ls F W Aa (A7 F Aa Aa).q fun a w F W => ?_
  refine ls F W Aa (Ag F Aa).q fun a w F W => ?_
  rcases bxq (decide (p0.un.1 = 5)) with hb0 | hb0
  ·
   rw [hb0] at F
   refine AK F W (Af F Aa Aa Aa Aa) Aa (Ak Aa) (Ai Ed Aa Aa Aa Lx F Aa 7 Aa).q fun a w F W => ?_
   refine AK F W (Af F Aa Aa Aa Aa) Aa (Ak Aa) (Ao (v := v2) 1 F Aa Aa Lx Aa).q fun a w F W => ?_
   refine AK F W (Af F Aa Aa Aa Aa) Aa (Ak Aa) (CA (r := Gy) (l := p0.un.2.2.2.2) Ng Aa F Aa (AH FD h2 (Aq h_v2))).q fun a w F W => ?_
   refine AK F W (Af F Aa Aa Aa Aa) Aa (Ak Aa) (A7 F Aa Aa).q fun a w F W => ?_
   refine ls F W Aa (Ax F Aa Aa Aa).q fun a w F W => ?_
   refine ls F W Aa (Ag F Aa).q fun a w F W => ?_
   rcases bxq (decide ((p0.un.2.2.2.2.length : Int) = 2)) with hb1 | hb1
   ·
    rw [hb1] at F
    refine AK F W (Af F Aa Aa Aa Aa) Aa (Ak Aa) (Ai Ed Aa Aa Aa ER F Aa 1 Aa).q fun a w F W => ?_
    refine AK F W (Af F Aa Aa Aa Aa) Aa (Ak Aa) (Ai Dt Aa Aa Aa T3 F Aa 1 Aa).q fun a w F W => ?_
    refine AK F W (Af F Aa Aa Aa Aa) Aa (Ak Aa) (Ao (v := Value.int .i64 x1) 1 F Aa Aa T3 Aa).q fun a w F W => ?_
    refine AK F W (Af F Aa Aa Aa Aa) Aa (Ak Aa) (A7 F Aa Aa).q fun a w F W => ?_
    refine ls F W Aa (Ax F Aa Aa Aa).q fun a w F W => ?_
    refine Ad (Ac ?_)
    exact ⟨F.re ⟨rfl, Aa, Aa, (by show some (Value.bool (decide (x1 = 2))) = some (Value.bool (decide (p0.un.1 = 5) && (decide ((p0.un.2.2.2.2.length : Int) = 2) && decide (x1 = 2)))); try rw [hb1]; try rw [hb0]; all_goals simp only [Bool.not_true, Bool.not_false, Bool.true_and, Bool.false_and, Bool.true_or, Bool.false_or, Bool.and_true, Bool.or_false, cond_true, cond_false]), trivial⟩, W⟩
   rw [hb1] at F
   iterate 4 refine Dz F Aa Aa Aa Aa Aa Aa Aa fun a F => ?_
   refine ls F W Aa (As F Aa Aa Aa).q fun a w F W => ?_
   refine Ad (Ac ?_)
   exact ⟨F.re ⟨rfl, Aa, Aa, (by show some (Value.bool false) = some (Value.bool (decide (p0.un.1 = 5) && (decide ((p0.un.2.2.2.2.length : Int) = 2) && decide (x1 = 2)))); try rw [hb1]; try rw [hb0]; all_goals simp only [Bool.not_true, Bool.not_false, Bool.true_and, Bool.false_and, Bool.true_or, Bool.false_or, Bool.and_true, Bool.or_false, cond_true, cond_false]), trivial⟩, W⟩
  rw [hb0] at F
  iterate 4 refine Dz F Aa Aa Aa Aa Aa Aa Aa fun a F => ?_
  refine ls F W Aa (As F Aa Aa Aa).q fun a w F W => ?_
  refine ls F W Aa (Ag F Aa).q fun a w F W => ?_
  iterate 4 refine Dz F Aa Aa Aa Aa Aa Aa Aa fun a F => ?_
  refine ls F W Aa (As F Aa Aa Aa).q fun a w F W => ?_
  refine Ad (Ac ?_)
  exact ⟨F.re ⟨rfl, Aa, Aa, (by show some (Value.bool false) = some (Value.bool (decide (p0.un.1 = 5) && (decide ((p0.un.2.2.2.2.length : Int) = 2) && decide (x1 = 2)))); try rw [hb0]; all_goals simp only [Bool.not_true, Bool.not_false, Bool.true_and, Bool.false_and, Bool.true_or, Bool.false_or, Bool.and_true, Bool.or_false, cond_true, cond_false]), trivial⟩, W⟩
 rintro a w ⟨F, W⟩
 refine Aw F Aa (fun hb => ?_) fun hb => ?_
 ·
  have H := AV hb H
  rw [hb] at F
  refine Ah ?_
  obtain ⟨v11, h10, W⟩ := W.exF BV
  refine Ab ?_
  refine ls F W Aa (Ai Ed Aa Aa Aa Lx F Aa 7 Aa).q fun a w F W => ?_
  refine ls F W Aa (Ao (v := v2) 1 F Aa Aa Lx Aa).q fun a w F W => ?_
  obtain ⟨x8, h11, H⟩ := Am H
  obtain ⟨v12, h12, h13⟩ := Ez h2 h11
  have h14 : Ls v12 = [.int .i64 x8.un.1, .int .i64 x8.un.2.1.un.1, .int .i64 x8.un.2.1.un.2.1, .int .i64 x8.un.2.1.un.2.2.1, (v12.2.1.2.2.2.1), .int .i64 x8.un.2.2.1, .int .i64 x8.un.2.2.2.1, (v12.2.2.2.2.1)] := congrArg (fun q : Tr39 => ([.int .i64 q.un.1, .int .i64 q.un.2.1.un.1, .int .i64 q.un.2.1.un.2.1, .int .i64 q.un.2.1.un.2.2.1, (v12.2.1.2.2.2.1), .int .i64 q.un.2.2.1, .int .i64 q.un.2.2.2.1, (v12.2.2.2.2.1)] : List Value)) h13
  refine ls F W Aa (AM (r := Of) Uj F Aa Aa (Aq h_v2) h12).q fun a w F W => ?_
  refine ls F W Aa (AA (y := Value.agg #[.int .i64 x8.un.1, .int .i64 x8.un.2.1.un.1, .int .i64 x8.un.2.1.un.2.1, .int .i64 x8.un.2.1.un.2.2.1, (v12.2.1.2.2.2.1), .int .i64 x8.un.2.2.1, .int .i64 x8.un.2.2.2.1, (v12.2.2.2.2.1)]) (j := 0) (i := 1) (enc := Ls) F Aa Aa (Aq h_v2) h12 Rb Ka (by rw [h14]; rfl)).q fun a w F W => ?_
  refine ls F W Aa (Ag F Aa).q fun a w F W => ?_
  obtain ⟨x9, h15, H⟩ := Am H
  refine Bj (Ml := []) (Zl := []) (M := [(b2, [.int .i64 0, .int .i64 0, .int .i64 0, .int .i64 0, .slice none 0 0, .int .i64 0, .int .i64 0, .slice none 0 0]), (b1, [.int .i64 p0.un.1, .int .i64 x1, .int .i64 x2, .int .i64 x3, v5, .int .i64 p0.un.2.2.1, .int .i64 p0.un.2.2.2.1, v2])]) (Z := [DE v5 HW v11]) (β := Value × Value) (rv := fun x => .agg #[.int .i64 x9.un.1, .int .i64 x9.un.2.1.un.1, .int .i64 x9.un.2.1.un.2.1, .int .i64 x9.un.2.1.un.2.2.1, x.1, .int .i64 x9.un.2.2.1, .int .i64 x9.un.2.2.2.1, x.2]) (MM := fun x => []) (ZZ := fun x => [DE x.1 BF x9.un.2.1.un.2.2.2, row x.2 39 Gy x9.un.2.2.2.2]) F W Wg Aa Aa (fun hL => ih _ w ((v12.2.1.2.2.2.1)) ((v12.2.2.2.2.1)) (Tr39.of (x8.un.1, Tr36.of (x8.un.2.1.un.1, x8.un.2.1.un.2.1, x8.un.2.1.un.2.2.1, x8.un.2.1.un.2.2.2), x8.un.2.2.1, x8.un.2.2.2.1, x8.un.2.2.2.2)) p1 _ h15 (Sl.at_ (W.old s_v2) h12 (AC.snd (AC.fst (AC.snd (AC.snd (AC.snd AC.here))))) (congrArg (fun q : Tr39 => q.un.2.1.un.2.2.2) h13)) (Sl.at_ (W.old s_v2) h12 (AC.snd (AC.snd (AC.snd (AC.snd AC.here)))) (congrArg (fun q : Tr39 => q.un.2.2.2.2) h13))) fun x a w F W => ?_
  obtain ⟨v13, v14⟩ := x
  have W : Stw ⟨Y, [], w0⟩ [(b2, [.int .i64 0, .int .i64 0, .int .i64 0, .int .i64 0, .slice none 0 0, .int .i64 0, .int .i64 0, .slice none 0 0]), (b1, [.int .i64 p0.un.1, .int .i64 x1, .int .i64 x2, .int .i64 x3, v5, .int .i64 p0.un.2.2.1, .int .i64 p0.un.2.2.2.1, v2])] [DE v13 BF x9.un.2.1.un.2.2.2, row v14 39 Gy x9.un.2.2.2.2, DE v5 HW v11] w := W
  refine Be (vs := [.int .i64 x9.un.1, .int .i64 x9.un.2.1.un.1, .int .i64 x9.un.2.1.un.2.1, .int .i64 x9.un.2.1.un.2.2.1, v13, .int .i64 x9.un.2.2.1, .int .i64 x9.un.2.2.2.1, v14]) (M' := [(b2, [.int .i64 x9.un.1, .int .i64 x9.un.2.1.un.1, .int .i64 x9.un.2.1.un.2.1, .int .i64 x9.un.2.1.un.2.2.1, v13, .int .i64 x9.un.2.2.1, .int .i64 x9.un.2.2.2.1, v14]), (b1, [.int .i64 p0.un.1, .int .i64 x1, .int .i64 x2, .int .i64 x3, v5, .int .i64 p0.un.2.2.1, .int .i64 p0.un.2.2.2.1, v2])]) 0 F W Aa Aa Aa Ka Aa Aa Aa (An Aa (An Aa (An Aa (An Aa (An (W.oneF (k := 0) Aa) (An Aa (An Aa (An (W.one (k := 1) Aa) Cq)))))))) Aa fun w W => ?_
  refine Ad (Ac (Av (AN ?_)))
  have H := AP H
  subst H
  refine AJ (.inl Aa) F W Aa (Dy 0 F Aa Aa Ka Aa) ?_
  have W := W.frontZ (i := 1) Aa Aa
  have W := W.frontZ (i := 1) Aa Aa
  have W := W.sub (M' := []) (Z' := [DE v13 BF x9.un.2.1.un.2.2.2, row v14 39 Gy x9.un.2.2.2.2]) (List.nil_sublist _) (List.Sublist.cons_cons _ (List.Sublist.cons_cons _ (List.nil_sublist _)))
  exact ⟨((v13), (v14)), Aa, W⟩
 have H := AR (by rw [hb]; decide) H
 rw [hb] at F
 refine Ay (Ac (Ah (Ab ?_)))
 refine ls F W Aa (Ae F Aa).q fun a w F W => ?_
 refine Ad (Ac ?_)
 obtain ⟨o2, G2, K2⟩ := Am H
 refine AO (fun a w => ∃ x10 : List Tr39, ∃ v15 : Value, some (x10) = some o2 ∧ Fr 80 [] [(2, .pointer (some ⟨b1, 0, none⟩)), (4, .pointer (some ⟨b2, 0, none⟩)), (5, v15)] a ∧ Stw ⟨Y, [], w0⟩ [(b2, [.int .i64 0, .int .i64 0, .int .i64 0, .int .i64 0, .slice none 0 0, .int .i64 0, .int .i64 0, .slice none 0 0]), (b1, [.int .i64 p0.un.1, .int .i64 x1, .int .i64 x2, .int .i64 x3, v5, .int .i64 p0.un.2.2.1, .int .i64 p0.un.2.2.2.1, v2])] [row v15 39 Gy x10, DE v5 BF x4] w) ?_ ?_
 ·
  have H := G2
  refine Ah (Ab ?_)
  refine ls F W Aa (Ai Ed Aa Aa Aa Lx F Aa 7 Aa).q fun a w F W => ?_
  refine ls F W Aa (Ao (v := v2) 1 F Aa Aa Lx Aa).q fun a w F W => ?_
  refine ls F W Aa (CA (r := Gy) (l := p0.un.2.2.2.2) Ng Aa F Aa (AH FD h2 (Aq h_v2))).q fun a w F W => ?_
  refine ls F W Aa (Ag F Aa).q fun a w F W => ?_
  refine Ad (Ac (Az ?_))
  have W := W.nilRow 39 Gy
  have W := W.frontZ (i := 1) Aa Aa
  have W := W.frontZ (i := 1) Aa Aa
  have W := W.frontM (i := 1) Aa Aa
  have W := W.frontM (i := 1) Aa Aa
  refine BG H (fun s a w => ∃ v16 : Value, Fr 80 [] [(1, .int .i64 p1), (2, .pointer (some ⟨b1, 0, none⟩)), (4, .pointer (some ⟨b2, 0, none⟩)), (5, v16), (64, v2), (65, .int .i64 (p0.un.2.2.2.2.length : Int)), (66, .int .i64 s.2)] a ∧ Stw ⟨Y, [], w0⟩ [(b2, [.int .i64 0, .int .i64 0, .int .i64 0, .int .i64 0, .slice none 0 0, .int .i64 0, .int .i64 0, .slice none 0 0]), (b1, [.int .i64 p0.un.1, .int .i64 x1, .int .i64 x2, .int .i64 x3, v5, .int .i64 p0.un.2.2.1, .int .i64 p0.un.2.2.2.1, v2])] [row v16 39 Gy s.1, DE v5 BF x4] w) ⟨(Value.slice none 0 0), F.re ⟨rfl, Aa, Aa, Aa, Aa, Aa, Aa, trivial⟩, W⟩ fun s o a w H L3 hR => ?_
  obtain ⟨x11, x12⟩ := s
  obtain ⟨v16, F, W⟩ := hR
  have F : Fr 80 [] [(1, .int .i64 p1), (2, .pointer (some ⟨b1, 0, none⟩)), (4, .pointer (some ⟨b2, 0, none⟩)), (5, v16), (64, v2), (65, .int .i64 (p0.un.2.2.2.2.length : Int)), (66, .int .i64 x12)] a := F
  have W : Stw ⟨Y, [], w0⟩ [(b2, [.int .i64 0, .int .i64 0, .int .i64 0, .int .i64 0, .slice none 0 0, .int .i64 0, .int .i64 0, .slice none 0 0]), (b1, [.int .i64 p0.un.1, .int .i64 x1, .int .i64 x2, .int .i64 x3, v5, .int .i64 p0.un.2.2.1, .int .i64 p0.un.2.2.2.1, v2])] [row v16 39 Gy x11, DE v5 BF x4] w := W
  rw [Fs] at H
  refine Ah (Ab ?_)
  refine ls F W Aa (Cu F Aa Aa).q fun a w F W => ?_
  refine Ad (Ac (Ah ?_))
  refine Aw F Aa (fun hb => ?_) fun hb => ?_
  ·
   have H := AV (Bg hb) H
   rw [hb] at F
   refine Ay (Ac (Ah (Az (Ah ?_))))
   obtain ⟨v17, h16, W⟩ := W.exR FD
   have W := W.frontZ (i := 1) Aa Aa
   obtain ⟨v18, h17, W⟩ := W.exF BV
   refine Ab ?_
   obtain ⟨x13, h18, H⟩ := Am H
   obtain ⟨v19, h19, h20⟩ := Ez h2 h18
   have h21 : Ls v19 = [.int .i64 x13.un.1, .int .i64 x13.un.2.1.un.1, .int .i64 x13.un.2.1.un.2.1, .int .i64 x13.un.2.1.un.2.2.1, (v19.2.1.2.2.2.1), .int .i64 x13.un.2.2.1, .int .i64 x13.un.2.2.2.1, (v19.2.2.2.2.1)] := congrArg (fun q : Tr39 => ([.int .i64 q.un.1, .int .i64 q.un.2.1.un.1, .int .i64 q.un.2.1.un.2.1, .int .i64 q.un.2.1.un.2.2.1, (v19.2.1.2.2.2.1), .int .i64 q.un.2.2.1, .int .i64 q.un.2.2.2.1, (v19.2.2.2.2.1)] : List Value)) h20
   refine ls F W Aa (AM (r := Of) Uj F Aa Aa (Aq h_v2) h19).q fun a w F W => ?_
   refine ls F W Aa (AA (y := Value.agg #[.int .i64 x13.un.1, .int .i64 x13.un.2.1.un.1, .int .i64 x13.un.2.1.un.2.1, .int .i64 x13.un.2.1.un.2.2.1, (v19.2.1.2.2.2.1), .int .i64 x13.un.2.2.1, .int .i64 x13.un.2.2.2.1, (v19.2.2.2.2.1)]) (j := 0) (i := x12) (enc := Ls) F Aa Aa (Aq h_v2) h19 Rb Ka (by rw [h21]; rfl)).q fun a w F W => ?_
   refine Co (cs := [.int .i64 0, .int .i64 0, .int .i64 0, .int .i64 0, .slice none 0 0, .int .i64 0, .int .i64 0, .slice none 0 0]) F W Aa UK Aa fun b3 a w F W => ?_
   refine Be (vs := [.int .i64 x13.un.1, .int .i64 x13.un.2.1.un.1, .int .i64 x13.un.2.1.un.2.1, .int .i64 x13.un.2.1.un.2.2.1, (v19.2.1.2.2.2.1), .int .i64 x13.un.2.2.1, .int .i64 x13.un.2.2.2.1, (v19.2.2.2.2.1)]) (M' := [(b3, [.int .i64 x13.un.1, .int .i64 x13.un.2.1.un.1, .int .i64 x13.un.2.1.un.2.1, .int .i64 x13.un.2.1.un.2.2.1, (v19.2.1.2.2.2.1), .int .i64 x13.un.2.2.1, .int .i64 x13.un.2.2.2.1, (v19.2.2.2.2.1)]), (b2, [.int .i64 0, .int .i64 0, .int .i64 0, .int .i64 0, .slice none 0 0, .int .i64 0, .int .i64 0, .slice none 0 0]), (b1, [.int .i64 p0.un.1, .int .i64 x1, .int .i64 x2, .int .i64 x3, v5, .int .i64 p0.un.2.2.1, .int .i64 p0.un.2.2.2.1, v2])]) 0 F W Aa Aa Aa Ka Aa Aa Aa (An Aa (An Aa (An Aa (An Aa (An ((Cn (Aq h_v2) h19 (AC.snd (AC.fst (AC.snd (AC.snd (AC.snd AC.here))))) (congrArg (fun q : Tr39 => q.un.2.1.un.2.2.2) h20)) _ W).one (An Aa (An Aa (An ((Cn (Aq h_v2) h19 (AC.snd (AC.snd (AC.snd (AC.snd AC.here)))) (congrArg (fun q : Tr39 => q.un.2.2.2.2) h20)) _ W).one Cq)))))))) Aa fun w W => ?_
   refine Ad (Ac (Ab ?_))
   refine ls F W Aa (Ag F Aa).q fun a w F W => ?_
   refine ls F W Aa (Ao (v := Value.agg #[.int .i64 x13.un.1, .int .i64 x13.un.2.1.un.1, .int .i64 x13.un.2.1.un.2.1, .int .i64 x13.un.2.1.un.2.2.1, (v19.2.1.2.2.2.1), .int .i64 x13.un.2.2.1, .int .i64 x13.un.2.2.2.1, (v19.2.2.2.2.1)]) 0 F Aa Aa Ka Aa).q fun a w F W => ?_
   refine ls F W Aa (Ag F Aa).q fun a w F W => ?_
   obtain ⟨x14, h22, H⟩ := Am H
   refine Bj (Ml := []) (Zl := []) (M := [(b3, [.int .i64 x13.un.1, .int .i64 x13.un.2.1.un.1, .int .i64 x13.un.2.1.un.2.1, .int .i64 x13.un.2.1.un.2.2.1, (v19.2.1.2.2.2.1), .int .i64 x13.un.2.2.1, .int .i64 x13.un.2.2.2.1, (v19.2.2.2.2.1)]), (b2, [.int .i64 0, .int .i64 0, .int .i64 0, .int .i64 0, .slice none 0 0, .int .i64 0, .int .i64 0, .slice none 0 0]), (b1, [.int .i64 p0.un.1, .int .i64 x1, .int .i64 x2, .int .i64 x3, v5, .int .i64 p0.un.2.2.1, .int .i64 p0.un.2.2.2.1, v2])]) (Z := [DE v5 HW v18, row v16 39 Of v17]) (β := Value × Value) (rv := fun x => .agg #[.int .i64 x14.un.1, .int .i64 x14.un.2.1.un.1, .int .i64 x14.un.2.1.un.2.1, .int .i64 x14.un.2.1.un.2.2.1, x.1, .int .i64 x14.un.2.2.1, .int .i64 x14.un.2.2.2.1, x.2]) (MM := fun x => []) (ZZ := fun x => [DE x.1 BF x14.un.2.1.un.2.2.2, row x.2 39 Gy x14.un.2.2.2.2]) F W Wg Aa Aa (fun hL => ih _ w ((v19.2.1.2.2.2.1)) ((v19.2.2.2.2.1)) (Tr39.of (x13.un.1, Tr36.of (x13.un.2.1.un.1, x13.un.2.1.un.2.1, x13.un.2.1.un.2.2.1, x13.un.2.1.un.2.2.2), x13.un.2.2.1, x13.un.2.2.2.1, x13.un.2.2.2.2)) p1 _ h22 (Sl.at_ (W.old s_v2) h19 (AC.snd (AC.fst (AC.snd (AC.snd (AC.snd AC.here))))) (congrArg (fun q : Tr39 => q.un.2.1.un.2.2.2) h20)) (Sl.at_ (W.old s_v2) h19 (AC.snd (AC.snd (AC.snd (AC.snd AC.here)))) (congrArg (fun q : Tr39 => q.un.2.2.2.2) h20))) fun x a w F W => ?_
   obtain ⟨v20, v21⟩ := x
   have W : Stw ⟨Y, [], w0⟩ [(b3, [.int .i64 x13.un.1, .int .i64 x13.un.2.1.un.1, .int .i64 x13.un.2.1.un.2.1, .int .i64 x13.un.2.1.un.2.2.1, (v19.2.1.2.2.2.1), .int .i64 x13.un.2.2.1, .int .i64 x13.un.2.2.2.1, (v19.2.2.2.2.1)]), (b2, [.int .i64 0, .int .i64 0, .int .i64 0, .int .i64 0, .slice none 0 0, .int .i64 0, .int .i64 0, .slice none 0 0]), (b1, [.int .i64 p0.un.1, .int .i64 x1, .int .i64 x2, .int .i64 x3, v5, .int .i64 p0.un.2.2.1, .int .i64 p0.un.2.2.2.1, v2])] [DE v20 BF x14.un.2.1.un.2.2.2, row v21 39 Gy x14.un.2.2.2.2, DE v5 HW v18, row v16 39 Of v17] w := W
   have W := W.frontZ (i := 1) Aa Aa
   have W := W.freeze
   refine Ke (z := Value.agg #[.int .i64 0, .int .i64 0, .int .i64 0, .int .i64 0, .slice none 0 0, .int .i64 0, .int .i64 0, .slice none 0 0]) (cs := [.int .i64 x14.un.1, .int .i64 x14.un.2.1.un.1, .int .i64 x14.un.2.1.un.2.1, .int .i64 x14.un.2.1.un.2.2.1, v20, .int .i64 x14.un.2.2.1, .int .i64 x14.un.2.2.2.1, v21]) Gy ([Tr39.of (x14.un.1, Tr36.of (x14.un.2.1.un.1, x14.un.2.1.un.2.1, x14.un.2.1.un.2.2.1, x14.un.2.1.un.2.2.2), x14.un.2.2.1, x14.un.2.2.2.1, x14.un.2.2.2.2)] : List Tr39) F W Aa Uj UK Aa Aa Aa (CR Aa Aa Aa Fp) Aa Aa ⟨[Value.int .i64 x14.un.1, Value.int .i64 x14.un.2.1.un.1, Value.int .i64 x14.un.2.1.un.2.1, Value.int .i64 x14.un.2.1.un.2.2.1, v20, Value.int .i64 x14.un.2.2.1, Value.int .i64 x14.un.2.2.2.1, v21], _, Aa, (WW.2 ⟨[Value.int .i64 x14.un.1], [Value.int .i64 x14.un.2.1.un.1, Value.int .i64 x14.un.2.1.un.2.1, Value.int .i64 x14.un.2.1.un.2.2.1, v20, Value.int .i64 x14.un.2.2.1, Value.int .i64 x14.un.2.2.2.1, v21], Aa, Aa, ⟨[Value.int .i64 x14.un.2.1.un.1, Value.int .i64 x14.un.2.1.un.2.1, Value.int .i64 x14.un.2.1.un.2.2.1, v20], [Value.int .i64 x14.un.2.2.1, Value.int .i64 x14.un.2.2.2.1, v21], Aa, (Tp.2 ⟨[Value.int .i64 x14.un.2.1.un.1], [Value.int .i64 x14.un.2.1.un.2.1, Value.int .i64 x14.un.2.1.un.2.2.1, v20], Aa, Aa, ⟨[Value.int .i64 x14.un.2.1.un.2.1], [Value.int .i64 x14.un.2.1.un.2.2.1, v20], Aa, Aa, ⟨[Value.int .i64 x14.un.2.1.un.2.2.1], [v20], Aa, Aa, ⟨_, Aa, (W.item (i := 1) Aa)⟩⟩⟩⟩), ⟨[Value.int .i64 x14.un.2.2.1], [Value.int .i64 x14.un.2.2.2.1, v21], Aa, Aa, ⟨[Value.int .i64 x14.un.2.2.2.1], [v21], Aa, Aa, ⟨_, Aa, (W.item (i := 0) Aa)⟩⟩⟩⟩⟩), Aa⟩ fun v22 a w F W => ?_
   have W := W.frontZ (i := 4) Aa Aa
   have W := W.hideR FD h16
   obtain ⟨x15, h23, H⟩ := Am H
   refine Fm (r := Gy) (i := 0) F W Aa Uj Aa Aa Aa Aa (GC W 1 Aa) h23 Aa fun v23 a w F W => ?_
   have W : Stw ⟨Y, [], w0⟩ [(b3, [.int .i64 x13.un.1, .int .i64 x13.un.2.1.un.1, .int .i64 x13.un.2.1.un.2.1, .int .i64 x13.un.2.1.un.2.2.1, (v19.2.1.2.2.2.1), .int .i64 x13.un.2.2.1, .int .i64 x13.un.2.2.2.1, (v19.2.2.2.2.1)]), (b2, [.int .i64 0, .int .i64 0, .int .i64 0, .int .i64 0, .slice none 0 0, .int .i64 0, .int .i64 0, .slice none 0 0]), (b1, [.int .i64 p0.un.1, .int .i64 x1, .int .i64 x2, .int .i64 x3, v5, .int .i64 p0.un.2.2.1, .int .i64 p0.un.2.2.2.1, v2])] [row v23 39 Gy x15, row v22 39 Gy ([Tr39.of (x14.un.1, Tr36.of (x14.un.2.1.un.1, x14.un.2.1.un.2.1, x14.un.2.1.un.2.2.1, x14.un.2.1.un.2.2.2), x14.un.2.2.1, x14.un.2.2.2.1, x14.un.2.2.2.2)] : List Tr39), DE v21 Gy x14.un.2.2.2.2, DE v20 BF x14.un.2.1.un.2.2.2, DE v5 HW v18] w := W
   refine ls F W Aa (Ae F Aa).q fun a w F W => ?_
   refine Ad (AU (Ac (Ab ?_)))
   refine ls F W Aa (BL F Aa Aa Aa).q fun a w F W => ?_
   refine ls F W Aa (Ag F Aa).q fun a w F W => ?_
   refine Ad (Ac ?_)
   have W := W.frontZ (i := 4) Aa Aa
   have W := W.hideF BV h17
   have W := W.frontZ (i := 1) Aa Aa
   have W := W.frontM (i := 2) Aa Aa
   have W := W.frontM (i := 2) Aa Aa
   have W := W.sub (M' := [(b2, [.int .i64 0, .int .i64 0, .int .i64 0, .int .i64 0, .slice none 0 0, .int .i64 0, .int .i64 0, .slice none 0 0]), (b1, [.int .i64 p0.un.1, .int .i64 x1, .int .i64 x2, .int .i64 x3, v5, .int .i64 p0.un.2.2.1, .int .i64 p0.un.2.2.2.1, v2])]) (Z' := [row v23 39 Gy x15, DE v5 BF x4]) (List.Sublist.cons_cons _ (List.Sublist.cons_cons _ (List.nil_sublist _))) (List.Sublist.cons_cons _ (List.Sublist.cons_cons _ (List.nil_sublist _)))
   exact ⟨_, H, (v23), F.re ⟨rfl, Aa, Aa, Aa, Aa, Aa, Aa, trivial⟩, W⟩
  have H := AR (Bf hb) H
  rw [hb] at F
  refine Bz ?_
  iterate 2 refine BS ?_
  refine Bx (Ac ?_)
  have W := W.frontZ (i := 1) Aa Aa
  have W := W.frontZ (i := 1) Aa Aa
  have W := W.frontM (i := 1) Aa Aa
  have W := W.frontM (i := 1) Aa Aa
  have H := L3 _ H
  exact ⟨_, (v16), H, F.re ⟨rfl, Aa, Aa, trivial⟩, W⟩
 rintro a w ⟨x10, v15, hj, F, W⟩
 have hj := AP hj
 subst hj
 have H := K2
 refine Ah (Ab ?_)
 refine ls F W Aa (Ag F Aa).q fun a w F W => ?_
 refine ls F W Aa (Ai Ed Aa Aa Aa Lx F Aa 7 Aa).q fun a w F W => ?_
 refine Qr (M' := [(b2, [.int .i64 0, .int .i64 0, .int .i64 0, .int .i64 0, .slice none 0 0, .int .i64 0, .int .i64 0, .slice none 0 0]), (b1, [.int .i64 p0.un.1, .int .i64 x1, .int .i64 x2, .int .i64 x3, v5, .int .i64 p0.un.2.2.1, .int .i64 p0.un.2.2.2.1, v15])]) 1 F W Aa Aa Aa Lx (W.one (k := 0) Aa) Aa Aa fun w W => ?_
 refine Ad (Ac (Ah (Ab ?_)))
 refine ls F W Aa (Ao (v := Value.agg #[.int .i64 p0.un.1, .int .i64 x1, .int .i64 x2, .int .i64 x3, v5, .int .i64 p0.un.2.2.1, .int .i64 p0.un.2.2.2.1, v15]) 1 F Aa Aa Ka Aa).q fun a w F W => ?_
 refine Be (vs := [.int .i64 p0.un.1, .int .i64 x1, .int .i64 x2, .int .i64 x3, v5, .int .i64 p0.un.2.2.1, .int .i64 p0.un.2.2.2.1, v15]) (M' := [(b2, [.int .i64 p0.un.1, .int .i64 x1, .int .i64 x2, .int .i64 x3, v5, .int .i64 p0.un.2.2.1, .int .i64 p0.un.2.2.2.1, v15]), (b1, [.int .i64 p0.un.1, .int .i64 x1, .int .i64 x2, .int .i64 x3, v5, .int .i64 p0.un.2.2.1, .int .i64 p0.un.2.2.2.1, v15])]) 0 F W Aa Aa Aa Ka Aa Aa Aa (An Aa (An Aa (An Aa (An Aa (An (W.oneF (k := 1) Aa) (An Aa (An Aa (An (W.one (k := 0) Aa) Cq)))))))) Aa fun w W => ?_
 refine Ad (Ac (Av ?_))
 have H := AP H
 subst H
 refine AJ (.inl Aa) F W Aa (Dy 0 F Aa Aa Ka Aa) ?_
 have W := W.frontZ (i := 1) Aa Aa
 have W := W.sub (M' := []) (Z' := [DE v5 BF x4, row v15 39 Gy x10]) (List.nil_sublist _) (List.Sublist.refl _)
 exact ⟨((v5), (v15)), Aa, W⟩
theorem Sf : ∀ (n : Nat) (Y : Nat → Prop) (w0 : World) (v1 : Value) (v2 : Value) (p0 : Tr39) (p1 : Int) (r : Tr39) (H : GV n p0 p1 = some r) (s_v1 : Sl w0 Y BF v1 p0.un.2.1.un.2.2.2) (s_v2 : Sl w0 Y Gy v2 p0.un.2.2.2.2), Calls Tryz.prog 18 #[.agg #[.int .i64 p0.un.1, .int .i64 p0.un.2.1.un.1, .int .i64 p0.un.2.1.un.2.1, .int .i64 p0.un.2.1.un.2.2.1, v1, .int .i64 p0.un.2.2.1, .int .i64 p0.un.2.2.2.1, v2], .int .i64 p1] w0 fun e w' => ∃ x : Value × Value, e = .returned (.agg #[.int .i64 r.un.1, .int .i64 r.un.2.1.un.1, .int .i64 r.un.2.1.un.2.1, .int .i64 r.un.2.1.un.2.2.1, x.1, .int .i64 r.un.2.2.1, .int .i64 r.un.2.2.2.1, x.2]) ∧ Stw ⟨Y, [], w0⟩ [] [DE (x.1) BF r.un.2.1.un.2.2.2, row (x.2) 39 Gy r.un.2.2.2.2] w' := by
  intro n
  induction n with
  | zero => intro Y w0 v1 v2 p0 p1 r H; exact nomatch H
  | succ n ih => intro Y w0 v1 v2 p0 p1 r H s_v1 s_v2; exact Rj (GV n) ih Y w0 v1 v2 p0 p1 r H s_v1 s_v2
theorem PB (Y : Nat → Prop) (w0 : World) (v1 : Value) (v2 : Value) (p0 : Tr39) (p1 : Int) (r : Tr39) (H : Nr p0 p1 = some r) (s_v1 : Sl w0 Y BF v1 p0.un.2.1.un.2.2.2) (s_v2 : Sl w0 Y Gy v2 p0.un.2.2.2.2) :
    Calls Tryz.prog 18 #[.agg #[.int .i64 p0.un.1, .int .i64 p0.un.2.1.un.1, .int .i64 p0.un.2.1.un.2.1, .int .i64 p0.un.2.1.un.2.2.1, v1, .int .i64 p0.un.2.2.1, .int .i64 p0.un.2.2.2.1, v2], .int .i64 p1] w0 fun e w' => ∃ x : Value × Value, e = .returned (.agg #[.int .i64 r.un.1, .int .i64 r.un.2.1.un.1, .int .i64 r.un.2.1.un.2.1, .int .i64 r.un.2.1.un.2.2.1, x.1, .int .i64 r.un.2.2.1, .int .i64 r.un.2.2.2.1, x.2]) ∧ Stw ⟨Y, [], w0⟩ [] [DE (x.1) BF r.un.2.1.un.2.2.2, row (x.2) 39 Gy r.un.2.2.2.2] w' := by
  obtain ⟨n, H⟩ := Dd H
  exact Sf n Y w0 v1 v2 p0 p1 r H s_v1 s_v2
def FO (p0 : Int) : List UInt8 := (if p0 = 0 then ([115, 114, 99] : List UInt8) else (if p0 = 1 then ([100, 115, 116] : List UInt8) else (if p0 = 2 then ([107, 105, 110, 100] : List UInt8) else (if p0 = 3 then ([116, 97, 103] : List UInt8) else (if p0 = 4 then ([112, 111, 114, 116] : List UInt8) else (if p0 = 5 then ([115, 119, 105, 116, 99, 104] : List UInt8) else ([63] : List UInt8)))))))
theorem Ob (Y : Nat → Prop) (w0 : World)  (p0 : Int) (r : List UInt8) (H : FO p0 = r)  :
    Calls Tryz.prog 106 #[.int .i64 p0] w0 fun e w' => e = .returned (.string (bs r)) ∧ Below w0.heap.size w0 w' := by
 refine enter Tryz.func106 Aa Tryz.ntmps106 Aa fun a F => ?_
 have W := Stw.start Y w0
 unfold FO at H
 refine Ah (Ab ?_)
 refine ls F W Aa (Ae (v := Value.string (bs ([] : List UInt8))) F Aa).q fun a w F W => ?_
 refine Ad (Ac (Ah (Ah (Ab ?_))))
 refine ls F W Aa (Ag F Aa).q fun a w F W => ?_
 refine Ad (Ac (Az (Ah (Ab ?_))))
 refine ls F W Aa (A7 F Aa Aa).q fun a w F W => ?_
 refine ls F W Aa (Ae F Aa).q fun a w F W => ?_
 refine Ad (Ac ?_)
 refine Aw F Aa (fun hb => ?_) fun hb => ?_
 ·
  have H := AV (Bg hb) H
  rw [hb] at F
  refine Ah (Ab ?_)
  refine ls F W Aa (Ae (v := Value.string (bs ([115, 114, 99] : List UInt8))) F Aa).q fun a w F W => ?_
  refine Ad (Ac (Av (AQ (AN ?_))))
  subst H
  refine AJ (.inl Aa) F W Aa (AB F Aa) ?_
  exact ⟨rfl, W.done⟩
 have H := AR (Bf hb) H
 rw [hb] at F
 refine Ah (Ab ?_)
 refine ls F W Aa (A7 F Aa Aa).q fun a w F W => ?_
 refine ls F W Aa (Ae F Aa).q fun a w F W => ?_
 refine Ad (Ac ?_)
 refine Aw F Aa (fun hb => ?_) fun hb => ?_
 ·
  have H := AV (Bg hb) H
  rw [hb] at F
  refine Ah (Ab ?_)
  refine ls F W Aa (Ae (v := Value.string (bs ([100, 115, 116] : List UInt8))) F Aa).q fun a w F W => ?_
  refine Ad (Ac (Av (AQ (AN ?_))))
  subst H
  refine AJ (.inl Aa) F W Aa (AB F Aa) ?_
  exact ⟨rfl, W.done⟩
 have H := AR (Bf hb) H
 rw [hb] at F
 refine Ah (Ab ?_)
 refine ls F W Aa (A7 F Aa Aa).q fun a w F W => ?_
 refine ls F W Aa (Ae F Aa).q fun a w F W => ?_
 refine Ad (Ac ?_)
 refine Aw F Aa (fun hb => ?_) fun hb => ?_
 ·
  have H := AV (Bg hb) H
  rw [hb] at F
  refine Ah (Ab ?_)
  refine ls F W Aa (Ae (v := Value.string (bs ([107, 105, 110, 100] : List UInt8))) F Aa).q fun a w F W => ?_
  refine Ad (Ac (Av (AQ (AN ?_))))
  subst H
  refine AJ (.inl Aa) F W Aa (AB F Aa) ?_
  exact ⟨rfl, W.done⟩
 have H := AR (Bf hb) H
 rw [hb] at F
 refine Ah (Ab ?_)
 refine ls F W Aa (A7 F Aa Aa).q fun a w F W => ?_
 refine ls F W Aa (Ae F Aa).q fun a w F W => ?_
 refine Ad (Ac ?_)
 refine Aw F Aa (fun hb => ?_) fun hb => ?_
 ·
  have H := AV (Bg hb) H
  rw [hb] at F
  refine Ah (Ab ?_)
  refine ls F W Aa (Ae (v := Value.string (bs ([116, 97, 103] : List UInt8))) F Aa).q fun a w F W => ?_
  refine Ad (Ac (Av (AQ (AN ?_))))
  subst H
  refine AJ (.inl Aa) F W Aa (AB F Aa) ?_
  exact ⟨rfl, W.done⟩
 have H := AR (Bf hb) H
 rw [hb] at F
 refine Ah (Ab ?_)
 refine ls F W Aa (A7 F Aa Aa).q fun a w F W => ?_
 refine ls F W Aa (Ae F Aa).q fun a w F W => ?_
 refine Ad (Ac ?_)
 refine Aw F Aa (fun hb => ?_) fun hb => ?_
 ·
  have H := AV (Bg hb) H
  rw [hb] at F
  refine Ah (Ab ?_)
  refine ls F W Aa (Ae (v := Value.string (bs ([112, 111, 114, 116] : List UInt8))) F Aa).q fun a w F W => ?_
  refine Ad (Ac (Av (AQ (AN ?_))))
  subst H
  refine AJ (.inl Aa) F W Aa (AB F Aa) ?_
  exact ⟨rfl, W.done⟩
 have H := AR (Bf hb) H
 rw [hb] at F
 refine Ah (Ab ?_)
 refine ls F W Aa (A7 F Aa Aa).q fun a w F W => ?_
 refine ls F W Aa (Ae F Aa).q fun a w F W => ?_
 refine Ad (Ac ?_)
 refine Aw F Aa (fun hb => ?_) fun hb => ?_
 ·
  have H := AV (Bg hb) H
  rw [hb] at F
  refine Ah (Ab ?_)
  refine ls F W Aa (Ae (v := Value.string (bs ([115, 119, 105, 116, 99, 104] : List UInt8))) F Aa).q fun a w F W => ?_
  refine Ad (Ac (Av (AQ (AN ?_))))
  subst H
  refine AJ (.inl Aa) F W Aa (AB F Aa) ?_
  exact ⟨rfl, W.done⟩
 have H := AR (Bf hb) H
 rw [hb] at F
 refine Ay (AU (Ac (Ah (Ab ?_))))
 refine ls F W Aa (Ae (v := Value.string (bs ([63] : List UInt8))) F Aa).q fun a w F W => ?_
 refine Ad (Ac (Av ?_))
 subst H
 refine AJ (.inl Aa) F W Aa (AB F Aa) ?_
 exact ⟨rfl, W.done⟩
theorem Wz : type_of% Tryz.underlying112 := Tryz.underlying112
theorem Xv : Has Tryz.prog 106 := ⟨fun args w => Aj Tryz.func106 rfl (by decide) args w⟩
theorem XP : Has Tryz.prog 69 := ⟨fun args w => Aj Tryz.func69 rfl (by decide) args w⟩
theorem Xz : Has Tryz.prog 72 := ⟨fun args w => Aj Tryz.func72 rfl (by decide) args w⟩
theorem Z9 : (Tryz.prog.info? 9).bind (·.zero) = some (.string (bs ([] : List UInt8))) := by kernel_rfl
theorem UM : Et Tryz.prog 112 9 1 16 := Et.of Wz (by kernel_rfl) (by kernel_rfl) (by kernel_rfl) (by decide)
theorem WJ : Has Tryz.prog 70 := ⟨fun args w => Aj Tryz.func70 rfl (by decide) args w⟩
def EO (fRec_pred_Text : Tr36 → Option (List UInt8)) (p0 : List Tr36) : (List (List UInt8) × Int) → Option ((List (List UInt8) × Int) ⊕ (List (List UInt8)))
  | (x2, x3) => (if x3 < (p0.length : Int) then (ix p0 x3).bind fun x4 => (fRec_pred_Text x4).bind fun x5 => (if (decide (x4.un.1 = 5) || decide (x4.un.1 = 6)) = true then (Ig ([40] : List UInt8) x5).bind fun x7 => (Ig x7 ([41] : List UInt8)).bind fun x8 => some x8 else some x5).bind fun x6 => (Ig x2 ([x6] : List (List UInt8))).bind fun x9 => some (.inl (x9, AG (x3 + 1))) else some (.inr x2))
def Gr (fRec_pred_Text : Tr36 → Option (List UInt8)) (p0 : List Tr36) (p1 : List UInt8) : Option (List UInt8) := (A6 (EO fRec_pred_Text p0) ([], 0)).bind fun x1 => (MP x1 p1).bind fun x10 => some x10
theorem Mk (fRec_pred_Text : Tr36 → Option (List UInt8)) (ih_pred_Text : ∀ (Y : Nat → Prop) (w0 : World) (v1 : Value) (p0 : Tr36) (r : List UInt8) (H : fRec_pred_Text p0 = some r) (h_v1 : Sl w0 (NX []) BF v1 p0.un.2.2.2) (hG : Gk [] w0), Calls Tryz.prog 72 #[.agg #[.int .i64 p0.un.1, .int .i64 p0.un.2.1, .int .i64 p0.un.2.2.1, v1]] w0 fun e w' => e = .returned (.string (bs r)) ∧ Below w0.heap.size w0 w') (Y : Nat → Prop) (w0 : World) (v1 : Value) (p0 : List Tr36) (p1 : List UInt8) (r : List UInt8) (H : Gr fRec_pred_Text p0 p1 = some r) (h_v1 : Sl w0 (NX []) BF v1 p0) (hG : Gk [] w0) :
    Calls Tryz.prog 107 #[v1, .string (bs p1)] w0 fun e w' => e = .returned (.string (bs r)) ∧ Below w0.heap.size w0 w' := by
 refine enter Tryz.func107 Aa Tryz.ntmps107 Aa fun a F => ?_
 have W := Stw.start Y w0
 obtain ⟨v2, h1, h_v1⟩ := h_v1.ex BV
 unfold Gr at H
 refine Ah (Ab ?_)
 refine ls F W Aa (Ae (v := Value.string (bs ([] : List UInt8))) F Aa).q fun a w F W => ?_
 refine Ad (Ac (Ah (Ab ?_)))
 refine ls F W Aa (Ae F Aa).q fun a w F W => ?_
 refine Ad (Ac ?_)
 obtain ⟨o1, G1, K1⟩ := Am H
 refine AO (fun a w => ∃ x1 : List (List UInt8), ∃ v3 : Value, some (x1) = some o1 ∧ Fr 36 [] [(1, .string (bs p1)), (4, .string (bs ([] : List UInt8))), (5, v3)] a ∧ Stw ⟨Y, [], w0⟩ [] [row v3 9 Rp.str x1] w) ?_ ?_
 ·
  have H := G1
  refine Ah (Ab ?_)
  refine ls F W Aa (Ag F Aa).q fun a w F W => ?_
  refine ls F W Aa (CA (r := BF) (l := p0) JW Aa F Aa (AH BV h1 (Aq h_v1))).q fun a w F W => ?_
  refine ls F W Aa (Ag F Aa).q fun a w F W => ?_
  refine Ad (Ac (Az ?_))
  have W := W.nilRow 9 Rp.str
  refine BG H (fun s a w => ∃ v4 : Value, Fr 36 [] [(1, .string (bs p1)), (4, .string (bs ([] : List UInt8))), (5, v4), (9, v1), (10, .int .i64 (p0.length : Int)), (11, .int .i64 s.2)] a ∧ Stw ⟨Y, [], w0⟩ [] [row v4 9 Rp.str s.1] w) ⟨(Value.slice none 0 0), F.re ⟨rfl, Aa, Aa, Aa, Aa, Aa, trivial⟩, W⟩ fun s o a w H L2 hR => ?_
  obtain ⟨x2, x3⟩ := s
  obtain ⟨v4, F, W⟩ := hR
  have F : Fr 36 [] [(1, .string (bs p1)), (4, .string (bs ([] : List UInt8))), (5, v4), (9, v1), (10, .int .i64 (p0.length : Int)), (11, .int .i64 x3)] a := F
  have W : Stw ⟨Y, [], w0⟩ [] [row v4 9 Rp.str x2] w := W
  rw [EO] at H
  refine Ah (Ab ?_)
  refine ls F W Aa (Cu F Aa Aa).q fun a w F W => ?_
  refine Ad (Ac (Ah ?_))
  refine Aw F Aa (fun hb => ?_) fun hb => ?_
  ·
   have H := AV (Bg hb) H
   rw [hb] at F
   refine Ay (Ac (Ah (Az (Ah (Ab ?_)))))
   obtain ⟨x4, h2, H⟩ := Am H
   obtain ⟨v5, h3, h4⟩ := Ez h1 h2
   have h5 : Hl v5 = [.int .i64 x4.un.1, .int .i64 x4.un.2.1, .int .i64 x4.un.2.2.1, (v5.2.2.2.1)] := congrArg (fun q : Tr36 => ([.int .i64 q.un.1, .int .i64 q.un.2.1, .int .i64 q.un.2.2.1, (v5.2.2.2.1)] : List Value)) h4
   refine ls F W Aa (AM (r := HW) Ps F Aa Aa (Aq h_v1) h3).q fun a w F W => ?_
   refine ls F W Aa (AA (y := Value.agg #[.int .i64 x4.un.1, .int .i64 x4.un.2.1, .int .i64 x4.un.2.2.1, (v5.2.2.2.1)]) (j := 0) (i := x3) (enc := Hl) F Aa Aa (Aq h_v1) h3 MD ER (by rw [h5]; rfl)).q fun a w F W => ?_
   refine Co (cs := [.int .i64 0, .int .i64 0, .int .i64 0, .slice none 0 0]) F W Aa QT Aa fun b1 a w F W => ?_
   refine Be (vs := [.int .i64 x4.un.1, .int .i64 x4.un.2.1, .int .i64 x4.un.2.2.1, (v5.2.2.2.1)]) (M' := [(b1, [.int .i64 x4.un.1, .int .i64 x4.un.2.1, .int .i64 x4.un.2.2.1, (v5.2.2.2.1)])]) 0 F W Aa Aa Aa ER Aa Aa Aa (An Aa (An Aa (An Aa (An ((Cn (Aq h_v1) h3 (AC.snd (AC.snd (AC.snd AC.here))) (congrArg (fun q : Tr36 => q.un.2.2.2) h4)) _ W).one Cq)))) Aa fun w W => ?_
   refine Ad (Ac (Ah (Ab ?_)))
   refine ls F W Aa (Ao (v := Value.agg #[.int .i64 x4.un.1, .int .i64 x4.un.2.1, .int .i64 x4.un.2.2.1, (v5.2.2.2.1)]) 0 F Aa Aa ER Aa).q fun a w F W => ?_
   obtain ⟨x5, h6, H⟩ := Am H
   refine ls F W Aa (A3 (v := Value.string (bs x5)) F Xz Aa (fun w W => ih_pred_Text any w ((v5.2.2.2.1)) x4 _ h6 (((Cn (Aq h_v1) h3 (AC.snd (AC.snd (AC.snd AC.here))) (congrArg (fun q : Tr36 => q.un.2.2.2) h4)) : D1 _ _ _ _ _ _) w W).nx (hG.go0 W))) fun a w F W => ?_
   refine ls F W Aa (Ae F Aa).q fun a w F W => ?_
   refine Ad (Ac ?_)
   obtain ⟨o3, G3, K3⟩ := Am H
   refine AO (fun a w => ∃ x6 : List UInt8, some (x6) = some o3 ∧ Fr 36 [] [(1, .string (bs p1)), (4, .string (bs ([] : List UInt8))), (5, v4), (8, .string (bs x6)), (9, v1), (10, .int .i64 (p0.length : Int)), (11, .int .i64 x3)] a ∧ Stw ⟨Y, [], w0⟩ [(b1, [.int .i64 x4.un.1, .int .i64 x4.un.2.1, .int .i64 x4.un.2.2.1, (v5.2.2.2.1)])] [row v4 9 Rp.str x2] w) ?_ ?_
   ·
    have H := G3
    refine AO (fun a w => Fr 36 [] [(1, .string (bs p1)), (4, .string (bs ([] : List UInt8))), (5, v4), (8, .string (bs x5)), (9, v1), (10, .int .i64 (p0.length : Int)), (11, .int .i64 x3), (24, .bool (decide (x4.un.1 = 5) || decide (x4.un.1 = 6)))] a ∧ Stw ⟨Y, [], w0⟩ [(b1, [.int .i64 x4.un.1, .int .i64 x4.un.2.1, .int .i64 x4.un.2.2.1, (v5.2.2.2.1)])] [row v4 9 Rp.str x2] w) ?_ ?_
    ·
     refine Ab ?_
     refine ls F W Aa (Ai Dt Aa Aa Aa T3 F Aa 0 Aa).q fun a w F W => ?_
     refine ls F W Aa (Ao (v := Value.int .i64 x4.un.1) 0 F Aa Aa T3 Aa).q fun a w F W => ?_
     refine ls F W Aa (A7 F Aa Aa).q fun a w F W => ?_
     refine ls F W Aa (Ag F Aa).q fun a w F W => ?_
     rcases bxq (decide (x4.un.1 = 5)) with hb0 | hb0
     ·
      rw [hb0] at F
      iterate 3 refine Dz F Aa Aa Aa Aa Aa Aa Aa fun a F => ?_
      refine ls F W Aa (Ax F Aa Aa Aa).q fun a w F W => ?_
      refine Ad (Ac ?_)
      exact ⟨F.re ⟨rfl, Aa, Aa, Aa, Aa, Aa, Aa, (by show some (Value.bool true) = some (Value.bool (decide (x4.un.1 = 5) || decide (x4.un.1 = 6))); try rw [hb0]; all_goals simp only [Bool.not_true, Bool.not_false, Bool.true_and, Bool.false_and, Bool.true_or, Bool.false_or, Bool.and_true, Bool.or_false, cond_true, cond_false]), trivial⟩, W⟩
     rw [hb0] at F
     refine AK F W (Af F Aa Aa Aa Aa) Aa (Ak Aa) (Ai Dt Aa Aa Aa T3 F Aa 0 Aa).q fun a w F W => ?_
     refine AK F W (Af F Aa Aa Aa Aa) Aa (Ak Aa) (Ao (v := Value.int .i64 x4.un.1) 0 F Aa Aa T3 Aa).q fun a w F W => ?_
     refine AK F W (Af F Aa Aa Aa Aa) Aa (Ak Aa) (A7 F Aa Aa).q fun a w F W => ?_
     refine ls F W Aa (As F Aa Aa Aa).q fun a w F W => ?_
     refine Ad (Ac ?_)
     exact ⟨F.re ⟨rfl, Aa, Aa, Aa, Aa, Aa, Aa, (by show some (Value.bool (decide (x4.un.1 = 6))) = some (Value.bool (decide (x4.un.1 = 5) || decide (x4.un.1 = 6))); try rw [hb0]; all_goals simp only [Bool.not_true, Bool.not_false, Bool.true_and, Bool.false_and, Bool.true_or, Bool.false_or, Bool.and_true, Bool.or_false, cond_true, cond_false]), trivial⟩, W⟩
    rintro a w ⟨F, W⟩
    refine Aw F Aa (fun hb => ?_) fun hb => ?_
    ·
     have H := AV hb H
     rw [hb] at F
     refine Ab ?_
     refine ls F W Aa (Ag F Aa).q fun a w F W => ?_
     obtain ⟨x7, h7, H⟩ := Am H
     refine ls F W Aa (IK (l := ([40] : List UInt8)) (m := x5) F Aa Aa h7).q fun a w F W => ?_
     obtain ⟨x8, h8, H⟩ := Am H
     refine ls F W Aa (IK (l := x7) (m := ([41] : List UInt8)) F Aa Aa h8).q fun a w F W => ?_
     refine ls F W Aa (Ae F Aa).q fun a w F W => ?_
     refine Ad (Ac ?_)
     exact ⟨_, H, F.re ⟨rfl, Aa, Aa, Aa, Aa, Aa, Aa, trivial⟩, W⟩
    have H := AR (by rw [hb]; decide) H
    rw [hb] at F
    refine Ay (Ac ?_)
    exact ⟨_, H, F.re ⟨rfl, Aa, Aa, Aa, Aa, Aa, Aa, trivial⟩, W⟩
   rintro a w ⟨x6, hj, F, W⟩
   have hj := AP hj
   subst hj
   have H := K3
   refine Ab ?_
   iterate 2 refine ls F W Aa (Ag F Aa).q fun a w F W => ?_
   refine Ke (z := Value.string (bs ([] : List UInt8))) (cs := [.string (bs x6)]) Rp.str ([x6] : List (List UInt8)) F W Aa UM Z9 Aa Aa Aa Aa Aa Aa (Fl.str.repL _ _ ([x6] : List (List UInt8))) fun v6 a w F W => ?_
   obtain ⟨x9, h9, H⟩ := Am H
   refine Fm (r := Rp.str) (i := 1) F W Aa UM Aa Aa Aa Aa (GC W 0 Aa) h9 Aa fun v7 a w F W => ?_
   have W : Stw ⟨Y, [], w0⟩ [(b1, [.int .i64 x4.un.1, .int .i64 x4.un.2.1, .int .i64 x4.un.2.2.1, (v5.2.2.2.1)])] [row v7 9 Rp.str x9, row v6 9 Rp.str ([x6] : List (List UInt8))] w := W
   refine ls F W Aa (Ae F Aa).q fun a w F W => ?_
   refine Ad (AU (Ac (Ab ?_)))
   refine ls F W Aa (BL F Aa Aa Aa).q fun a w F W => ?_
   refine ls F W Aa (Ag F Aa).q fun a w F W => ?_
   refine Ad (Ac ?_)
   have W := W.sub (M' := []) (Z' := [row v7 9 Rp.str x9]) (List.nil_sublist _) (List.Sublist.cons_cons _ (List.nil_sublist _))
   exact ⟨_, H, (v7), F.re ⟨rfl, Aa, Aa, Aa, Aa, Aa, trivial⟩, W⟩
  have H := AR (Bf hb) H
  rw [hb] at F
  refine Bz ?_
  iterate 2 refine BS ?_
  refine Bx (Ac ?_)
  have H := L2 _ H
  exact ⟨_, (v4), H, F.re ⟨rfl, Aa, Aa, trivial⟩, W⟩
 rintro a w ⟨x1, v3, hj, F, W⟩
 have hj := AP hj
 subst hj
 have H := K1
 refine Ah (Ab ?_)
 iterate 2 refine ls F W Aa (Ag F Aa).q fun a w F W => ?_
 obtain ⟨x10, h10, H⟩ := Am H
 refine ls F W Aa (A3 (v := Value.string (bs x10)) F WJ Aa (fun w W => Rn any w (v3) x1 p1 _ h10 (((Au 0 Aa) : D1 _ _ _ _ _ _) w W).nx)) fun a w F W => ?_
 refine ls F W Aa (Ae F Aa).q fun a w F W => ?_
 refine Ad (Ac (Av ?_))
 have H := AP H
 subst H
 refine AJ (.inl Aa) F W Aa (AB F Aa) ?_
 exact ⟨rfl, W.done⟩
end
end Go.Proofs.YtgoifghhcekahaaGreatDoor
