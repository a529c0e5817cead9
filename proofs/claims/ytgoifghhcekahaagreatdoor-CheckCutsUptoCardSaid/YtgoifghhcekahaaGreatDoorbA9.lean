/- The functions of layer 30, JA. Conditions: none. -/
import Derived.Test.YtgoifghhcekahaaGreatDoorbA8
namespace Go.Proofs.YtgoifghhcekahaaGreatDoor
open Go Go.RowKit
set_option linter.unusedVariables false
set_option linter.unusedSimpArgs false
set_option maxRecDepth 20000
theorem YJ : type_of% Tryz.underlying4 := Tryz.underlying4
theorem X9 : Has Tryz.prog 26 := ⟨fun args w => Aj Tryz.func26 rfl (by decide) args w⟩
noncomputable def I5 (p0 : Tr28) (p1 : Int) (p2 : Int) (p3 : Int × Int × Int × Int) : Option Bool := (KP p0).bind fun x1 => (if (!x1) = true then (IB).bind fun x2 => some x2 else (P8 p0).bind fun x3 => (KQ x3 p1).bind fun x4 => ((M9 x4).bind fun x6 => (RA p0 p1).bind fun x7 => (PN x6 x7).bind fun x8 => (if x8 = true then (JJ x4 (-1) p2 p3).bind fun x9 => (JJ x3 p1 p2 p3).bind fun x10 => (if x9 = x10 then (GZ x4).bind fun x11 => (if x11 = true then (FZ x4 5).bind fun x12 => (if (x12.length : Int) = 0 then (IB).bind fun x13 => some x13 else some false) else some false) else some false) else some false)).bind fun x5 => some x5)
theorem OS (Y : Nat → Prop) (w0 : World) (v1 : Value) (p0 : Tr28) (p1 : Int) (p2 : Int) (p3 : Int × Int × Int × Int) (r : Bool) (H : I5 p0 p1 p2 p3 = some r) (s_v1 : Sl w0 Y EC v1 p0.un.2.2.2) (hG : Gk [] w0) :
    Calls Tryz.prog 4 #[.agg #[.int .i64 p0.un.1, .int .i64 p0.un.2.1, .int .i64 p0.un.2.2.1, v1], .int .i64 p1, .int .i64 p2, .agg #[.int .i64 p3.1, .int .i64 p3.2.1, .int .i64 p3.2.2.1, .int .i64 p3.2.2.2]] w0 fun e w' => e = .returned (.bool r) ∧ Below w0.heap.size w0 w' := by
 refine enter Tryz.func4 Aa Tryz.ntmps4 Aa fun a F => ?_
 have W := Stw.start Y w0
 obtain ⟨v2, h1, s_v1⟩ := s_v1.ex HJ
 have h_v1 := W.nx s_v1
 unfold I5 at H
 refine Ah (Ab ?_)
 refine CS (cs := [.int .i64 p0.un.1, .int .i64 p0.un.2.1, .int .i64 p0.un.2.2.1, v1]) F W Aa Aa Aa fun b1 a w F W => ?_
 refine CS (cs := [.int .i64 p3.1, .int .i64 p3.2.1, .int .i64 p3.2.2.1, .int .i64 p3.2.2.2]) F W Aa Aa Aa fun b2 a w F W => ?_
 refine ls F W Aa (Ae F Aa).q fun a w F W => ?_
 refine Ad (Ac (Ah (Ah (Ab ?_))))
 refine ls F W Aa (Ao (v := Value.agg #[.int .i64 p0.un.1, .int .i64 p0.un.2.1, .int .i64 p0.un.2.2.1, v1]) 1 F Aa Aa Kh Aa).q fun a w F W => ?_
 obtain ⟨x1, h2, H⟩ := Am H
 refine ls F W Aa (A3 (v := Value.bool x1) F YD Aa (fun w W => R3 any w (v1) p0 _ h2 (((AH HJ h1 (Aq h_v1)) : D1 _ _ _ _ _ _) w W).nx)) fun a w F W => ?_
 refine ls F W Aa (F4 F Aa).q fun a w F W => ?_
 refine Ad (Ac ?_)
 refine Aw F Aa (fun hb => ?_) fun hb => ?_
 ·
  have H := AV hb H
  rw [hb] at F
  refine Ah (Ab ?_)
  obtain ⟨x2, h3, H⟩ := Am H
  refine ls F W Aa (A3 (v := Value.bool x2) F H7 Aa (fun w W => OK any w _ h3 (hG.go0 W))) fun a w F W => ?_
  refine ls F W Aa (Ae F Aa).q fun a w F W => ?_
  refine Ad (Ac (Av (AN ?_)))
  have H := AP H
  subst H
  refine AJ (.inl Aa) F W Aa (AB F Aa) ?_
  exact ⟨rfl, W.done⟩
 have H := AR (by rw [hb]; decide) H
 rw [hb] at F
 refine Ay (Ac (Ah (Ab ?_)))
 refine ls F W Aa (Ao (v := Value.agg #[.int .i64 p0.un.1, .int .i64 p0.un.2.1, .int .i64 p0.un.2.2.1, v1]) 1 F Aa Aa Kh Aa).q fun a w F W => ?_
 obtain ⟨x3, h4, H⟩ := Am H
 refine Bj (Ml := []) (Zl := []) (M := [(b2, [.int .i64 p3.1, .int .i64 p3.2.1, .int .i64 p3.2.2.1, .int .i64 p3.2.2.2]), (b1, [.int .i64 p0.un.1, .int .i64 p0.un.2.1, .int .i64 p0.un.2.2.1, v1])]) (Z := []) (β := Value) (rv := fun x => .agg #[.int .i64 x3.un.1, .int .i64 x3.un.2.1, .int .i64 x3.un.2.2.1, x]) (MM := fun x => []) (ZZ := fun x => [row x 36 BF x3.un.2.2.2]) F W X2 Aa Aa (fun hL => SD _ w (v1) p0 _ h4 ((AH HJ h1 (Aq h_v1)) w W).nx) fun x a w F W => ?_
 obtain ⟨v3, rfl⟩ : ∃ y, y = x := ⟨x, rfl⟩
 have W : Stw ⟨Y, [], w0⟩ [(b2, [.int .i64 p3.1, .int .i64 p3.2.1, .int .i64 p3.2.2.1, .int .i64 p3.2.2.2]), (b1, [.int .i64 p0.un.1, .int .i64 p0.un.2.1, .int .i64 p0.un.2.2.1, v1])] [row v3 36 BF x3.un.2.2.2] w := W
 refine Co (cs := [.int .i64 0, .int .i64 0, .int .i64 0, .slice none 0 0]) F W Aa QT Aa fun b3 a w F W => ?_
 refine Be (vs := [.int .i64 x3.un.1, .int .i64 x3.un.2.1, .int .i64 x3.un.2.2.1, v3]) (M' := [(b3, [.int .i64 x3.un.1, .int .i64 x3.un.2.1, .int .i64 x3.un.2.2.1, v3]), (b2, [.int .i64 p3.1, .int .i64 p3.2.1, .int .i64 p3.2.2.1, .int .i64 p3.2.2.2]), (b1, [.int .i64 p0.un.1, .int .i64 p0.un.2.1, .int .i64 p0.un.2.2.1, v1])]) 0 F W Aa Aa Aa ER Aa Aa Aa (An Aa (An Aa (An Aa (An (W.one (k := 0) Aa) Cq)))) Aa fun w W => ?_
 refine Ad (Ac (Ah (Ab ?_)))
 refine ls F W Aa (Ao (v := Value.agg #[.int .i64 x3.un.1, .int .i64 x3.un.2.1, .int .i64 x3.un.2.2.1, v3]) 0 F Aa Aa ER Aa).q fun a w F W => ?_
 refine ls F W Aa (Ag F Aa).q fun a w F W => ?_
 obtain ⟨x4, h5, H⟩ := Am H
 refine Bj (Ml := []) (Zl := []) (M := [(b3, [.int .i64 x3.un.1, .int .i64 x3.un.2.1, .int .i64 x3.un.2.2.1, v3]), (b2, [.int .i64 p3.1, .int .i64 p3.2.1, .int .i64 p3.2.2.1, .int .i64 p3.2.2.2]), (b1, [.int .i64 p0.un.1, .int .i64 p0.un.2.1, .int .i64 p0.un.2.2.1, v1])]) (Z := [row v3 36 BF x3.un.2.2.2]) (β := Value) (rv := fun x => .agg #[.int .i64 x4.un.1, .int .i64 x4.un.2.1, .int .i64 x4.un.2.2.1, x]) (MM := fun x => []) (ZZ := fun x => [DE x BF x4.un.2.2.2]) F W W9 Aa Aa (fun hL => OI _ w (v3) x3 p1 _ h5 ((Au 0 Aa) w W).nx) fun x a w F W => ?_
 obtain ⟨v4, rfl⟩ : ∃ y, y = x := ⟨x, rfl⟩
 have W : Stw ⟨Y, [], w0⟩ [(b3, [.int .i64 x3.un.1, .int .i64 x3.un.2.1, .int .i64 x3.un.2.2.1, v3]), (b2, [.int .i64 p3.1, .int .i64 p3.2.1, .int .i64 p3.2.2.1, .int .i64 p3.2.2.2]), (b1, [.int .i64 p0.un.1, .int .i64 p0.un.2.1, .int .i64 p0.un.2.2.1, v1])] [DE v4 BF x4.un.2.2.2, row v3 36 BF x3.un.2.2.2] w := W
 refine Co (cs := [.int .i64 0, .int .i64 0, .int .i64 0, .slice none 0 0]) F W Aa QT Aa fun b4 a w F W => ?_
 refine Be (vs := [.int .i64 x4.un.1, .int .i64 x4.un.2.1, .int .i64 x4.un.2.2.1, v4]) (M' := [(b4, [.int .i64 x4.un.1, .int .i64 x4.un.2.1, .int .i64 x4.un.2.2.1, v4]), (b3, [.int .i64 x3.un.1, .int .i64 x3.un.2.1, .int .i64 x3.un.2.2.1, v3]), (b2, [.int .i64 p3.1, .int .i64 p3.2.1, .int .i64 p3.2.2.1, .int .i64 p3.2.2.2]), (b1, [.int .i64 p0.un.1, .int .i64 p0.un.2.1, .int .i64 p0.un.2.2.1, v1])]) 0 F W Aa Aa Aa ER Aa Aa Aa (An Aa (An Aa (An Aa (An (W.oneF (k := 0) Aa) Cq)))) Aa fun w W => ?_
 refine Ad (Ac ?_)
 obtain ⟨o1, G1, K1⟩ := Am H
 refine AO (fun a w => ∃ x5 : Bool, some (x5) = some o1 ∧ Fr 51 [] [(8, .bool x5)] a ∧ Stw ⟨Y, [], w0⟩ [(b4, [.int .i64 x4.un.1, .int .i64 x4.un.2.1, .int .i64 x4.un.2.2.1, v4]), (b3, [.int .i64 x3.un.1, .int .i64 x3.un.2.1, .int .i64 x3.un.2.2.1, v3]), (b2, [.int .i64 p3.1, .int .i64 p3.2.1, .int .i64 p3.2.2.1, .int .i64 p3.2.2.2]), (b1, [.int .i64 p0.un.1, .int .i64 p0.un.2.1, .int .i64 p0.un.2.2.1, v1])] [DE v4 BF x4.un.2.2.2, row v3 36 BF x3.un.2.2.2] w) ?_ ?_
 ·
  have H := G1
  refine GP [(true, 0), (true, 2), (true, 3), (false, 1), (false, 4), (false, 5), (true, 6), (true, 7), (true, 8), (true, 9), (true, 11), (true, 12), (true, 13), (true, 14), (false, 10), (false, 15), (true, 16), (true, 17), (true, 18), (true, 19), (false, 20), (true, 21), (true, 22), (true, 23), (false, 24), (true, 25), (true, 26), (true, 27), (true, 28), (false, 29), (true, 30), (false, 31)] (CN ⟨Y, [], w0⟩ [(some 1, b4, [.int .i64 x4.un.1, .int .i64 x4.un.2.1, .int .i64 x4.un.2.2.1, v4]), (some 4, b1, [.int .i64 p0.un.1, .int .i64 p0.un.2.1, .int .i64 p0.un.2.2.1, v1])] []) (fun ch a d v w h => by cases d <;> exact h) MO (by kernel_rfl) W (fun w W => ⟨_, _, W, (Al (fun _ => (.head _)) (Al (fun _ => (.tail _ (.tail _ (.tail _ (.head _))))) AE)), AE⟩) fun w W => ?_
  refine BK (R := [1]) F Aa Aa (yC fun M Z hN hZ => Fj (cs := [.int .i64 x4.un.1, .int .i64 x4.un.2.1, .int .i64 x4.un.2.2.1, v4]) (v := Value.agg #[.int .i64 x4.un.1, .int .i64 x4.un.2.1, .int .i64 x4.un.2.2.1, v4]) F Aa (hN ((some 1), b4, [.int .i64 x4.un.1, .int .i64 x4.un.2.1, .int .i64 x4.un.2.2.1, v4]) (.head _) Aa) ER Aa) (by kernel_rfl) Aa fun a F => ?_
  refine BK (R := [4]) F Aa Aa (yC fun M Z hN hZ => Fj (cs := [.int .i64 p0.un.1, .int .i64 p0.un.2.1, .int .i64 p0.un.2.2.1, v1]) (v := Value.agg #[.int .i64 p0.un.1, .int .i64 p0.un.2.1, .int .i64 p0.un.2.2.1, v1]) F Aa (hN ((some 4), b1, [.int .i64 p0.un.1, .int .i64 p0.un.2.1, .int .i64 p0.un.2.2.1, v1]) (.tail _ (.head _)) Aa) Kh Aa) (by kernel_rfl) Aa fun a F => ?_
  refine BK (R := []) F Aa Aa (yC fun M Z hN hZ => Ag F Aa) Aa Aa fun a F => ?_
  refine EK Aa ?_
  obtain ⟨x6, h6, H⟩ := Am H
  refine Bj (Ml := []) (Zl := []) (M := [(b4, [.int .i64 x4.un.1, .int .i64 x4.un.2.1, .int .i64 x4.un.2.2.1, v4]), (b3, [.int .i64 x3.un.1, .int .i64 x3.un.2.1, .int .i64 x3.un.2.2.1, v3]), (b2, [.int .i64 p3.1, .int .i64 p3.2.1, .int .i64 p3.2.2.1, .int .i64 p3.2.2.2]), (b1, [.int .i64 p0.un.1, .int .i64 p0.un.2.1, .int .i64 p0.un.2.2.1, v1])]) (Z := [DE v4 BF x4.un.2.2.2, row v3 36 BF x3.un.2.2.2]) (β := Value) (rv := fun x => .agg #[.int .i64 x6.un.1, .int .i64 x6.un.2.1, .int .i64 x6.un.2.2.1, x]) (MM := fun x => []) (ZZ := fun x => [row x 28 EC x6.un.2.2.2]) F W XN Aa Aa (fun hL => RH _ w (v4) x4 _ h6 ((I0 0 Aa) w W).nx) fun x a w F W => ?_
  obtain ⟨v5, rfl⟩ : ∃ y, y = x := ⟨x, rfl⟩
  have W : Stw ⟨Y, [], w0⟩ [(b4, [.int .i64 x4.un.1, .int .i64 x4.un.2.1, .int .i64 x4.un.2.2.1, v4]), (b3, [.int .i64 x3.un.1, .int .i64 x3.un.2.1, .int .i64 x3.un.2.2.1, v3]), (b2, [.int .i64 p3.1, .int .i64 p3.2.1, .int .i64 p3.2.2.1, .int .i64 p3.2.2.2]), (b1, [.int .i64 p0.un.1, .int .i64 p0.un.2.1, .int .i64 p0.un.2.2.1, v1])] [row v5 28 EC x6.un.2.2.2, DE v4 BF x4.un.2.2.2, row v3 36 BF x3.un.2.2.2] w := W
  refine BP (N2 := []) (NZ2 := []) (N3 := [(some 1, b4, [.int .i64 x4.un.1, .int .i64 x4.un.2.1, .int .i64 x4.un.2.2.1, v4]), (some 4, b1, [.int .i64 p0.un.1, .int .i64 p0.un.2.1, .int .i64 p0.un.2.2.1, v1])]) (NZ3 := []) W Aa Aa (Al (fun h => Ap (by kernel_rfl) h) (Al (fun _ => (.tail _ (.tail _ (.tail _ (.head _))))) AE)) AE ?_
  refine EK Aa ?_
  obtain ⟨x7, h7, H⟩ := Am H
  refine Bj (Ml := []) (Zl := []) (M := [(b4, [.int .i64 x4.un.1, .int .i64 x4.un.2.1, .int .i64 x4.un.2.2.1, v4]), (b3, [.int .i64 x3.un.1, .int .i64 x3.un.2.1, .int .i64 x3.un.2.2.1, v3]), (b2, [.int .i64 p3.1, .int .i64 p3.2.1, .int .i64 p3.2.2.1, .int .i64 p3.2.2.2]), (b1, [.int .i64 p0.un.1, .int .i64 p0.un.2.1, .int .i64 p0.un.2.2.1, v1])]) (Z := [row v5 28 EC x6.un.2.2.2, DE v4 BF x4.un.2.2.2, row v3 36 BF x3.un.2.2.2]) (β := Value) (rv := fun x => .agg #[.int .i64 x7.un.1, .int .i64 x7.un.2.1, .int .i64 x7.un.2.2.1, x]) (MM := fun x => []) (ZZ := fun x => [DE x EC x7.un.2.2.2]) F W Xj Aa Aa (fun hL => Tm _ w (v1) p0 p1 _ h7 (Sl.hide HJ h1 (W.old s_v1))) fun x a w F W => ?_
  obtain ⟨v6, rfl⟩ : ∃ y, y = x := ⟨x, rfl⟩
  have W : Stw ⟨Y, [], w0⟩ [(b4, [.int .i64 x4.un.1, .int .i64 x4.un.2.1, .int .i64 x4.un.2.2.1, v4]), (b3, [.int .i64 x3.un.1, .int .i64 x3.un.2.1, .int .i64 x3.un.2.2.1, v3]), (b2, [.int .i64 p3.1, .int .i64 p3.2.1, .int .i64 p3.2.2.1, .int .i64 p3.2.2.2]), (b1, [.int .i64 p0.un.1, .int .i64 p0.un.2.1, .int .i64 p0.un.2.2.1, v1])] [DE v6 EC x7.un.2.2.2, row v5 28 EC x6.un.2.2.2, DE v4 BF x4.un.2.2.2, row v3 36 BF x3.un.2.2.2] w := W
  refine BP (N2 := []) (NZ2 := []) (N3 := [(some 1, b4, [.int .i64 x4.un.1, .int .i64 x4.un.2.1, .int .i64 x4.un.2.2.1, v4]), (some 4, b1, [.int .i64 p0.un.1, .int .i64 p0.un.2.1, .int .i64 p0.un.2.2.1, v1])]) (NZ3 := []) W Aa Aa (Al (fun h => Ap (by kernel_rfl) h) (Al (fun h => Ap (by kernel_rfl) h) AE)) AE ?_
  refine EK Aa ?_
  obtain ⟨x8, h8, H⟩ := Am H
  refine ls F W Aa (A3 (v := Value.bool x8) F X8 Aa (fun w W => Sv any w (v5) (v6) x6 x7 _ h8 (((Au 1 Aa) : D1 _ _ _ _ _ _) w W).nx (((I0 0 Aa) : D1 _ _ _ _ _ _) w W).nx)) fun a w F W => ?_
  refine BP (N2 := [(some 10, b4, [.int .i64 x4.un.1, .int .i64 x4.un.2.1, .int .i64 x4.un.2.2.1, v4]), (some 10, b2, [.int .i64 p3.1, .int .i64 p3.2.1, .int .i64 p3.2.2.1, .int .i64 p3.2.2.2]), (some 15, b3, [.int .i64 x3.un.1, .int .i64 x3.un.2.1, .int .i64 x3.un.2.2.1, v3]), (some 15, b2, [.int .i64 p3.1, .int .i64 p3.2.1, .int .i64 p3.2.2.1, .int .i64 p3.2.2.2])]) (NZ2 := []) (N3 := [(some 1, b4, [.int .i64 x4.un.1, .int .i64 x4.un.2.1, .int .i64 x4.un.2.2.1, v4]), (some 4, b1, [.int .i64 p0.un.1, .int .i64 p0.un.2.1, .int .i64 p0.un.2.2.1, v1]), (some 10, b4, [.int .i64 x4.un.1, .int .i64 x4.un.2.1, .int .i64 x4.un.2.2.1, v4]), (some 10, b2, [.int .i64 p3.1, .int .i64 p3.2.1, .int .i64 p3.2.2.1, .int .i64 p3.2.2.2]), (some 15, b3, [.int .i64 x3.un.1, .int .i64 x3.un.2.1, .int .i64 x3.un.2.2.1, v3]), (some 15, b2, [.int .i64 p3.1, .int .i64 p3.2.1, .int .i64 p3.2.2.1, .int .i64 p3.2.2.2])]) (NZ3 := []) W Aa Aa (Al (fun h => Ap (by kernel_rfl) h) (Al (fun h => Ap (by kernel_rfl) h) (Al (fun _ => (.head _)) (Al (fun _ => (.tail _ (.tail _ (.head _)))) (Al (fun _ => (.tail _ (.head _))) (Al (fun _ => (.tail _ (.tail _ (.head _)))) AE)))))) AE ?_
  refine BK (R := []) F Aa Aa (yC fun M Z hN hZ => Ag F Aa) Aa Aa fun a F => ?_
  rcases bxq x8 with hb | hb
  ·
   have H := AV hb H
   rw [hb] at F
   refine Qc (R := [10]) F Aa (Af F Aa Aa Aa Aa) Aa Aa (yC fun M Z hN hZ => Fj (cs := [.int .i64 x4.un.1, .int .i64 x4.un.2.1, .int .i64 x4.un.2.2.1, v4]) (v := Value.agg #[.int .i64 x4.un.1, .int .i64 x4.un.2.1, .int .i64 x4.un.2.2.1, v4]) F Aa (hN ((some 10), b4, [.int .i64 x4.un.1, .int .i64 x4.un.2.1, .int .i64 x4.un.2.2.1, v4]) (.tail _ (.tail _ (.head _))) Aa) ER Aa) (by kernel_rfl) Aa fun a F => ?_
   refine Qc (R := []) F Aa (Af F Aa Aa Aa Aa) Aa Aa (yC fun M Z hN hZ => Ag F Aa) Aa Aa fun a F => ?_
   refine Qc (R := [10]) F Aa (Af F Aa Aa Aa Aa) Aa Aa (yC fun M Z hN hZ => Fj (cs := [.int .i64 p3.1, .int .i64 p3.2.1, .int .i64 p3.2.2.1, .int .i64 p3.2.2.2]) (v := Value.agg #[.int .i64 p3.1, .int .i64 p3.2.1, .int .i64 p3.2.2.1, .int .i64 p3.2.2.2]) F Aa (hN ((some 10), b2, [.int .i64 p3.1, .int .i64 p3.2.1, .int .i64 p3.2.2.1, .int .i64 p3.2.2.2]) (.tail _ (.tail _ (.tail _ (.head _)))) Aa) V0 Aa) (by kernel_rfl) Aa fun a F => ?_
   refine Qc (R := [15]) F Aa (Af F Aa Aa Aa Aa) Aa Aa (yC fun M Z hN hZ => Fj (cs := [.int .i64 x3.un.1, .int .i64 x3.un.2.1, .int .i64 x3.un.2.2.1, v3]) (v := Value.agg #[.int .i64 x3.un.1, .int .i64 x3.un.2.1, .int .i64 x3.un.2.2.1, v3]) F Aa (hN ((some 15), b3, [.int .i64 x3.un.1, .int .i64 x3.un.2.1, .int .i64 x3.un.2.2.1, v3]) (.tail _ (.tail _ (.tail _ (.tail _ (.head _))))) Aa) ER Aa) (by kernel_rfl) Aa fun a F => ?_
   iterate 2 refine Qc (R := []) F Aa (Af F Aa Aa Aa Aa) Aa Aa (yC fun M Z hN hZ => Ag F Aa) Aa Aa fun a F => ?_
   refine Qc (R := [15]) F Aa (Af F Aa Aa Aa Aa) Aa Aa (yC fun M Z hN hZ => Fj (cs := [.int .i64 p3.1, .int .i64 p3.2.1, .int .i64 p3.2.2.1, .int .i64 p3.2.2.2]) (v := Value.agg #[.int .i64 p3.1, .int .i64 p3.2.1, .int .i64 p3.2.2.1, .int .i64 p3.2.2.2]) F Aa (hN ((some 15), b2, [.int .i64 p3.1, .int .i64 p3.2.1, .int .i64 p3.2.2.1, .int .i64 p3.2.2.2]) (.tail _ (.tail _ (.tail _ (.tail _ (.tail _ (.head _)))))) Aa) V0 Aa) (by kernel_rfl) Aa fun a F => ?_
   refine EK Aa ?_
   refine KH (Af F Aa Aa Aa Aa) ?_
   obtain ⟨x9, h9, H⟩ := Am H
   refine ls F W Aa (A3 (v := Value.bool x9) F X9 Aa (fun w W => Oj any w (v4) x4 (-1) p2 p3 _ h9 (((I0 2 Aa) : D1 _ _ _ _ _ _) w W).nx)) fun a w F W => ?_
   refine BP (N2 := []) (NZ2 := []) (N3 := [(some 1, b4, [.int .i64 x4.un.1, .int .i64 x4.un.2.1, .int .i64 x4.un.2.2.1, v4]), (some 4, b1, [.int .i64 p0.un.1, .int .i64 p0.un.2.1, .int .i64 p0.un.2.2.1, v1]), (some 10, b4, [.int .i64 x4.un.1, .int .i64 x4.un.2.1, .int .i64 x4.un.2.2.1, v4]), (some 10, b2, [.int .i64 p3.1, .int .i64 p3.2.1, .int .i64 p3.2.2.1, .int .i64 p3.2.2.2]), (some 15, b3, [.int .i64 x3.un.1, .int .i64 x3.un.2.1, .int .i64 x3.un.2.2.1, v3]), (some 15, b2, [.int .i64 p3.1, .int .i64 p3.2.1, .int .i64 p3.2.2.1, .int .i64 p3.2.2.2])]) (NZ3 := []) W Aa Aa (Al (fun h => Ap (by kernel_rfl) h) (Al (fun h => Ap (by kernel_rfl) h) (Al (fun h => Ap (by kernel_rfl) h) (Al (fun h => Ap (by kernel_rfl) h) (Al (fun _ => (.tail _ (.head _))) (Al (fun _ => (.tail _ (.tail _ (.head _)))) AE)))))) AE ?_
   refine EK Aa ?_
   refine KH (Af F Aa Aa Aa Aa) ?_
   obtain ⟨x10, h10, H⟩ := Am H
   refine ls F W Aa (A3 (v := Value.bool x10) F X9 Aa (fun w W => Oj any w (v3) x3 p1 p2 p3 _ h10 (((Au 3 Aa) : D1 _ _ _ _ _ _) w W).nx)) fun a w F W => ?_
   refine BP (N2 := [(some 20, b4, [.int .i64 x4.un.1, .int .i64 x4.un.2.1, .int .i64 x4.un.2.2.1, v4])]) (NZ2 := []) (N3 := [(some 1, b4, [.int .i64 x4.un.1, .int .i64 x4.un.2.1, .int .i64 x4.un.2.2.1, v4]), (some 4, b1, [.int .i64 p0.un.1, .int .i64 p0.un.2.1, .int .i64 p0.un.2.2.1, v1]), (some 10, b4, [.int .i64 x4.un.1, .int .i64 x4.un.2.1, .int .i64 x4.un.2.2.1, v4]), (some 10, b2, [.int .i64 p3.1, .int .i64 p3.2.1, .int .i64 p3.2.2.1, .int .i64 p3.2.2.2]), (some 15, b3, [.int .i64 x3.un.1, .int .i64 x3.un.2.1, .int .i64 x3.un.2.2.1, v3]), (some 15, b2, [.int .i64 p3.1, .int .i64 p3.2.1, .int .i64 p3.2.2.1, .int .i64 p3.2.2.2]), (some 20, b4, [.int .i64 x4.un.1, .int .i64 x4.un.2.1, .int .i64 x4.un.2.2.1, v4])]) (NZ3 := []) W Aa Aa (Al (fun h => Ap (by kernel_rfl) h) (Al (fun h => Ap (by kernel_rfl) h) (Al (fun h => Ap (by kernel_rfl) h) (Al (fun h => Ap (by kernel_rfl) h) (Al (fun h => Ap (by kernel_rfl) h) (Al (fun h => Ap (by kernel_rfl) h) (Al (fun _ => (.head _)) AE))))))) AE ?_
   refine Qc (R := []) F Aa (Af F Aa Aa Aa Aa) Aa Aa (yC fun M Z hN hZ => WD YJ F Aa Aa) Aa Aa fun a F => ?_
   refine BK (R := []) F Aa Aa (yC fun M Z hN hZ => Ax F Aa Aa Aa) Aa Aa fun a F => ?_
   refine BK (R := []) F Aa Aa (yC fun M Z hN hZ => Ag F Aa) Aa Aa fun a F => ?_
   rcases bxq (decide (x9 = x10)) with hb | hb
   ·
    have H := AV (Bg hb) H
    rw [hb] at F
    refine Qc (R := [20]) F Aa (Af F Aa Aa Aa Aa) Aa Aa (yC fun M Z hN hZ => Fj (cs := [.int .i64 x4.un.1, .int .i64 x4.un.2.1, .int .i64 x4.un.2.2.1, v4]) (v := Value.agg #[.int .i64 x4.un.1, .int .i64 x4.un.2.1, .int .i64 x4.un.2.2.1, v4]) F Aa (hN ((some 20), b4, [.int .i64 x4.un.1, .int .i64 x4.un.2.1, .int .i64 x4.un.2.2.1, v4]) (.tail _ (.tail _ (.tail _ (.tail _ (.tail _ (.tail _ (.head _))))))) Aa) ER Aa) (by kernel_rfl) Aa fun a F => ?_
    refine EK Aa ?_
    refine KH (Af F Aa Aa Aa Aa) ?_
    obtain ⟨x11, h11, H⟩ := Am H
    refine ls F W Aa (A3 (v := Value.bool x11) F XK Aa (fun w W => NW any w (v4) x4 _ h11 (((I0 2 Aa) : D1 _ _ _ _ _ _) w W).nx)) fun a w F W => ?_
    refine BP (N2 := [(some 24, b4, [.int .i64 x4.un.1, .int .i64 x4.un.2.1, .int .i64 x4.un.2.2.1, v4])]) (NZ2 := []) (N3 := [(some 1, b4, [.int .i64 x4.un.1, .int .i64 x4.un.2.1, .int .i64 x4.un.2.2.1, v4]), (some 4, b1, [.int .i64 p0.un.1, .int .i64 p0.un.2.1, .int .i64 p0.un.2.2.1, v1]), (some 10, b4, [.int .i64 x4.un.1, .int .i64 x4.un.2.1, .int .i64 x4.un.2.2.1, v4]), (some 10, b2, [.int .i64 p3.1, .int .i64 p3.2.1, .int .i64 p3.2.2.1, .int .i64 p3.2.2.2]), (some 15, b3, [.int .i64 x3.un.1, .int .i64 x3.un.2.1, .int .i64 x3.un.2.2.1, v3]), (some 15, b2, [.int .i64 p3.1, .int .i64 p3.2.1, .int .i64 p3.2.2.1, .int .i64 p3.2.2.2]), (some 20, b4, [.int .i64 x4.un.1, .int .i64 x4.un.2.1, .int .i64 x4.un.2.2.1, v4]), (some 24, b4, [.int .i64 x4.un.1, .int .i64 x4.un.2.1, .int .i64 x4.un.2.2.1, v4])]) (NZ3 := []) W Aa Aa (Al (fun h => Ap (by kernel_rfl) h) (Al (fun h => Ap (by kernel_rfl) h) (Al (fun h => Ap (by kernel_rfl) h) (Al (fun h => Ap (by kernel_rfl) h) (Al (fun h => Ap (by kernel_rfl) h) (Al (fun h => Ap (by kernel_rfl) h) (Al (fun h => Ap (by kernel_rfl) h) (Al (fun _ => (.head _)) AE)))))))) AE ?_
    refine BK (R := []) F Aa Aa (yC fun M Z hN hZ => Ax F Aa Aa Aa) Aa Aa fun a F => ?_
    refine BK (R := []) F Aa Aa (yC fun M Z hN hZ => Ag F Aa) Aa Aa fun a F => ?_
    rcases bxq x11 with hb | hb
    ·
     have H := AV hb H
     rw [hb] at F
     refine Qc (R := [24]) F Aa (Af F Aa Aa Aa Aa) Aa Aa (yC fun M Z hN hZ => Fj (cs := [.int .i64 x4.un.1, .int .i64 x4.un.2.1, .int .i64 x4.un.2.2.1, v4]) (v := Value.agg #[.int .i64 x4.un.1, .int .i64 x4.un.2.1, .int .i64 x4.un.2.2.1, v4]) F Aa (hN ((some 24), b4, [.int .i64 x4.un.1, .int .i64 x4.un.2.1, .int .i64 x4.un.2.2.1, v4]) (.tail _ (.tail _ (.tail _ (.tail _ (.tail _ (.tail _ (.tail _ (.head _)))))))) Aa) ER Aa) (by kernel_rfl) Aa fun a F => ?_
     refine EK Aa ?_
     refine KH (Af F Aa Aa Aa Aa) ?_
     obtain ⟨x12, h12, H⟩ := Am H
     refine Bj (Ml := []) (Zl := []) (M := [(b4, [.int .i64 x4.un.1, .int .i64 x4.un.2.1, .int .i64 x4.un.2.2.1, v4]), (b3, [.int .i64 x3.un.1, .int .i64 x3.un.2.1, .int .i64 x3.un.2.2.1, v3]), (b2, [.int .i64 p3.1, .int .i64 p3.2.1, .int .i64 p3.2.2.1, .int .i64 p3.2.2.2]), (b1, [.int .i64 p0.un.1, .int .i64 p0.un.2.1, .int .i64 p0.un.2.2.1, v1])]) (Z := [DE v6 EC x7.un.2.2.2, row v5 28 EC x6.un.2.2.2, DE v4 BF x4.un.2.2.2, row v3 36 BF x3.un.2.2.2]) (β := Value) (rv := fun x => x) (MM := fun x => []) (ZZ := fun x => [row x 3 (Rp.int .i64) x12]) F W X4 Aa Aa (fun hL => MJ _ w (v4) x4 5 _ h12 ((I0 2 Aa) w W).nx) fun x a w F W => ?_
     obtain ⟨v7, rfl⟩ : ∃ y, y = x := ⟨x, rfl⟩
     have W : Stw ⟨Y, [], w0⟩ [(b4, [.int .i64 x4.un.1, .int .i64 x4.un.2.1, .int .i64 x4.un.2.2.1, v4]), (b3, [.int .i64 x3.un.1, .int .i64 x3.un.2.1, .int .i64 x3.un.2.2.1, v3]), (b2, [.int .i64 p3.1, .int .i64 p3.2.1, .int .i64 p3.2.2.1, .int .i64 p3.2.2.2]), (b1, [.int .i64 p0.un.1, .int .i64 p0.un.2.1, .int .i64 p0.un.2.2.1, v1])] [row v7 3 (Rp.int .i64) x12, DE v6 EC x7.un.2.2.2, row v5 28 EC x6.un.2.2.2, DE v4 BF x4.un.2.2.2, row v3 36 BF x3.un.2.2.2] w := W
     refine BP (N2 := []) (NZ2 := [(some 29, row v7 3 (Rp.int .i64) x12)]) (N3 := [(some 1, b4, [.int .i64 x4.un.1, .int .i64 x4.un.2.1, .int .i64 x4.un.2.2.1, v4]), (some 4, b1, [.int .i64 p0.un.1, .int .i64 p0.un.2.1, .int .i64 p0.un.2.2.1, v1]), (some 10, b4, [.int .i64 x4.un.1, .int .i64 x4.un.2.1, .int .i64 x4.un.2.2.1, v4]), (some 10, b2, [.int .i64 p3.1, .int .i64 p3.2.1, .int .i64 p3.2.2.1, .int .i64 p3.2.2.2]), (some 15, b3, [.int .i64 x3.un.1, .int .i64 x3.un.2.1, .int .i64 x3.un.2.2.1, v3]), (some 15, b2, [.int .i64 p3.1, .int .i64 p3.2.1, .int .i64 p3.2.2.1, .int .i64 p3.2.2.2]), (some 20, b4, [.int .i64 x4.un.1, .int .i64 x4.un.2.1, .int .i64 x4.un.2.2.1, v4]), (some 24, b4, [.int .i64 x4.un.1, .int .i64 x4.un.2.1, .int .i64 x4.un.2.2.1, v4])]) (NZ3 := [(some 29, row v7 3 (Rp.int .i64) x12)]) W Aa Aa (Al (fun h => Ap (by kernel_rfl) h) (Al (fun h => Ap (by kernel_rfl) h) (Al (fun h => Ap (by kernel_rfl) h) (Al (fun h => Ap (by kernel_rfl) h) (Al (fun h => Ap (by kernel_rfl) h) (Al (fun h => Ap (by kernel_rfl) h) (Al (fun h => Ap (by kernel_rfl) h) (Al (fun h => Ap (by kernel_rfl) h) AE)))))))) (Al (fun _ => (.head _)) AE) ?_
     refine Qc (R := [29, 28, 27, 26]) F Aa (Af F Aa Aa Aa Aa) Aa Aa (yC fun M Z hN hZ => CA (r := (Rp.int .i64)) (l := x12) RS Aa F Aa (E8 (hZ ((some 29), row v7 3 (Rp.int .i64) x12) (.head _) Aa))) (by kernel_rfl) Aa fun a F => ?_
     refine Qc (R := []) F Aa (Af F Aa Aa Aa Aa) Aa Aa (yC fun M Z hN hZ => A7 F Aa Aa) Aa Aa fun a F => ?_
     refine BK (R := []) F Aa Aa (yC fun M Z hN hZ => Ax F Aa Aa Aa) Aa Aa fun a F => ?_
     refine BK (R := []) F Aa Aa (yC fun M Z hN hZ => Ag F Aa) Aa Aa fun a F => ?_
     rcases bxq (decide ((x12.length : Int) = 0)) with hb | hb
     ·
      have H := AV (Bg hb) H
      rw [hb] at F
      refine EK Aa ?_
      refine KH (Af F Aa Aa Aa Aa) ?_
      obtain ⟨x13, h13, H⟩ := Am H
      refine ls F W Aa (A3 (v := Value.bool x13) F H7 Aa (fun w W => OK any w _ h13 (hG.go0 W))) fun a w F W => ?_
      refine BP (N2 := []) (NZ2 := []) (N3 := [(some 1, b4, [.int .i64 x4.un.1, .int .i64 x4.un.2.1, .int .i64 x4.un.2.2.1, v4]), (some 4, b1, [.int .i64 p0.un.1, .int .i64 p0.un.2.1, .int .i64 p0.un.2.2.1, v1]), (some 10, b4, [.int .i64 x4.un.1, .int .i64 x4.un.2.1, .int .i64 x4.un.2.2.1, v4]), (some 10, b2, [.int .i64 p3.1, .int .i64 p3.2.1, .int .i64 p3.2.2.1, .int .i64 p3.2.2.2]), (some 15, b3, [.int .i64 x3.un.1, .int .i64 x3.un.2.1, .int .i64 x3.un.2.2.1, v3]), (some 15, b2, [.int .i64 p3.1, .int .i64 p3.2.1, .int .i64 p3.2.2.1, .int .i64 p3.2.2.2]), (some 20, b4, [.int .i64 x4.un.1, .int .i64 x4.un.2.1, .int .i64 x4.un.2.2.1, v4]), (some 24, b4, [.int .i64 x4.un.1, .int .i64 x4.un.2.1, .int .i64 x4.un.2.2.1, v4])]) (NZ3 := [(some 29, row v7 3 (Rp.int .i64) x12)]) W Aa Aa (Al (fun h => Ap (by kernel_rfl) h) (Al (fun h => Ap (by kernel_rfl) h) (Al (fun h => Ap (by kernel_rfl) h) (Al (fun h => Ap (by kernel_rfl) h) (Al (fun h => Ap (by kernel_rfl) h) (Al (fun h => Ap (by kernel_rfl) h) (Al (fun h => Ap (by kernel_rfl) h) (Al (fun h => Ap (by kernel_rfl) h) AE)))))))) (Al (fun h => Ap (by kernel_rfl) h) AE) ?_
      refine BK (R := []) F Aa Aa (yC fun M Z hN hZ => Ax F Aa Aa Aa) Aa Aa fun a F => ?_
      refine EK Aa ?_
      refine ls F W Aa (Ae F Aa).q fun a w F W => ?_
      refine BP (N2 := []) (NZ2 := []) (N3 := [(some 1, b4, [.int .i64 x4.un.1, .int .i64 x4.un.2.1, .int .i64 x4.un.2.2.1, v4]), (some 4, b1, [.int .i64 p0.un.1, .int .i64 p0.un.2.1, .int .i64 p0.un.2.2.1, v1]), (some 10, b4, [.int .i64 x4.un.1, .int .i64 x4.un.2.1, .int .i64 x4.un.2.2.1, v4]), (some 10, b2, [.int .i64 p3.1, .int .i64 p3.2.1, .int .i64 p3.2.2.1, .int .i64 p3.2.2.2]), (some 15, b3, [.int .i64 x3.un.1, .int .i64 x3.un.2.1, .int .i64 x3.un.2.2.1, v3]), (some 15, b2, [.int .i64 p3.1, .int .i64 p3.2.1, .int .i64 p3.2.2.1, .int .i64 p3.2.2.2]), (some 20, b4, [.int .i64 x4.un.1, .int .i64 x4.un.2.1, .int .i64 x4.un.2.2.1, v4]), (some 24, b4, [.int .i64 x4.un.1, .int .i64 x4.un.2.1, .int .i64 x4.un.2.2.1, v4])]) (NZ3 := [(some 29, row v7 3 (Rp.int .i64) x12)]) W Aa Aa (Al (fun h => Ap (by kernel_rfl) h) (Al (fun h => Ap (by kernel_rfl) h) (Al (fun h => Ap (by kernel_rfl) h) (Al (fun h => Ap (by kernel_rfl) h) (Al (fun h => Ap (by kernel_rfl) h) (Al (fun h => Ap (by kernel_rfl) h) (Al (fun h => Ap (by kernel_rfl) h) (Al (fun h => Ap (by kernel_rfl) h) AE)))))))) (Al (fun h => Ap (by kernel_rfl) h) AE) ?_
      refine HG (Ac ?_)
      have W := W.frontZ (i := 4) Aa Aa
      have W := W.frontZ (i := 4) Aa Aa
      have W := W.frontM (i := 3) Aa Aa
      have W := W.frontM (i := 3) Aa Aa
      have W := W.frontM (i := 3) Aa Aa
      have W := W.frontM (i := 3) Aa Aa
      have W := W.sub (M' := [(b4, [.int .i64 x4.un.1, .int .i64 x4.un.2.1, .int .i64 x4.un.2.2.1, v4]), (b3, [.int .i64 x3.un.1, .int .i64 x3.un.2.1, .int .i64 x3.un.2.2.1, v3]), (b2, [.int .i64 p3.1, .int .i64 p3.2.1, .int .i64 p3.2.2.1, .int .i64 p3.2.2.2]), (b1, [.int .i64 p0.un.1, .int .i64 p0.un.2.1, .int .i64 p0.un.2.2.1, v1])]) (Z' := [DE v4 BF x4.un.2.2.2, row v3 36 BF x3.un.2.2.2]) (List.Sublist.refl _) (List.Sublist.cons_cons _ (List.Sublist.cons_cons _ (List.nil_sublist _)))
      exact ⟨_, H, F.re ⟨rfl, trivial⟩, W⟩
     have H := AR (Bf hb) H
     rw [hb] at F
     refine EK Aa ?_
     refine Dz F Aa Aa Aa Aa Aa Aa Aa fun a F => ?_
     refine BP (N2 := []) (NZ2 := []) (N3 := [(some 1, b4, [.int .i64 x4.un.1, .int .i64 x4.un.2.1, .int .i64 x4.un.2.2.1, v4]), (some 4, b1, [.int .i64 p0.un.1, .int .i64 p0.un.2.1, .int .i64 p0.un.2.2.1, v1]), (some 10, b4, [.int .i64 x4.un.1, .int .i64 x4.un.2.1, .int .i64 x4.un.2.2.1, v4]), (some 10, b2, [.int .i64 p3.1, .int .i64 p3.2.1, .int .i64 p3.2.2.1, .int .i64 p3.2.2.2]), (some 15, b3, [.int .i64 x3.un.1, .int .i64 x3.un.2.1, .int .i64 x3.un.2.2.1, v3]), (some 15, b2, [.int .i64 p3.1, .int .i64 p3.2.1, .int .i64 p3.2.2.1, .int .i64 p3.2.2.2]), (some 20, b4, [.int .i64 x4.un.1, .int .i64 x4.un.2.1, .int .i64 x4.un.2.2.1, v4]), (some 24, b4, [.int .i64 x4.un.1, .int .i64 x4.un.2.1, .int .i64 x4.un.2.2.1, v4])]) (NZ3 := [(some 29, row v7 3 (Rp.int .i64) x12)]) W Aa Aa (Al (fun h => Ap (by kernel_rfl) h) (Al (fun h => Ap (by kernel_rfl) h) (Al (fun h => Ap (by kernel_rfl) h) (Al (fun h => Ap (by kernel_rfl) h) (Al (fun h => Ap (by kernel_rfl) h) (Al (fun h => Ap (by kernel_rfl) h) (Al (fun h => Ap (by kernel_rfl) h) (Al (fun h => Ap (by kernel_rfl) h) AE)))))))) (Al (fun h => Ap (by kernel_rfl) h) AE) ?_
     refine BK (R := []) F Aa Aa (yC fun M Z hN hZ => As F Aa Aa Aa) Aa Aa fun a F => ?_
     refine EK Aa ?_
     refine ls F W Aa (Ae F Aa).q fun a w F W => ?_
     refine BP (N2 := []) (NZ2 := []) (N3 := [(some 1, b4, [.int .i64 x4.un.1, .int .i64 x4.un.2.1, .int .i64 x4.un.2.2.1, v4]), (some 4, b1, [.int .i64 p0.un.1, .int .i64 p0.un.2.1, .int .i64 p0.un.2.2.1, v1]), (some 10, b4, [.int .i64 x4.un.1, .int .i64 x4.un.2.1, .int .i64 x4.un.2.2.1, v4]), (some 10, b2, [.int .i64 p3.1, .int .i64 p3.2.1, .int .i64 p3.2.2.1, .int .i64 p3.2.2.2]), (some 15, b3, [.int .i64 x3.un.1, .int .i64 x3.un.2.1, .int .i64 x3.un.2.2.1, v3]), (some 15, b2, [.int .i64 p3.1, .int .i64 p3.2.1, .int .i64 p3.2.2.1, .int .i64 p3.2.2.2]), (some 20, b4, [.int .i64 x4.un.1, .int .i64 x4.un.2.1, .int .i64 x4.un.2.2.1, v4]), (some 24, b4, [.int .i64 x4.un.1, .int .i64 x4.un.2.1, .int .i64 x4.un.2.2.1, v4])]) (NZ3 := [(some 29, row v7 3 (Rp.int .i64) x12)]) W Aa Aa (Al (fun h => Ap (by kernel_rfl) h) (Al (fun h => Ap (by kernel_rfl) h) (Al (fun h => Ap (by kernel_rfl) h) (Al (fun h => Ap (by kernel_rfl) h) (Al (fun h => Ap (by kernel_rfl) h) (Al (fun h => Ap (by kernel_rfl) h) (Al (fun h => Ap (by kernel_rfl) h) (Al (fun h => Ap (by kernel_rfl) h) AE)))))))) (Al (fun h => Ap (by kernel_rfl) h) AE) ?_
     refine HG (Ac ?_)
     have W := W.frontZ (i := 4) Aa Aa
     have W := W.frontZ (i := 4) Aa Aa
     have W := W.frontM (i := 3) Aa Aa
     have W := W.frontM (i := 3) Aa Aa
     have W := W.frontM (i := 3) Aa Aa
     have W := W.frontM (i := 3) Aa Aa
     have W := W.sub (M' := [(b4, [.int .i64 x4.un.1, .int .i64 x4.un.2.1, .int .i64 x4.un.2.2.1, v4]), (b3, [.int .i64 x3.un.1, .int .i64 x3.un.2.1, .int .i64 x3.un.2.2.1, v3]), (b2, [.int .i64 p3.1, .int .i64 p3.2.1, .int .i64 p3.2.2.1, .int .i64 p3.2.2.2]), (b1, [.int .i64 p0.un.1, .int .i64 p0.un.2.1, .int .i64 p0.un.2.2.1, v1])]) (Z' := [DE v4 BF x4.un.2.2.2, row v3 36 BF x3.un.2.2.2]) (List.Sublist.refl _) (List.Sublist.cons_cons _ (List.Sublist.cons_cons _ (List.nil_sublist _)))
     exact ⟨_, H, F.re ⟨rfl, trivial⟩, W⟩
    have H := AR (by rw [hb]; decide) H
    rw [hb] at F
    refine I8 F Aa (Bi F Aa Aa Aa Aa Aa) Aa Aa Aa fun a F => ?_
    refine EK Aa ?_
    refine Dz F Aa Aa Aa Aa Aa Aa Aa fun a F => ?_
    refine BP (N2 := []) (NZ2 := []) (N3 := [(some 1, b4, [.int .i64 x4.un.1, .int .i64 x4.un.2.1, .int .i64 x4.un.2.2.1, v4]), (some 4, b1, [.int .i64 p0.un.1, .int .i64 p0.un.2.1, .int .i64 p0.un.2.2.1, v1]), (some 10, b4, [.int .i64 x4.un.1, .int .i64 x4.un.2.1, .int .i64 x4.un.2.2.1, v4]), (some 10, b2, [.int .i64 p3.1, .int .i64 p3.2.1, .int .i64 p3.2.2.1, .int .i64 p3.2.2.2]), (some 15, b3, [.int .i64 x3.un.1, .int .i64 x3.un.2.1, .int .i64 x3.un.2.2.1, v3]), (some 15, b2, [.int .i64 p3.1, .int .i64 p3.2.1, .int .i64 p3.2.2.1, .int .i64 p3.2.2.2]), (some 20, b4, [.int .i64 x4.un.1, .int .i64 x4.un.2.1, .int .i64 x4.un.2.2.1, v4]), (some 24, b4, [.int .i64 x4.un.1, .int .i64 x4.un.2.1, .int .i64 x4.un.2.2.1, v4])]) (NZ3 := []) W Aa Aa (Al (fun h => Ap (by kernel_rfl) h) (Al (fun h => Ap (by kernel_rfl) h) (Al (fun h => Ap (by kernel_rfl) h) (Al (fun h => Ap (by kernel_rfl) h) (Al (fun h => Ap (by kernel_rfl) h) (Al (fun h => Ap (by kernel_rfl) h) (Al (fun h => Ap (by kernel_rfl) h) (Al (fun h => Ap (by kernel_rfl) h) AE)))))))) AE ?_
    iterate 2 refine I8 F Aa (Bi F Aa Aa Aa Aa Aa) Aa Aa Aa fun a F => ?_
    refine BK (R := []) F Aa Aa (yC fun M Z hN hZ => As F Aa Aa Aa) Aa Aa fun a F => ?_
    refine BK (R := []) F Aa Aa (yC fun M Z hN hZ => Ag F Aa) Aa Aa fun a F => ?_
    refine EK Aa ?_
    refine Dz F Aa Aa Aa Aa Aa Aa Aa fun a F => ?_
    refine BP (N2 := []) (NZ2 := []) (N3 := [(some 1, b4, [.int .i64 x4.un.1, .int .i64 x4.un.2.1, .int .i64 x4.un.2.2.1, v4]), (some 4, b1, [.int .i64 p0.un.1, .int .i64 p0.un.2.1, .int .i64 p0.un.2.2.1, v1]), (some 10, b4, [.int .i64 x4.un.1, .int .i64 x4.un.2.1, .int .i64 x4.un.2.2.1, v4]), (some 10, b2, [.int .i64 p3.1, .int .i64 p3.2.1, .int .i64 p3.2.2.1, .int .i64 p3.2.2.2]), (some 15, b3, [.int .i64 x3.un.1, .int .i64 x3.un.2.1, .int .i64 x3.un.2.2.1, v3]), (some 15, b2, [.int .i64 p3.1, .int .i64 p3.2.1, .int .i64 p3.2.2.1, .int .i64 p3.2.2.2]), (some 20, b4, [.int .i64 x4.un.1, .int .i64 x4.un.2.1, .int .i64 x4.un.2.2.1, v4]), (some 24, b4, [.int .i64 x4.un.1, .int .i64 x4.un.2.1, .int .i64 x4.un.2.2.1, v4])]) (NZ3 := []) W Aa Aa (Al (fun h => Ap (by kernel_rfl) h) (Al (fun h => Ap (by kernel_rfl) h) (Al (fun h => Ap (by kernel_rfl) h) (Al (fun h => Ap (by kernel_rfl) h) (Al (fun h => Ap (by kernel_rfl) h) (Al (fun h => Ap (by kernel_rfl) h) (Al (fun h => Ap (by kernel_rfl) h) (Al (fun h => Ap (by kernel_rfl) h) AE)))))))) AE ?_
    refine BK (R := []) F Aa Aa (yC fun M Z hN hZ => As F Aa Aa Aa) Aa Aa fun a F => ?_
    refine EK Aa ?_
    refine ls F W Aa (Ae F Aa).q fun a w F W => ?_
    refine BP (N2 := []) (NZ2 := []) (N3 := [(some 1, b4, [.int .i64 x4.un.1, .int .i64 x4.un.2.1, .int .i64 x4.un.2.2.1, v4]), (some 4, b1, [.int .i64 p0.un.1, .int .i64 p0.un.2.1, .int .i64 p0.un.2.2.1, v1]), (some 10, b4, [.int .i64 x4.un.1, .int .i64 x4.un.2.1, .int .i64 x4.un.2.2.1, v4]), (some 10, b2, [.int .i64 p3.1, .int .i64 p3.2.1, .int .i64 p3.2.2.1, .int .i64 p3.2.2.2]), (some 15, b3, [.int .i64 x3.un.1, .int .i64 x3.un.2.1, .int .i64 x3.un.2.2.1, v3]), (some 15, b2, [.int .i64 p3.1, .int .i64 p3.2.1, .int .i64 p3.2.2.1, .int .i64 p3.2.2.2]), (some 20, b4, [.int .i64 x4.un.1, .int .i64 x4.un.2.1, .int .i64 x4.un.2.2.1, v4]), (some 24, b4, [.int .i64 x4.un.1, .int .i64 x4.un.2.1, .int .i64 x4.un.2.2.1, v4])]) (NZ3 := []) W Aa Aa (Al (fun h => Ap (by kernel_rfl) h) (Al (fun h => Ap (by kernel_rfl) h) (Al (fun h => Ap (by kernel_rfl) h) (Al (fun h => Ap (by kernel_rfl) h) (Al (fun h => Ap (by kernel_rfl) h) (Al (fun h => Ap (by kernel_rfl) h) (Al (fun h => Ap (by kernel_rfl) h) (Al (fun h => Ap (by kernel_rfl) h) AE)))))))) AE ?_
    refine HG (Ac ?_)
    have W := W.frontZ (i := 3) Aa Aa
    have W := W.frontZ (i := 3) Aa Aa
    have W := W.frontM (i := 3) Aa Aa
    have W := W.frontM (i := 3) Aa Aa
    have W := W.frontM (i := 3) Aa Aa
    have W := W.frontM (i := 3) Aa Aa
    have W := W.sub (M' := [(b4, [.int .i64 x4.un.1, .int .i64 x4.un.2.1, .int .i64 x4.un.2.2.1, v4]), (b3, [.int .i64 x3.un.1, .int .i64 x3.un.2.1, .int .i64 x3.un.2.2.1, v3]), (b2, [.int .i64 p3.1, .int .i64 p3.2.1, .int .i64 p3.2.2.1, .int .i64 p3.2.2.2]), (b1, [.int .i64 p0.un.1, .int .i64 p0.un.2.1, .int .i64 p0.un.2.2.1, v1])]) (Z' := [DE v4 BF x4.un.2.2.2, row v3 36 BF x3.un.2.2.2]) (List.Sublist.refl _) (List.Sublist.cons_cons _ (List.Sublist.cons_cons _ (List.nil_sublist _)))
    exact ⟨_, H, F.re ⟨rfl, trivial⟩, W⟩
   have H := AR (Bf hb) H
   rw [hb] at F
   refine I8 F Aa (Bi F Aa Aa Aa Aa Aa) Aa Aa Aa fun a F => ?_
   refine EK Aa ?_
   refine Dz F Aa Aa Aa Aa Aa Aa Aa fun a F => ?_
   refine BP (N2 := []) (NZ2 := []) (N3 := [(some 1, b4, [.int .i64 x4.un.1, .int .i64 x4.un.2.1, .int .i64 x4.un.2.2.1, v4]), (some 4, b1, [.int .i64 p0.un.1, .int .i64 p0.un.2.1, .int .i64 p0.un.2.2.1, v1]), (some 10, b4, [.int .i64 x4.un.1, .int .i64 x4.un.2.1, .int .i64 x4.un.2.2.1, v4]), (some 10, b2, [.int .i64 p3.1, .int .i64 p3.2.1, .int .i64 p3.2.2.1, .int .i64 p3.2.2.2]), (some 15, b3, [.int .i64 x3.un.1, .int .i64 x3.un.2.1, .int .i64 x3.un.2.2.1, v3]), (some 15, b2, [.int .i64 p3.1, .int .i64 p3.2.1, .int .i64 p3.2.2.1, .int .i64 p3.2.2.2]), (some 20, b4, [.int .i64 x4.un.1, .int .i64 x4.un.2.1, .int .i64 x4.un.2.2.1, v4])]) (NZ3 := []) W Aa Aa (Al (fun h => Ap (by kernel_rfl) h) (Al (fun h => Ap (by kernel_rfl) h) (Al (fun h => Ap (by kernel_rfl) h) (Al (fun h => Ap (by kernel_rfl) h) (Al (fun h => Ap (by kernel_rfl) h) (Al (fun h => Ap (by kernel_rfl) h) (Al (fun h => Ap (by kernel_rfl) h) AE))))))) AE ?_
   refine BK (R := []) F Aa Aa (yC fun M Z hN hZ => As F Aa Aa Aa) Aa Aa fun a F => ?_
   refine BK (R := []) F Aa Aa (yC fun M Z hN hZ => Ag F Aa) Aa Aa fun a F => ?_
   refine I8 F Aa (Bi F Aa Aa Aa Aa Aa) Aa Aa Aa fun a F => ?_
   refine EK Aa ?_
   refine Dz F Aa Aa Aa Aa Aa Aa Aa fun a F => ?_
   refine BP (N2 := []) (NZ2 := []) (N3 := [(some 1, b4, [.int .i64 x4.un.1, .int .i64 x4.un.2.1, .int .i64 x4.un.2.2.1, v4]), (some 4, b1, [.int .i64 p0.un.1, .int .i64 p0.un.2.1, .int .i64 p0.un.2.2.1, v1]), (some 10, b4, [.int .i64 x4.un.1, .int .i64 x4.un.2.1, .int .i64 x4.un.2.2.1, v4]), (some 10, b2, [.int .i64 p3.1, .int .i64 p3.2.1, .int .i64 p3.2.2.1, .int .i64 p3.2.2.2]), (some 15, b3, [.int .i64 x3.un.1, .int .i64 x3.un.2.1, .int .i64 x3.un.2.2.1, v3]), (some 15, b2, [.int .i64 p3.1, .int .i64 p3.2.1, .int .i64 p3.2.2.1, .int .i64 p3.2.2.2]), (some 20, b4, [.int .i64 x4.un.1, .int .i64 x4.un.2.1, .int .i64 x4.un.2.2.1, v4])]) (NZ3 := []) W Aa Aa (Al (fun h => Ap (by kernel_rfl) h) (Al (fun h => Ap (by kernel_rfl) h) (Al (fun h => Ap (by kernel_rfl) h) (Al (fun h => Ap (by kernel_rfl) h) (Al (fun h => Ap (by kernel_rfl) h) (Al (fun h => Ap (by kernel_rfl) h) (Al (fun h => Ap (by kernel_rfl) h) AE))))))) AE ?_
   iterate 2 refine I8 F Aa (Bi F Aa Aa Aa Aa Aa) Aa Aa Aa fun a F => ?_
   refine BK (R := []) F Aa Aa (yC fun M Z hN hZ => As F Aa Aa Aa) Aa Aa fun a F => ?_
   refine BK (R := []) F Aa Aa (yC fun M Z hN hZ => Ag F Aa) Aa Aa fun a F => ?_
   refine EK Aa ?_
   refine Dz F Aa Aa Aa Aa Aa Aa Aa fun a F => ?_
   refine BP (N2 := []) (NZ2 := []) (N3 := [(some 1, b4, [.int .i64 x4.un.1, .int .i64 x4.un.2.1, .int .i64 x4.un.2.2.1, v4]), (some 4, b1, [.int .i64 p0.un.1, .int .i64 p0.un.2.1, .int .i64 p0.un.2.2.1, v1]), (some 10, b4, [.int .i64 x4.un.1, .int .i64 x4.un.2.1, .int .i64 x4.un.2.2.1, v4]), (some 10, b2, [.int .i64 p3.1, .int .i64 p3.2.1, .int .i64 p3.2.2.1, .int .i64 p3.2.2.2]), (some 15, b3, [.int .i64 x3.un.1, .int .i64 x3.un.2.1, .int .i64 x3.un.2.2.1, v3]), (some 15, b2, [.int .i64 p3.1, .int .i64 p3.2.1, .int .i64 p3.2.2.1, .int .i64 p3.2.2.2]), (some 20, b4, [.int .i64 x4.un.1, .int .i64 x4.un.2.1, .int .i64 x4.un.2.2.1, v4])]) (NZ3 := []) W Aa Aa (Al (fun h => Ap (by kernel_rfl) h) (Al (fun h => Ap (by kernel_rfl) h) (Al (fun h => Ap (by kernel_rfl) h) (Al (fun h => Ap (by kernel_rfl) h) (Al (fun h => Ap (by kernel_rfl) h) (Al (fun h => Ap (by kernel_rfl) h) (Al (fun h => Ap (by kernel_rfl) h) AE))))))) AE ?_
   refine BK (R := []) F Aa Aa (yC fun M Z hN hZ => As F Aa Aa Aa) Aa Aa fun a F => ?_
   refine EK Aa ?_
   refine ls F W Aa (Ae F Aa).q fun a w F W => ?_
   refine BP (N2 := []) (NZ2 := []) (N3 := [(some 1, b4, [.int .i64 x4.un.1, .int .i64 x4.un.2.1, .int .i64 x4.un.2.2.1, v4]), (some 4, b1, [.int .i64 p0.un.1, .int .i64 p0.un.2.1, .int .i64 p0.un.2.2.1, v1]), (some 10, b4, [.int .i64 x4.un.1, .int .i64 x4.un.2.1, .int .i64 x4.un.2.2.1, v4]), (some 10, b2, [.int .i64 p3.1, .int .i64 p3.2.1, .int .i64 p3.2.2.1, .int .i64 p3.2.2.2]), (some 15, b3, [.int .i64 x3.un.1, .int .i64 x3.un.2.1, .int .i64 x3.un.2.2.1, v3]), (some 15, b2, [.int .i64 p3.1, .int .i64 p3.2.1, .int .i64 p3.2.2.1, .int .i64 p3.2.2.2]), (some 20, b4, [.int .i64 x4.un.1, .int .i64 x4.un.2.1, .int .i64 x4.un.2.2.1, v4])]) (NZ3 := []) W Aa Aa (Al (fun h => Ap (by kernel_rfl) h) (Al (fun h => Ap (by kernel_rfl) h) (Al (fun h => Ap (by kernel_rfl) h) (Al (fun h => Ap (by kernel_rfl) h) (Al (fun h => Ap (by kernel_rfl) h) (Al (fun h => Ap (by kernel_rfl) h) (Al (fun h => Ap (by kernel_rfl) h) AE))))))) AE ?_
   refine HG (Ac ?_)
   have W := W.frontZ (i := 3) Aa Aa
   have W := W.frontZ (i := 3) Aa Aa
   have W := W.frontM (i := 3) Aa Aa
   have W := W.frontM (i := 3) Aa Aa
   have W := W.frontM (i := 3) Aa Aa
   have W := W.frontM (i := 3) Aa Aa
   have W := W.sub (M' := [(b4, [.int .i64 x4.un.1, .int .i64 x4.un.2.1, .int .i64 x4.un.2.2.1, v4]), (b3, [.int .i64 x3.un.1, .int .i64 x3.un.2.1, .int .i64 x3.un.2.2.1, v3]), (b2, [.int .i64 p3.1, .int .i64 p3.2.1, .int .i64 p3.2.2.1, .int .i64 p3.2.2.2]), (b1, [.int .i64 p0.un.1, .int .i64 p0.un.2.1, .int .i64 p0.un.2.2.1, v1])]) (Z' := [DE v4 BF x4.un.2.2.2, row v3 36 BF x3.un.2.2.2]) (List.Sublist.refl _) (List.Sublist.cons_cons _ (List.Sublist.cons_cons _ (List.nil_sublist _)))
   exact ⟨_, H, F.re ⟨rfl, trivial⟩, W⟩
  have H := AR (by rw [hb]; decide) H
  rw [hb] at F
  iterate 7 refine I8 F Aa (Bi F Aa Aa Aa Aa Aa) Aa Aa Aa fun a F => ?_
  refine EK Aa ?_
  refine Dz F Aa Aa Aa Aa Aa Aa Aa fun a F => ?_
  refine BP (N2 := []) (NZ2 := []) (N3 := [(some 1, b4, [.int .i64 x4.un.1, .int .i64 x4.un.2.1, .int .i64 x4.un.2.2.1, v4]), (some 4, b1, [.int .i64 p0.un.1, .int .i64 p0.un.2.1, .int .i64 p0.un.2.2.1, v1]), (some 10, b4, [.int .i64 x4.un.1, .int .i64 x4.un.2.1, .int .i64 x4.un.2.2.1, v4]), (some 10, b2, [.int .i64 p3.1, .int .i64 p3.2.1, .int .i64 p3.2.2.1, .int .i64 p3.2.2.2]), (some 15, b3, [.int .i64 x3.un.1, .int .i64 x3.un.2.1, .int .i64 x3.un.2.2.1, v3]), (some 15, b2, [.int .i64 p3.1, .int .i64 p3.2.1, .int .i64 p3.2.2.1, .int .i64 p3.2.2.2])]) (NZ3 := []) W Aa Aa (Al (fun h => Ap (by kernel_rfl) h) (Al (fun h => Ap (by kernel_rfl) h) (Al (fun h => Ap (by kernel_rfl) h) (Al (fun h => Ap (by kernel_rfl) h) (Al (fun _ => (.tail _ (.head _))) (Al (fun _ => (.tail _ (.tail _ (.head _)))) AE)))))) AE ?_
  refine EK Aa ?_
  refine Dz F Aa Aa Aa Aa Aa Aa Aa fun a F => ?_
  refine BP (N2 := []) (NZ2 := []) (N3 := [(some 1, b4, [.int .i64 x4.un.1, .int .i64 x4.un.2.1, .int .i64 x4.un.2.2.1, v4]), (some 4, b1, [.int .i64 p0.un.1, .int .i64 p0.un.2.1, .int .i64 p0.un.2.2.1, v1]), (some 10, b4, [.int .i64 x4.un.1, .int .i64 x4.un.2.1, .int .i64 x4.un.2.2.1, v4]), (some 10, b2, [.int .i64 p3.1, .int .i64 p3.2.1, .int .i64 p3.2.2.1, .int .i64 p3.2.2.2]), (some 15, b3, [.int .i64 x3.un.1, .int .i64 x3.un.2.1, .int .i64 x3.un.2.2.1, v3]), (some 15, b2, [.int .i64 p3.1, .int .i64 p3.2.1, .int .i64 p3.2.2.1, .int .i64 p3.2.2.2])]) (NZ3 := []) W Aa Aa (Al (fun h => Ap (by kernel_rfl) h) (Al (fun h => Ap (by kernel_rfl) h) (Al (fun h => Ap (by kernel_rfl) h) (Al (fun h => Ap (by kernel_rfl) h) (Al (fun h => Ap (by kernel_rfl) h) (Al (fun h => Ap (by kernel_rfl) h) AE)))))) AE ?_
  refine I8 F Aa (Bi F Aa Aa Aa Aa Aa) Aa Aa Aa fun a F => ?_
  refine BK (R := []) F Aa Aa (yC fun M Z hN hZ => As F Aa Aa Aa) Aa Aa fun a F => ?_
  refine BK (R := []) F Aa Aa (yC fun M Z hN hZ => Ag F Aa) Aa Aa fun a F => ?_
  refine I8 F Aa (Bi F Aa Aa Aa Aa Aa) Aa Aa Aa fun a F => ?_
  refine EK Aa ?_
  refine Dz F Aa Aa Aa Aa Aa Aa Aa fun a F => ?_
  refine BP (N2 := []) (NZ2 := []) (N3 := [(some 1, b4, [.int .i64 x4.un.1, .int .i64 x4.un.2.1, .int .i64 x4.un.2.2.1, v4]), (some 4, b1, [.int .i64 p0.un.1, .int .i64 p0.un.2.1, .int .i64 p0.un.2.2.1, v1]), (some 10, b4, [.int .i64 x4.un.1, .int .i64 x4.un.2.1, .int .i64 x4.un.2.2.1, v4]), (some 10, b2, [.int .i64 p3.1, .int .i64 p3.2.1, .int .i64 p3.2.2.1, .int .i64 p3.2.2.2]), (some 15, b3, [.int .i64 x3.un.1, .int .i64 x3.un.2.1, .int .i64 x3.un.2.2.1, v3]), (some 15, b2, [.int .i64 p3.1, .int .i64 p3.2.1, .int .i64 p3.2.2.1, .int .i64 p3.2.2.2])]) (NZ3 := []) W Aa Aa (Al (fun h => Ap (by kernel_rfl) h) (Al (fun h => Ap (by kernel_rfl) h) (Al (fun h => Ap (by kernel_rfl) h) (Al (fun h => Ap (by kernel_rfl) h) (Al (fun h => Ap (by kernel_rfl) h) (Al (fun h => Ap (by kernel_rfl) h) AE)))))) AE ?_
  refine BK (R := []) F Aa Aa (yC fun M Z hN hZ => As F Aa Aa Aa) Aa Aa fun a F => ?_
  refine BK (R := []) F Aa Aa (yC fun M Z hN hZ => Ag F Aa) Aa Aa fun a F => ?_
  refine I8 F Aa (Bi F Aa Aa Aa Aa Aa) Aa Aa Aa fun a F => ?_
  refine EK Aa ?_
  refine Dz F Aa Aa Aa Aa Aa Aa Aa fun a F => ?_
  refine BP (N2 := []) (NZ2 := []) (N3 := [(some 1, b4, [.int .i64 x4.un.1, .int .i64 x4.un.2.1, .int .i64 x4.un.2.2.1, v4]), (some 4, b1, [.int .i64 p0.un.1, .int .i64 p0.un.2.1, .int .i64 p0.un.2.2.1, v1]), (some 10, b4, [.int .i64 x4.un.1, .int .i64 x4.un.2.1, .int .i64 x4.un.2.2.1, v4]), (some 10, b2, [.int .i64 p3.1, .int .i64 p3.2.1, .int .i64 p3.2.2.1, .int .i64 p3.2.2.2]), (some 15, b3, [.int .i64 x3.un.1, .int .i64 x3.un.2.1, .int .i64 x3.un.2.2.1, v3]), (some 15, b2, [.int .i64 p3.1, .int .i64 p3.2.1, .int .i64 p3.2.2.1, .int .i64 p3.2.2.2])]) (NZ3 := []) W Aa Aa (Al (fun h => Ap (by kernel_rfl) h) (Al (fun h => Ap (by kernel_rfl) h) (Al (fun h => Ap (by kernel_rfl) h) (Al (fun h => Ap (by kernel_rfl) h) (Al (fun h => Ap (by kernel_rfl) h) (Al (fun h => Ap (by kernel_rfl) h) AE)))))) AE ?_
  iterate 2 refine I8 F Aa (Bi F Aa Aa Aa Aa Aa) Aa Aa Aa fun a F => ?_
  refine BK (R := []) F Aa Aa (yC fun M Z hN hZ => As F Aa Aa Aa) Aa Aa fun a F => ?_
  refine BK (R := []) F Aa Aa (yC fun M Z hN hZ => Ag F Aa) Aa Aa fun a F => ?_
  refine EK Aa ?_
  refine Dz F Aa Aa Aa Aa Aa Aa Aa fun a F => ?_
  refine BP (N2 := []) (NZ2 := []) (N3 := [(some 1, b4, [.int .i64 x4.un.1, .int .i64 x4.un.2.1, .int .i64 x4.un.2.2.1, v4]), (some 4, b1, [.int .i64 p0.un.1, .int .i64 p0.un.2.1, .int .i64 p0.un.2.2.1, v1]), (some 10, b4, [.int .i64 x4.un.1, .int .i64 x4.un.2.1, .int .i64 x4.un.2.2.1, v4]), (some 10, b2, [.int .i64 p3.1, .int .i64 p3.2.1, .int .i64 p3.2.2.1, .int .i64 p3.2.2.2]), (some 15, b3, [.int .i64 x3.un.1, .int .i64 x3.un.2.1, .int .i64 x3.un.2.2.1, v3]), (some 15, b2, [.int .i64 p3.1, .int .i64 p3.2.1, .int .i64 p3.2.2.1, .int .i64 p3.2.2.2])]) (NZ3 := []) W Aa Aa (Al (fun h => Ap (by kernel_rfl) h) (Al (fun h => Ap (by kernel_rfl) h) (Al (fun h => Ap (by kernel_rfl) h) (Al (fun h => Ap (by kernel_rfl) h) (Al (fun h => Ap (by kernel_rfl) h) (Al (fun h => Ap (by kernel_rfl) h) AE)))))) AE ?_
  refine BK (R := []) F Aa Aa (yC fun M Z hN hZ => As F Aa Aa Aa) Aa Aa fun a F => ?_
  refine EK Aa ?_
  refine ls F W Aa (Ae F Aa).q fun a w F W => ?_
  refine BP (N2 := []) (NZ2 := []) (N3 := [(some 1, b4, [.int .i64 x4.un.1, .int .i64 x4.un.2.1, .int .i64 x4.un.2.2.1, v4]), (some 4, b1, [.int .i64 p0.un.1, .int .i64 p0.un.2.1, .int .i64 p0.un.2.2.1, v1]), (some 10, b4, [.int .i64 x4.un.1, .int .i64 x4.un.2.1, .int .i64 x4.un.2.2.1, v4]), (some 10, b2, [.int .i64 p3.1, .int .i64 p3.2.1, .int .i64 p3.2.2.1, .int .i64 p3.2.2.2]), (some 15, b3, [.int .i64 x3.un.1, .int .i64 x3.un.2.1, .int .i64 x3.un.2.2.1, v3]), (some 15, b2, [.int .i64 p3.1, .int .i64 p3.2.1, .int .i64 p3.2.2.1, .int .i64 p3.2.2.2])]) (NZ3 := []) W Aa Aa (Al (fun h => Ap (by kernel_rfl) h) (Al (fun h => Ap (by kernel_rfl) h) (Al (fun h => Ap (by kernel_rfl) h) (Al (fun h => Ap (by kernel_rfl) h) (Al (fun h => Ap (by kernel_rfl) h) (Al (fun h => Ap (by kernel_rfl) h) AE)))))) AE ?_
  refine HG (Ac ?_)
  have W := W.frontZ (i := 3) Aa Aa
  have W := W.frontZ (i := 3) Aa Aa
  have W := W.frontM (i := 3) Aa Aa
  have W := W.frontM (i := 3) Aa Aa
  have W := W.frontM (i := 3) Aa Aa
  have W := W.frontM (i := 3) Aa Aa
  have W := W.sub (M' := [(b4, [.int .i64 x4.un.1, .int .i64 x4.un.2.1, .int .i64 x4.un.2.2.1, v4]), (b3, [.int .i64 x3.un.1, .int .i64 x3.un.2.1, .int .i64 x3.un.2.2.1, v3]), (b2, [.int .i64 p3.1, .int .i64 p3.2.1, .int .i64 p3.2.2.1, .int .i64 p3.2.2.2]), (b1, [.int .i64 p0.un.1, .int .i64 p0.un.2.1, .int .i64 p0.un.2.2.1, v1])]) (Z' := [DE v4 BF x4.un.2.2.2, row v3 36 BF x3.un.2.2.2]) (List.Sublist.refl _) (List.Sublist.cons_cons _ (List.Sublist.cons_cons _ (List.nil_sublist _)))
  exact ⟨_, H, F.re ⟨rfl, trivial⟩, W⟩
 rintro a w ⟨x5, hj, F, W⟩
 have hj := AP hj
 subst hj
 have H := K1
 refine Av ?_
 have H := AP H
 subst H
 refine AJ (.inl Aa) F W Aa (AB F Aa) ?_
 exact ⟨rfl, W.done⟩
end Go.Proofs.YtgoifghhcekahaaGreatDoor
