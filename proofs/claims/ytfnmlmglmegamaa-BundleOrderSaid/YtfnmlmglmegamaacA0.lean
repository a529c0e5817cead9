/- The functions of layer 12, EV. Conditions: none. -/
import Derived.Test.YtfnmlmglmegamaaRows
import Derived.Test.YtfnmlmglmegamaacOT
import Derived.Test.YtfnmlmglmegamaacQT
import Derived.Test.YtfnmlmglmegamaacOD
import Derived.Test.YtfnmlmglmegamaacPB
import Derived.Test.YtfnmlmglmegamaacXC
import Derived.Test.YtfnmlmglmegamaacOY
import Derived.Test.YtfnmlmglmegamaacOC
import Derived.Test.YtfnmlmglmegamaacVC
import Derived.Test.YtfnmlmglmegamaacXC
import Derived.Test.YtfnmlmglmegamaacOX
namespace Go.Proofs.Ytfnmlmglmegamaa
open Go Go.RowKit
set_option linter.unusedVariables false
set_option linter.unusedSimpArgs false
set_option maxRecDepth 20000
def RU : Tt := ([(31, [(0, false, 1), (1, false, 1), (2, false, 1)]), (34, [(0, false, 1), (1, true, 4), (5, true, 4)]), (37, [(0, false, 1), (1, true, 9), (10, false, 1)]), (39, [(0, false, 1), (1, true, 11), (12, false, 1)]), (41, [(0, false, 1), (1, false, 1), (2, true, 13)]), (68, [(0, false, 1), (1, true, 13)]), (71, [(0, false, 1), (1, true, 224)]), (76, [(0, false, 1), (1, true, 13)]), (88, [(0, false, 1), (1, false, 1), (2, false, 1)])], [(3, false, 1), (4, false, 1), (29, false, 1), (32, true, 4), (34, true, 9), (35, false, 1), (37, true, 11), (39, true, 13), (88, true, 3)])
theorem tk : TtOk Try.prog RU := ⟨by kernel_rfl, by kernel_rfl⟩
theorem E2 : type_of% Try.underlying23 := Try.underlying23
theorem QS : type_of% Try.underlying32 := Try.underlying32
abbrev Qr : Rp (Int × Int × Int × Int) := (Rp.pair (Rp.int .i64) (Rp.pair (Rp.int .i64) (Rp.pair (Rp.int .i64) (Rp.int .i64))))
abbrev Qt : Rp (Int × (Int × Int × Int × Int) × (Int × Int × Int × Int)) := (Rp.pair (Rp.int .i64) (Rp.pair Qr Qr))
abbrev Bl : Rp (Int × Int × Int) := (Rp.pair (Rp.int .i64) (Rp.pair (Rp.int .i64) (Rp.int .i64)))
abbrev A5 : Rp (Int × (Int × (Int × Int × Int × Int) × (Int × Int × Int × Int)) × (List (Int × Int × Int))) := (Rp.pair (Rp.int .i64) (Rp.pair Qt (Rp.slice Bl)))
abbrev F2 : Rp (Int × (Int × (Int × (Int × Int × Int × Int) × (Int × Int × Int × Int)) × (List (Int × Int × Int))) × Bool) := (Rp.pair (Rp.int .i64) (Rp.pair A5 Rp.bool))
abbrev DU : Rp (Int × (Int × (Int × Int × Int × Int) × (Int × Int × Int × Int)) × (Value × List (Int × Int × Int))) := (Rp.pair (Rp.int .i64) (Rp.pair Qt (Rp.vsl Bl)))
abbrev Hp : Rp (Int × (Int × (Int × (Int × Int × Int × Int) × (Int × Int × Int × Int)) × (Value × List (Int × Int × Int))) × Bool) := (Rp.pair (Rp.int .i64) (Rp.pair DU Rp.bool))
abbrev QR (p : Int × (Int × (Int × Int × Int × Int) × (Int × Int × Int × Int)) × (Value × List (Int × Int × Int))) : Int × (Int × (Int × Int × Int × Int) × (Int × Int × Int × Int)) × (List (Int × Int × Int)) := (p.1, p.2.1, p.2.2.2)
theorem BH : Ex A5 DU QR := (Ex.pair Ex.rfl' (Ex.pair Ex.rfl' Ex.sliceF))
def Ry (a : Int × Int × Int × Int) : List Value := [.int .i64 a.1, .int .i64 a.2.1, .int .i64 a.2.2.1, .int .i64 a.2.2.2]
theorem Rt : Fl Qr Ry := (Fl.pair Fl.int (Fl.pair Fl.int (Fl.pair Fl.int Fl.int)))
def Sh (a : Int × (Int × Int × Int × Int) × (Int × Int × Int × Int)) : List Value := [.int .i64 a.1, .int .i64 a.2.1.1, .int .i64 a.2.1.2.1, .int .i64 a.2.1.2.2.1, .int .i64 a.2.1.2.2.2, .int .i64 a.2.2.1, .int .i64 a.2.2.2.1, .int .i64 a.2.2.2.2.1, .int .i64 a.2.2.2.2.2]
theorem QM : Fl Qt Sh := (Fl.pair Fl.int (Fl.pair Rt Rt))
abbrev CK (a : Int × (Int × (Int × Int × Int × Int) × (Int × Int × Int × Int)) × (Value × List (Int × Int × Int))) : List Value := [.int .i64 a.1, .int .i64 a.2.1.1, .int .i64 a.2.1.2.1.1, .int .i64 a.2.1.2.1.2.1, .int .i64 a.2.1.2.1.2.2.1, .int .i64 a.2.1.2.1.2.2.2, .int .i64 a.2.1.2.2.1, .int .i64 a.2.1.2.2.2.1, .int .i64 a.2.1.2.2.2.2.1, .int .i64 a.2.1.2.2.2.2.2, a.2.2.1]
theorem Fo : DT DU CK := (DT.pair Fl.int.to (DT.pair QM.to DT.vsl))
theorem FQ : Et Try.prog 23 37 11 104 := Et.of E2 (by kernel_rfl) (by kernel_rfl) (by kernel_rfl) (by decide)
theorem Fk : Ty Try.prog 37 true 11 := ⟨by kernel_rfl, by kernel_rfl⟩
theorem T3 : Ty Try.prog 3 false 1 := ⟨by kernel_rfl, by kernel_rfl⟩
theorem KD : Ty Try.prog 34 true 9 := ⟨by kernel_rfl, by kernel_rfl⟩
theorem MO : Try.prog.follows .mixedOrders = true := by kernel_rfl
theorem Jn : Ty Try.prog 32 true 4 := ⟨by kernel_rfl, by kernel_rfl⟩
theorem E1 : Ar Try.prog 32 4 3 1 := ⟨QS, by kernel_rfl⟩
def Bu (p0 : Int) : Int := (if p0 = 2 then 15 else (if (decide (p0 = 0) || (decide (p0 = 1) || decide (p0 = 3))) = true then 255 else 0))
theorem HD (Y : Nat → Prop) (w0 : World)  (p0 : Int) (r : Int) (H : Bu p0 = r)  :
    Calls Try.prog 54 #[.int .i64 p0] w0 fun e w' => e = .returned (.int .i64 r) ∧ Below w0.heap.size w0 w' := by
 refine enter Try.func54 Aa Try.ntmps54 Aa fun a F => ?_
 have W := Stw.start Y w0
 unfold Bu at H
 refine vc tk 12 F W fun a w F W => ?_
 refine Br F Aa H (fun F H => ?_) fun F H => ?_
 ·
  refine vc tk 5 F W fun a w F W => ?_
  refine Al (Ap ?_)
  subst H
  refine Aq (.inl Aa) F W Aa (Ak F Aa) ?_
  exact ⟨rfl, W.done⟩
 refine E8 tk 3 F W fun a w F W => ?_
 refine AC (fun a w => Fr 15 [] [(2, .int .i64 0), (14, .bool (decide (p0 = 0) || (decide (p0 = 1) || decide (p0 = 3))))] a ∧ Stw ⟨Y, [], w0⟩ [] [] w) ?_ ?_
 ·
  refine vc tk 4 F W fun a w F W => ?_
  rcases Bool.eq_false_or_eq_true (decide (p0 = 0)) with hb0 | hb0
  ·
   rw [hb0] at F
   refine vl tk 8 F W fun a w F W => ?_
   refine Ad ?_
   exact ⟨F.re ⟨rfl, (F6 (by try rw [hb0]; all_goals simp only [F7])), trivial⟩, W⟩
  rw [hb0] at F
  refine vl tk 4 F W fun a w F W => ?_
  rcases Bool.eq_false_or_eq_true (decide (p0 = 1)) with hb1 | hb1
  ·
   rw [hb1] at F
   refine vl tk 4 F W fun a w F W => ?_
   refine Ad ?_
   exact ⟨F.re ⟨rfl, (F6 (by try rw [hb0]; try rw [hb1]; all_goals simp only [F7])), trivial⟩, W⟩
  rw [hb1] at F
  refine vl tk 4 F W fun a w F W => ?_
  refine Ad ?_
  exact ⟨F.re ⟨rfl, (F6 (by try rw [hb0]; try rw [hb1]; all_goals simp only [F7])), trivial⟩, W⟩
 rintro a w ⟨F, W⟩
 refine B8 F Aa H (fun F H => ?_) fun F H => ?_
 ·
  refine vc tk 5 F W fun a w F W => ?_
  refine Al (Ap ?_)
  subst H
  refine Aq (.inl Aa) F W Aa (Ak F Aa) ?_
  exact ⟨rfl, W.done⟩
 refine E8 tk 7 F W fun a w F W => ?_
 refine Al ?_
 subst H
 refine Aq (.inl Aa) F W Aa (Ak F Aa) ?_
 exact ⟨rfl, W.done⟩
theorem QJ : Has Try.prog 54 := B3 Try.func54
noncomputable def ES (p1 : Int) : (Int × Int) → Option ((Int × Int) ⊕ Int)
  | (x2, x3) => (if x3 < p1 then some (.inl (Cs (Int.tdiv x2 2), Cs (x3 + 1))) else some (.inr x2))
noncomputable def CH (p0 : Int) (p1 : Int) : Option Int := (AJ (ES p1) (p0, 0)).bind fun x1 => some (Int.tmod x1 2)
theorem Jr (Y : Nat → Prop) (w0 : World)  (p0 : Int) (p1 : Int) (r : Int) (H : CH p0 p1 = some r)  :
    Calls Try.prog 55 #[.int .i64 p0, .int .i64 p1] w0 fun e w' => e = .returned (.int .i64 r) ∧ Below w0.heap.size w0 w' := by
 refine enter Try.func55 Aa Try.ntmps55 Aa fun a F => ?_
 have W := Stw.start Y w0
 unfold CH at H
 refine vc tk 5 F W fun a w F W => ?_
 obtain ⟨o1, G1, K1⟩ := Ah H
 refine AC (fun a w => ∃ x1 : Int, some (x1) = some o1 ∧ Fr 15 [] [(0, .int .i64 x1), (4, .int .i64 0)] a ∧ Stw ⟨Y, [], w0⟩ [] [] w) ?_ ?_
 ·
  have H := G1
  clear G1 K1
  refine vc tk 6 F W fun a w F W => ?_
  refine BI H (fun s a w => Fr 15 [] [(0, .int .i64 s.1), (1, .int .i64 p1), (4, .int .i64 0), (5, .int .i64 s.2)] a ∧ Stw ⟨Y, [], w0⟩ [] [] w) ⟨F.ra Aa, W⟩ fun s o a w H L2 hR => ?_
  obtain ⟨x2, x3⟩ := s
  obtain ⟨F, W⟩ := hR
  have F : Fr 15 [] [(0, .int .i64 x2), (1, .int .i64 p1), (4, .int .i64 0), (5, .int .i64 x3)] a := F
  have W : Stw ⟨Y, [], w0⟩ [] [] w := W
  rw [ES] at H
  refine vc tk 8 F W fun a w F W => ?_
  refine Br F Aa H (fun F H => ?_) fun F H => ?_
  ·
   refine E8 tk 6 F W fun a w F W => ?_
   refine ls F W Aa (Qj F Aa Aa (by decide) Aa).q fun a w F W => ?_
   refine vl tk 2 F W fun a w F W => ?_
   refine AV ?_
   refine vn tk 5 F W fun a w F W => ?_
   refine Ad ?_
   exact ⟨_, H, F.ra Aa, W⟩
  refine Bz ?_
  iterate 2 refine B7 ?_
  refine BC (Ad ?_)
  have H := L2 _ H
  exact ⟨_, H, F.ra Aa, W⟩
 rintro a w ⟨x1, hj, F, W⟩
 have hj := Aw hj
 subst hj
 have H := K1
 clear G1 K1
 refine vc tk 3 F W fun a w F W => ?_
 refine ls F W Aa (P3 F Aa Aa (by decide) Aa).q fun a w F W => ?_
 refine BV tk 3 F W fun a w F W => ?_
 refine Al ?_
 have H := Aw H
 subst H
 refine Aq (.inl Aa) F W Aa (Ak F Aa) ?_
 exact ⟨rfl, W.done⟩
theorem FB : type_of% Try.underlying34 := Try.underlying34
theorem Rc : Has Try.prog 55 := B3 Try.func55
abbrev NB (a0 : Int × (Int × Int × Int × Int) × (Int × Int × Int × Int)) : List Value := [.int .i64 a0.1, .int .i64 a0.2.1.1, .int .i64 a0.2.1.2.1, .int .i64 a0.2.1.2.2.1, .int .i64 a0.2.1.2.2.2, .int .i64 a0.2.2.1, .int .i64 a0.2.2.2.1, .int .i64 a0.2.2.2.2.1, .int .i64 a0.2.2.2.2.2]
abbrev Ht (a0 : Nat) (a1 : Int × (Int × Int × Int × Int) × (Int × Int × Int × Int)) : List (Nat × List Value) := [(a0, [.int .i64 a1.1, .int .i64 a1.2.1.1, .int .i64 a1.2.1.2.1, .int .i64 a1.2.1.2.2.1, .int .i64 a1.2.1.2.2.2, .int .i64 a1.2.2.1, .int .i64 a1.2.2.2.1, .int .i64 a1.2.2.2.2.1, .int .i64 a1.2.2.2.2.2])]
noncomputable def EI (p0 : Int × (Int × Int × Int × Int) × (Int × Int × Int × Int)) (x1 : Int) : Int → Option (Int ⊕ (Unit ⊕ (Int ⊕ (Unit ⊕ Bool))))
  | x7 => (if x7 < 8 then (ix ([p0.2.1.1, p0.2.1.2.1, p0.2.1.2.2.1, p0.2.1.2.2.2] : List Int) x1).bind fun x8 => (CH x8 x7).bind fun x9 => (ix ([p0.2.2.1, p0.2.2.2.1, p0.2.2.2.2.1, p0.2.2.2.2.2] : List Int) x1).bind fun x10 => (CH x10 x7).bind fun x11 => (if x11 < x9 then some (.inr (.inr (.inr (.inr false)))) else some (.inl (Cs (x7 + 1)))) else some (.inr (.inl ())))
noncomputable def EA (p0 : Int × (Int × Int × Int × Int) × (Int × Int × Int × Int)) : Int → Option (Int ⊕ (Unit ⊕ Bool))
  | x1 => (if x1 < 4 then Fu (((ix ([p0.2.2.1, p0.2.2.2.1, p0.2.2.2.2.1, p0.2.2.2.2.2] : List Int) x1).bind fun x3 => (if x3 < 0 then some true else (ix ([p0.2.2.1, p0.2.2.2.1, p0.2.2.2.2.1, p0.2.2.2.2.2] : List Int) x1).bind fun x4 => (if (Bu x1) < x4 then some true else (ix ([p0.2.1.1, p0.2.1.2.1, p0.2.1.2.2.1, p0.2.1.2.2.2] : List Int) x1).bind fun x5 => (if x5 < 0 then some true else (ix ([p0.2.1.1, p0.2.1.2.1, p0.2.1.2.2.1, p0.2.1.2.2.2] : List Int) x1).bind fun x6 => some (decide ((Bu x1) < x6)))))).bind fun x2 => (if x2 = true then some (.inr (.inr (.inr false))) else AJ (EI p0 x1) 0)) fun _ => some (.inl (Cs (x1 + 1))) else some (.inr (.inl ())))
noncomputable def FJ (p0 : Int × (Int × Int × Int × Int) × (Int × Int × Int × Int)) : Option Bool := (if (decide (p0.1 < (-1)) || decide (7 < p0.1)) = true then some false else Fu (AJ (EA p0) 0) fun _ => some true)
theorem Ki (Y : Nat → Prop) (w0 : World)  (p0 : Int × (Int × Int × Int × Int) × (Int × Int × Int × Int)) (r : Bool) (H : FJ p0 = some r)  :
    Calls Try.prog 38 #[.agg #[.int .i64 p0.1, .int .i64 p0.2.1.1, .int .i64 p0.2.1.2.1, .int .i64 p0.2.1.2.2.1, .int .i64 p0.2.1.2.2.2, .int .i64 p0.2.2.1, .int .i64 p0.2.2.2.1, .int .i64 p0.2.2.2.2.1, .int .i64 p0.2.2.2.2.2]] w0 fun e w' => e = .returned (.bool r) ∧ Below w0.heap.size w0 w' := by
 refine enter Try.func38 Aa Try.ntmps38 Aa fun a F => ?_
 have W := Stw.start Y w0
 unfold FJ at H
 refine vc tk 2 F W fun a w F W => ?_
 refine B1 (cs := (NB p0)) F W Aa Aa Aa fun b1 a w F W => ?_
 refine BV tk 4 F W fun a w F W => ?_
 refine AC (fun a w => Fr 64 [] [(1, .pointer (some ⟨b1, 0, none⟩)), (2, .bool false), (12, .bool (decide (p0.1 < (-1)) || decide (7 < p0.1)))] a ∧ Stw ⟨Y, [], w0⟩ (Ht b1 p0) [] w) ?_ ?_
 ·
  refine Gh tk 5 [0] F W (ai fun a w F W => ?_)
  rcases Bool.eq_false_or_eq_true (decide (p0.1 < (-1))) with hb0 | hb0
  ·
   rw [hb0] at F
   refine vl tk 5 F W fun a w F W => ?_
   refine Ad ?_
   exact ⟨F.re ⟨rfl, Aa, (F6 (by try rw [hb0]; all_goals simp only [F7])), trivial⟩, W⟩
  rw [hb0] at F
  refine GY tk 5 [0] F W (ai fun a w F W => ?_)
  refine Ad ?_
  exact ⟨F.re ⟨rfl, Aa, (F6 (by try rw [hb0]; all_goals simp only [F7])), trivial⟩, W⟩
 rintro a w ⟨F, W⟩
 refine B8 F Aa H (fun F H => ?_) fun F H => ?_
 ·
  refine vc tk 5 F W fun a w F W => ?_
  refine Al (Ap ?_)
  have H := Aw H
  subst H
  refine Aq (.inl Aa) F W Aa (Ak F Aa) ?_
  exact ⟨rfl, W.done⟩
 refine AH (Ad ?_)
 obtain ⟨o1, G1, K1, L1⟩ := IZ H
 refine AC (fun a w => some (Sum.inl ()) = some o1 ∧ Fr 64 [] [(2, .bool false)] a ∧ Stw ⟨Y, [], w0⟩ (Ht b1 p0) [] w) ?_ ?_
 ·
  have H := G1
  clear G1 K1
  refine vc tk 6 F W fun a w F W => ?_
  refine BI H (fun s a w => Fr 64 [] [(1, .pointer (some ⟨b1, 0, none⟩)), (2, .bool false), (3, .int .i64 s)] a ∧ Stw ⟨Y, [], w0⟩ (Ht b1 p0) [] w) ⟨F.ra Aa, W⟩ fun s o a w H L2 hR => ?_
  obtain ⟨x1, rfl⟩ : ∃ x, x = s := ⟨s, rfl⟩
  obtain ⟨F, W⟩ := hR
  have F : Fr 64 [] [(1, .pointer (some ⟨b1, 0, none⟩)), (2, .bool false), (3, .int .i64 x1)] a := F
  have W : Stw ⟨Y, [], w0⟩ (Ht b1 p0) [] w := W
  rw [EA] at H
  refine vc tk 7 F W fun a w F W => ?_
  refine Br F Aa H (fun F H => ?_) fun F H => ?_
  ·
   refine AH (Ad ?_)
   obtain ⟨o3, G3, K3, L3⟩ := IZ H
   refine AC (fun a w => some (Sum.inl ()) = some o3 ∧ Fr 64 [] [(1, .pointer (some ⟨b1, 0, none⟩)), (2, .bool false), (3, .int .i64 x1)] a ∧ Stw ⟨Y, [], w0⟩ (Ht b1 p0) [] w) ?_ ?_
   ·
    have H := G3
    clear G3 K3
    refine vc tk 2 F W fun a w F W => ?_
    obtain ⟨o4, G4, K4⟩ := Ah H
    refine AC (fun a w => ∃ x2 : Bool, some (x2) = some o4 ∧ Fr 64 [] [(1, .pointer (some ⟨b1, 0, none⟩)), (2, .bool false), (3, .int .i64 x1), (46, .bool x2)] a ∧ Stw ⟨Y, [], w0⟩ (Ht b1 p0) [] w) ?_ ?_
    ·
     have H := G4
     clear G4 K4
     refine CV W MO (by kernel_rfl) ?_
     refine qs F Aa (Am F Aa).q fun a F => ?_
     refine qs F Aa (An FB Aa Aa Aa Jn F Aa 5 Aa).q fun a F => ?_
     obtain ⟨x3, h1, H⟩ := Ah H
     refine qs F Aa (BM (5 + (x1).toNat * 1) E1 F Aa Aa Aa h1 Aa).q fun a F => ?_
     refine qs F Aa (BR (v := Value.int .i64 x3) 0 F Aa Aa T3 (CP (base := 5) (m := 4) (l := [p0.2.2.1, p0.2.2.2.1, p0.2.2.2.2.1, p0.2.2.2.2.2]) (enc := Value.int .i64) Aa h1)).q fun a F => ?_
     refine qs F Aa (Jd F Aa Aa).q fun a F => ?_
     refine qs F Aa (Am F Aa).q fun a F => ?_
     rcases Bool.eq_false_or_eq_true (decide (x3 < 0)) with hb | hb
     ·
      have H := BW (Ci hb) H
      rw [hb] at F
      clear hb
      iterate 7 refine AL F (AA F Aa Aa Aa Aa Aa) Aa Aa fun a F => ?_
      refine qs F Aa (B0 F Aa Aa Aa).q fun a F => ?_
      refine qs F Aa (Am F Aa).q fun a F => ?_
      iterate 5 refine AL F (AA F Aa Aa Aa Aa Aa) Aa Aa fun a F => ?_
      refine qs F Aa (B0 F Aa Aa Aa).q fun a F => ?_
      refine qs F Aa (Am F Aa).q fun a F => ?_
      iterate 7 refine AL F (AA F Aa Aa Aa Aa Aa) Aa Aa fun a F => ?_
      refine qs F Aa (B0 F Aa Aa Aa).q fun a F => ?_
      refine AM fun w W => ?_
      refine Ad ?_
      exact ⟨_, H, F.ra Aa, W⟩
     have H := BX (Ch hb) H
     rw [hb] at F
     clear hb
     refine Bp F (Ag F Aa Aa Aa Aa) Aa (Ax Aa) (Am F Aa).q fun a F => ?_
     refine Bp F (Ag F Aa Aa Aa Aa) Aa (Ax Aa) (An FB Aa Aa Aa Jn F Aa 5 Aa).q fun a F => ?_
     obtain ⟨x4, h2, H⟩ := Ah H
     refine Bp F (Ag F Aa Aa Aa Aa) Aa (Ax Aa) (BM (5 + (x1).toNat * 1) E1 F Aa Aa Aa h2 Aa).q fun a F => ?_
     refine Bp F (Ag F Aa Aa Aa Aa) Aa (Ax Aa) (BR (v := Value.int .i64 x4) 0 F Aa Aa T3 (CP (base := 5) (m := 4) (l := [p0.2.2.1, p0.2.2.2.1, p0.2.2.2.2.1, p0.2.2.2.2.2]) (enc := Value.int .i64) Aa h2)).q fun a F => ?_
     refine Bp F (Ag F Aa Aa Aa Aa) Aa (Ax Aa) (Am F Aa).q fun a F => ?_
     refine Bp F (Ag F Aa Aa Aa Aa) Aa (Ax Aa) (AU (v := Value.int .i64 (Bu x1)) F QJ Aa (fun w W => HD any w x1 _ Aa)) fun a F => ?_
     refine Bp F (Ag F Aa Aa Aa Aa) Aa (Ax Aa) (Lm F Aa Aa).q fun a F => ?_
     refine qs F Aa (AQ F Aa Aa Aa).q fun a F => ?_
     refine qs F Aa (Am F Aa).q fun a F => ?_
     rcases Bool.eq_false_or_eq_true (decide ((Bu x1) < x4)) with hb | hb
     ·
      have H := BW (Ci hb) H
      rw [hb] at F
      clear hb
      iterate 5 refine AL F (AA F Aa Aa Aa Aa Aa) Aa Aa fun a F => ?_
      refine qs F Aa (B0 F Aa Aa Aa).q fun a F => ?_
      refine qs F Aa (Am F Aa).q fun a F => ?_
      iterate 7 refine AL F (AA F Aa Aa Aa Aa Aa) Aa Aa fun a F => ?_
      refine qs F Aa (B0 F Aa Aa Aa).q fun a F => ?_
      refine AM fun w W => ?_
      refine Ad ?_
      exact ⟨_, H, F.ra Aa, W⟩
     have H := BX (Ch hb) H
     rw [hb] at F
     clear hb
     refine Bp F (Ag F Aa Aa Aa Aa) Aa (Ax Aa) (Am F Aa).q fun a F => ?_
     refine Bp F (Ag F Aa Aa Aa Aa) Aa (Ax Aa) (An FB Aa Aa Aa Jn F Aa 1 Aa).q fun a F => ?_
     obtain ⟨x5, h3, H⟩ := Ah H
     refine Bp F (Ag F Aa Aa Aa Aa) Aa (Ax Aa) (BM (1 + (x1).toNat * 1) E1 F Aa Aa Aa h3 Aa).q fun a F => ?_
     refine Bp F (Ag F Aa Aa Aa Aa) Aa (Ax Aa) (BR (v := Value.int .i64 x5) 0 F Aa Aa T3 (CP (base := 1) (m := 4) (l := [p0.2.1.1, p0.2.1.2.1, p0.2.1.2.2.1, p0.2.1.2.2.2]) (enc := Value.int .i64) Aa h3)).q fun a F => ?_
     refine Bp F (Ag F Aa Aa Aa Aa) Aa (Ax Aa) (Jd F Aa Aa).q fun a F => ?_
     refine qs F Aa (AQ F Aa Aa Aa).q fun a F => ?_
     refine qs F Aa (Am F Aa).q fun a F => ?_
     rcases Bool.eq_false_or_eq_true (decide (x5 < 0)) with hb | hb
     ·
      have H := BW (Ci hb) H
      rw [hb] at F
      clear hb
      iterate 7 refine AL F (AA F Aa Aa Aa Aa Aa) Aa Aa fun a F => ?_
      refine qs F Aa (B0 F Aa Aa Aa).q fun a F => ?_
      refine AM fun w W => ?_
      refine Ad ?_
      exact ⟨_, H, F.ra Aa, W⟩
     have H := BX (Ch hb) H
     rw [hb] at F
     clear hb
     refine Bp F (Ag F Aa Aa Aa Aa) Aa (Ax Aa) (Am F Aa).q fun a F => ?_
     refine Bp F (Ag F Aa Aa Aa Aa) Aa (Ax Aa) (An FB Aa Aa Aa Jn F Aa 1 Aa).q fun a F => ?_
     obtain ⟨x6, h4, H⟩ := Ah H
     refine Bp F (Ag F Aa Aa Aa Aa) Aa (Ax Aa) (BM (1 + (x1).toNat * 1) E1 F Aa Aa Aa h4 Aa).q fun a F => ?_
     refine Bp F (Ag F Aa Aa Aa Aa) Aa (Ax Aa) (BR (v := Value.int .i64 x6) 0 F Aa Aa T3 (CP (base := 1) (m := 4) (l := [p0.2.1.1, p0.2.1.2.1, p0.2.1.2.2.1, p0.2.1.2.2.2]) (enc := Value.int .i64) Aa h4)).q fun a F => ?_
     refine Bp F (Ag F Aa Aa Aa Aa) Aa (Ax Aa) (Am F Aa).q fun a F => ?_
     refine Bp F (Ag F Aa Aa Aa Aa) Aa (Ax Aa) (AU (v := Value.int .i64 (Bu x1)) F QJ Aa (fun w W => HD any w x1 _ Aa)) fun a F => ?_
     refine Bp F (Ag F Aa Aa Aa Aa) Aa (Ax Aa) (Lm F Aa Aa).q fun a F => ?_
     refine qs F Aa (AQ F Aa Aa Aa).q fun a F => ?_
     refine AM fun w W => ?_
     refine Ad ?_
     exact ⟨_, H, F.ra Aa, W⟩
    rintro a w ⟨x2, hj, F, W⟩
    have hj := Aw hj
    subst hj
    have H := K4
    clear G4 K4
    refine B8 F Aa H (fun F H => ?_) fun F H => ?_
    ·
     refine vc tk 5 F W fun a w F W => ?_
     refine Al (Ap (Az ?_))
     iterate 2 refine Ap ?_
     refine Az (Ap ?_)
     have H := L3 _ H
     have H := L2 _ H
     have H := L1 _ H
     have H := Aw H
     subst H
     refine Aq (.inl Aa) F W Aa (Ak F Aa) ?_
     exact ⟨rfl, W.done⟩
    refine E8 tk 8 F W fun a w F W => ?_
    refine BI H (fun s a w => Fr 64 [] [(1, .pointer (some ⟨b1, 0, none⟩)), (2, .bool false), (3, .int .i64 x1), (4, .int .i64 s)] a ∧ Stw ⟨Y, [], w0⟩ (Ht b1 p0) [] w) ⟨F.ra Aa, W⟩ fun s o a w H L5 hR => ?_
    obtain ⟨x7, rfl⟩ : ∃ x, x = s := ⟨s, rfl⟩
    obtain ⟨F, W⟩ := hR
    have F : Fr 64 [] [(1, .pointer (some ⟨b1, 0, none⟩)), (2, .bool false), (3, .int .i64 x1), (4, .int .i64 x7)] a := F
    have W : Stw ⟨Y, [], w0⟩ (Ht b1 p0) [] w := W
    rw [EI] at H
    refine vc tk 7 F W fun a w F W => ?_
    refine Br F Aa H (fun F H => ?_) fun F H => ?_
    ·
     refine E8 tk 5 F W fun a w F W => ?_
     refine CV W MO (by kernel_rfl) ?_
     refine qs F Aa (Am F Aa).q fun a F => ?_
     refine qs F Aa (An FB Aa Aa Aa Jn F Aa 1 Aa).q fun a F => ?_
     obtain ⟨x8, h5, H⟩ := Ah H
     refine qs F Aa (BM (1 + (x1).toNat * 1) E1 F Aa Aa Aa h5 Aa).q fun a F => ?_
     refine qs F Aa (BR (v := Value.int .i64 x8) 0 F Aa Aa T3 (CP (base := 1) (m := 4) (l := [p0.2.1.1, p0.2.1.2.1, p0.2.1.2.2.1, p0.2.1.2.2.2]) (enc := Value.int .i64) Aa h5)).q fun a F => ?_
     refine qs F Aa (Am F Aa).q fun a F => ?_
     obtain ⟨x9, h6, H⟩ := Ah H
     refine qs F Aa (AU (v := Value.int .i64 x9) F Rc Aa (fun w W => Jr any w x8 x7 _ h6)) fun a F => ?_
     refine qs F Aa (Am F Aa).q fun a F => ?_
     refine qs F Aa (An FB Aa Aa Aa Jn F Aa 5 Aa).q fun a F => ?_
     obtain ⟨x10, h7, H⟩ := Ah H
     refine qs F Aa (BM (5 + (x1).toNat * 1) E1 F Aa Aa Aa h7 Aa).q fun a F => ?_
     refine qs F Aa (BR (v := Value.int .i64 x10) 0 F Aa Aa T3 (CP (base := 5) (m := 4) (l := [p0.2.2.1, p0.2.2.2.1, p0.2.2.2.2.1, p0.2.2.2.2.2]) (enc := Value.int .i64) Aa h7)).q fun a F => ?_
     refine qs F Aa (Am F Aa).q fun a F => ?_
     obtain ⟨x11, h8, H⟩ := Ah H
     refine qs F Aa (AU (v := Value.int .i64 x11) F Rc Aa (fun w W => Jr any w x10 x7 _ h8)) fun a F => ?_
     refine qs F Aa (Lm F Aa Aa).q fun a F => ?_
     refine AM fun w W => ?_
     refine Ad ?_
     refine Br F Aa H (fun F H => ?_) fun F H => ?_
     ·
      refine vc tk 5 F W fun a w F W => ?_
      refine Al (Az ?_)
      iterate 2 refine Ap ?_
      iterate 2 refine Az ?_
      iterate 2 refine Ap ?_
      refine Az (Ap ?_)
      have H := L5 _ H
      have H := L3 _ H
      have H := L2 _ H
      have H := L1 _ H
      have H := Aw H
      subst H
      refine Aq (.inl Aa) F W Aa (Ak F Aa) ?_
      exact ⟨rfl, W.done⟩
     refine AH (AV ?_)
     refine vn tk 5 F W fun a w F W => ?_
     refine Ad ?_
     exact ⟨_, H, F.ra Aa, W⟩
    refine Bz ?_
    iterate 2 refine B7 ?_
    refine BC (AV (Ad ?_))
    have H := L5 _ H
    exact ⟨H, F.ra Aa, W⟩
   rintro a w ⟨hj, F, W⟩
   have H := K3 _ hj
   clear hj G3 K3 L3
   refine vc tk 5 F W fun a w F W => ?_
   refine Ad ?_
   exact ⟨_, H, F.ra Aa, W⟩
  refine Bz ?_
  iterate 2 refine B7 ?_
  refine BC (Ad ?_)
  have H := L2 _ H
  exact ⟨H, F.ra Aa, W⟩
 rintro a w ⟨hj, F, W⟩
 have H := K1 _ hj
 clear hj G1 K1 L1
 refine vc tk 5 F W fun a w F W => ?_
 refine Al ?_
 have H := Aw H
 subst H
 refine Aq (.inl Aa) F W Aa (Ak F Aa) ?_
 exact ⟨rfl, W.done⟩
theorem HC : type_of% Try.underlying35 := Try.underlying35
theorem HR : type_of% Try.underlying88 := Try.underlying88
theorem RZ : Has Try.prog 38 := B3 Try.func38
theorem NM : Ty Try.prog 35 false 1 := ⟨by kernel_rfl, by kernel_rfl⟩
theorem Oe : Et Try.prog 35 88 3 24 := Et.of HC (by kernel_rfl) (by kernel_rfl) (by kernel_rfl) (by decide)
def RG (a : Int × Int × Int) : List Value := [.int .i64 a.1, .int .i64 a.2.1, .int .i64 a.2.2]
theorem OE : Fl Bl RG := (Fl.pair Fl.int (Fl.pair Fl.int Fl.int))
theorem O2 : Ty Try.prog 88 true 3 := ⟨by kernel_rfl, by kernel_rfl⟩
abbrev Mp (a0 : Nat) (a1 : Int × Int × Int) : List (Nat × List Value) := [(a0, [.int .i64 a1.1, .int .i64 a1.2.1, .int .i64 a1.2.2])]
def Gv (p0 : Int × Int × Int) (p1 : Int) : Bool := (if p0.1 = 1 then (decide (0 ≤ p0.2.1) && (decide (p0.2.1 ≤ 3) && (decide (0 ≤ p0.2.2) && decide (p0.2.2 ≤ (Bu p0.2.1))))) else (if p0.1 = 3 then (decide (p0.2.1 = 0) && decide (p0.2.2 = 0)) else (decide (p0.1 = 2) && (decide (p0.2.1 = 0) && (decide (0 ≤ p0.2.2) && decide (p0.2.2 < p1))))))
theorem Mr (Y : Nat → Prop) (w0 : World)  (p0 : Int × Int × Int) (p1 : Int) (r : Bool) (H : Gv p0 p1 = r)  :
    Calls Try.prog 56 #[.agg #[.int .i64 p0.1, .int .i64 p0.2.1, .int .i64 p0.2.2], .int .i64 p1] w0 fun e w' => e = .returned (.bool r) ∧ Below w0.heap.size w0 w' := by
 refine enter Try.func56 Aa Try.ntmps56 Aa fun a F => ?_
 have W := Stw.start Y w0
 unfold Gv at H
 refine vc tk 2 F W fun a w F W => ?_
 refine B1 (cs := [.int .i64 p0.1, .int .i64 p0.2.1, .int .i64 p0.2.2]) F W Aa Aa Aa fun b1 a w F W => ?_
 refine EY tk 11 [0] F W (ai fun a w F W => ?_)
 refine Br F Aa H (fun F H => ?_) fun F H => ?_
 ·
  refine AC (fun a w => Fr 59 [] [(1, .int .i64 p1), (2, .pointer (some ⟨b1, 0, none⟩)), (4, .bool (decide (0 ≤ p0.2.1) && (decide (p0.2.1 ≤ 3) && (decide (0 ≤ p0.2.2) && decide (p0.2.2 ≤ (Bu p0.2.1))))))] a ∧ Stw ⟨Y, [], w0⟩ (Mp b1 p0) [] w) ?_ ?_
  ·
   refine CV W MO (by kernel_rfl) ?_
   refine qs F Aa (An HR Aa Aa Aa T3 F Aa 1 Aa).q fun a F => ?_
   refine qs F Aa (BR (v := Value.int .i64 p0.2.1) 0 F Aa Aa T3 Aa).q fun a F => ?_
   refine qs F Aa (Jh F Aa Aa).q fun a F => ?_
   refine qs F Aa (Am F Aa).q fun a F => ?_
   rcases Bool.eq_false_or_eq_true (decide (0 ≤ p0.2.1)) with hb0 | hb0
   ·
    rw [hb0] at F
    refine Bp F (Ag F Aa Aa Aa Aa) Aa (Ax Aa) (An HR Aa Aa Aa T3 F Aa 1 Aa).q fun a F => ?_
    refine Bp F (Ag F Aa Aa Aa Aa) Aa (Ax Aa) (BR (v := Value.int .i64 p0.2.1) 0 F Aa Aa T3 Aa).q fun a F => ?_
    refine Bp F (Ag F Aa Aa Aa Aa) Aa (Ax Aa) (LB F Aa Aa).q fun a F => ?_
    refine qs F Aa (B0 F Aa Aa Aa).q fun a F => ?_
    refine qs F Aa (Am F Aa).q fun a F => ?_
    rcases Bool.eq_false_or_eq_true (decide (p0.2.1 ≤ 3)) with hb1 | hb1
    ·
     rw [hb1] at F
     refine Bp F (Ag F Aa Aa Aa Aa) Aa (Ax Aa) (An HR Aa Aa Aa T3 F Aa 2 Aa).q fun a F => ?_
     refine Bp F (Ag F Aa Aa Aa Aa) Aa (Ax Aa) (BR (v := Value.int .i64 p0.2.2) 0 F Aa Aa T3 Aa).q fun a F => ?_
     refine Bp F (Ag F Aa Aa Aa Aa) Aa (Ax Aa) (Jh F Aa Aa).q fun a F => ?_
     refine qs F Aa (B0 F Aa Aa Aa).q fun a F => ?_
     refine qs F Aa (Am F Aa).q fun a F => ?_
     rcases Bool.eq_false_or_eq_true (decide (0 ≤ p0.2.2)) with hb2 | hb2
     ·
      rw [hb2] at F
      refine Bp F (Ag F Aa Aa Aa Aa) Aa (Ax Aa) (An HR Aa Aa Aa T3 F Aa 2 Aa).q fun a F => ?_
      refine Bp F (Ag F Aa Aa Aa Aa) Aa (Ax Aa) (BR (v := Value.int .i64 p0.2.2) 0 F Aa Aa T3 Aa).q fun a F => ?_
      refine Bp F (Ag F Aa Aa Aa Aa) Aa (Ax Aa) (An HR Aa Aa Aa T3 F Aa 1 Aa).q fun a F => ?_
      refine Bp F (Ag F Aa Aa Aa Aa) Aa (Ax Aa) (BR (v := Value.int .i64 p0.2.1) 0 F Aa Aa T3 Aa).q fun a F => ?_
      refine Bp F (Ag F Aa Aa Aa Aa) Aa (Ax Aa) (AU (v := Value.int .i64 (Bu p0.2.1)) F QJ Aa (fun w W => HD any w p0.2.1 _ Aa)) fun a F => ?_
      refine Bp F (Ag F Aa Aa Aa Aa) Aa (Ax Aa) (LB F Aa Aa).q fun a F => ?_
      refine qs F Aa (B0 F Aa Aa Aa).q fun a F => ?_
      refine qs F Aa (BK F Aa).q fun a F => ?_
      refine AM fun w W => ?_
      refine Ad ?_
      exact ⟨F.re ⟨rfl, Aa, (F6 (by try rw [hb0]; try rw [hb1]; try rw [hb2]; all_goals simp only [F7])), trivial⟩, W⟩
     rw [hb2] at F
     iterate 6 refine AL F (AA F Aa Aa Aa Aa Aa) Aa Aa fun a F => ?_
     refine qs F Aa (AQ F Aa Aa Aa).q fun a F => ?_
     refine qs F Aa (BK F Aa).q fun a F => ?_
     refine AM fun w W => ?_
     refine Ad ?_
     exact ⟨F.re ⟨rfl, Aa, (F6 (by try rw [hb0]; try rw [hb1]; try rw [hb2]; all_goals simp only [F7])), trivial⟩, W⟩
    rw [hb1] at F
    iterate 3 refine AL F (AA F Aa Aa Aa Aa Aa) Aa Aa fun a F => ?_
    refine qs F Aa (AQ F Aa Aa Aa).q fun a F => ?_
    refine qs F Aa (Am F Aa).q fun a F => ?_
    iterate 6 refine AL F (AA F Aa Aa Aa Aa Aa) Aa Aa fun a F => ?_
    refine qs F Aa (AQ F Aa Aa Aa).q fun a F => ?_
    refine qs F Aa (BK F Aa).q fun a F => ?_
    refine AM fun w W => ?_
    refine Ad ?_
    exact ⟨F.re ⟨rfl, Aa, (F6 (by try rw [hb0]; try rw [hb1]; all_goals simp only [F7])), trivial⟩, W⟩
   rw [hb0] at F
   iterate 3 refine AL F (AA F Aa Aa Aa Aa Aa) Aa Aa fun a F => ?_
   refine qs F Aa (AQ F Aa Aa Aa).q fun a F => ?_
   refine qs F Aa (Am F Aa).q fun a F => ?_
   iterate 3 refine AL F (AA F Aa Aa Aa Aa Aa) Aa Aa fun a F => ?_
   refine qs F Aa (AQ F Aa Aa Aa).q fun a F => ?_
   refine qs F Aa (Am F Aa).q fun a F => ?_
   iterate 6 refine AL F (AA F Aa Aa Aa Aa Aa) Aa Aa fun a F => ?_
   refine qs F Aa (AQ F Aa Aa Aa).q fun a F => ?_
   refine qs F Aa (BK F Aa).q fun a F => ?_
   refine AM fun w W => ?_
   refine Ad ?_
   exact ⟨F.re ⟨rfl, Aa, (F6 (by try rw [hb0]; all_goals simp only [F7])), trivial⟩, W⟩
  rintro a w ⟨F, W⟩
  refine Al (Ap ?_)
  subst H
  refine Aq (.inl Aa) F W Aa (Ak F Aa) ?_
  exact ⟨rfl, W.done⟩
 refine NF tk 10 [0] F W (ai fun a w F W => ?_)
 refine Br F Aa H (fun F H => ?_) fun F H => ?_
 ·
  refine AC (fun a w => Fr 59 [] [(1, .int .i64 p1), (2, .pointer (some ⟨b1, 0, none⟩)), (4, .bool (decide (p0.2.1 = 0) && decide (p0.2.2 = 0)))] a ∧ Stw ⟨Y, [], w0⟩ (Mp b1 p0) [] w) ?_ ?_
  ·
   refine Gh tk 5 [0] F W (ai fun a w F W => ?_)
   rcases Bool.eq_false_or_eq_true (decide (p0.2.1 = 0)) with hb0 | hb0
   ·
    rw [hb0] at F
    refine GY tk 6 [0] F W (ai fun a w F W => ?_)
    refine Ad ?_
    exact ⟨F.re ⟨rfl, Aa, (F6 (by try rw [hb0]; all_goals simp only [F7])), trivial⟩, W⟩
   rw [hb0] at F
   refine vl tk 6 F W fun a w F W => ?_
   refine Ad ?_
   exact ⟨F.re ⟨rfl, Aa, (F6 (by try rw [hb0]; all_goals simp only [F7])), trivial⟩, W⟩
  rintro a w ⟨F, W⟩
  refine Al (Ap ?_)
  subst H
  refine Aq (.inl Aa) F W Aa (Ak F Aa) ?_
  exact ⟨rfl, W.done⟩
 refine E8 tk 2 F W fun a w F W => ?_
 refine AC (fun a w => Fr 59 [] [(4, .bool (decide (p0.1 = 2) && (decide (p0.2.1 = 0) && (decide (0 ≤ p0.2.2) && decide (p0.2.2 < p1)))))] a ∧ Stw ⟨Y, [], w0⟩ (Mp b1 p0) [] w) ?_ ?_
 ·
  refine Gh tk 5 [0] F W (ai fun a w F W => ?_)
  rcases Bool.eq_false_or_eq_true (decide (p0.1 = 2)) with hb0 | hb0
  ·
   rw [hb0] at F
   refine GY tk 5 [0] F W (ai fun a w F W => ?_)
   rcases Bool.eq_false_or_eq_true (decide (p0.2.1 = 0)) with hb1 | hb1
   ·
    rw [hb1] at F
    refine GY tk 5 [0] F W (ai fun a w F W => ?_)
    rcases Bool.eq_false_or_eq_true (decide (0 ≤ p0.2.2)) with hb2 | hb2
    ·
     rw [hb2] at F
     refine GY tk 7 [0] F W (ai fun a w F W => ?_)
     refine Ad ?_
     exact ⟨F.re ⟨(F6 (by try rw [hb1]; try rw [hb2]; try rw [hb0]; all_goals simp only [F7])), trivial⟩, W⟩
    rw [hb2] at F
    refine vl tk 7 F W fun a w F W => ?_
    refine Ad ?_
    exact ⟨F.re ⟨(F6 (by try rw [hb1]; try rw [hb2]; try rw [hb0]; all_goals simp only [F7])), trivial⟩, W⟩
   rw [hb1] at F
   refine vl tk 12 F W fun a w F W => ?_
   refine Ad ?_
   exact ⟨F.re ⟨(F6 (by try rw [hb1]; try rw [hb0]; all_goals simp only [F7])), trivial⟩, W⟩
  rw [hb0] at F
  refine vl tk 17 F W fun a w F W => ?_
  refine Ad ?_
  exact ⟨F.re ⟨(F6 (by try rw [hb0]; all_goals simp only [F7])), trivial⟩, W⟩
 rintro a w ⟨F, W⟩
 refine Al ?_
 subst H
 refine Aq (.inl Aa) F W Aa (Ak F Aa) ?_
 exact ⟨rfl, W.done⟩
theorem R2 : Has Try.prog 56 := B3 Try.func56
noncomputable def EF (p0 : List (Int × Int × Int)) (p1 : Int) : Int → Option (Int ⊕ (Unit ⊕ Bool))
  | x1 => (if x1 < (p0.length : Int) then (ix p0 x1).bind fun x2 => (if (!(Gv x2 p1)) = true then some (.inr (.inr false)) else some (.inl (Cs (x1 + 1)))) else some (.inr (.inl ())))
noncomputable def Fv (p0 : List (Int × Int × Int)) (p1 : Int) : Option Bool := Fu (AJ (EF p0 p1) 0) fun _ => some (decide ((p0.length : Int) ≤ 16))
theorem J8 (Y : Nat → Prop) (w0 : World) (v1 : Value) (p0 : List (Int × Int × Int)) (p1 : Int) (r : Bool) (H : Fv p0 p1 = some r) (h_v1 : Sl w0 (NX []) Bl v1 p0) :
    Calls Try.prog 39 #[v1, .int .i64 p1] w0 fun e w' => e = .returned (.bool r) ∧ Below w0.heap.size w0 w' := by
 refine enter Try.func39 Aa Try.ntmps39 Aa fun a F => ?_
 have W := Stw.start Y w0
 unfold Fv at H
 refine vc tk 5 F W fun a w F W => ?_
 obtain ⟨o1, G1, K1, L1⟩ := IZ H
 refine AC (fun a w => some (Sum.inl ()) = some o1 ∧ Fr 22 [] [(0, v1), (4, .bool false)] a ∧ Stw ⟨Y, [], w0⟩ [] [] w) ?_ ?_
 ·
  have H := G1
  clear G1 K1
  refine vc tk 6 F W fun a w F W => ?_
  refine BI H (fun s a w => Fr 22 [] [(0, v1), (1, .int .i64 p1), (4, .bool false), (5, .int .i64 s)] a ∧ Stw ⟨Y, [], w0⟩ [] [] w) ⟨F.ra Aa, W⟩ fun s o a w H L2 hR => ?_
  obtain ⟨x1, rfl⟩ : ∃ x, x = s := ⟨s, rfl⟩
  obtain ⟨F, W⟩ := hR
  have F : Fr 22 [] [(0, v1), (1, .int .i64 p1), (4, .bool false), (5, .int .i64 x1)] a := F
  have W : Stw ⟨Y, [], w0⟩ [] [] w := W
  rw [EF] at H
  refine vc tk 5 F W fun a w F W => ?_
  refine ls F W Aa (BQ (r := Bl) (l := p0) HC Aa F Aa (Aj h_v1)).q fun a w F W => ?_
  refine BV tk 3 F W fun a w F W => ?_
  refine Br F Aa H (fun F H => ?_) fun F H => ?_
  ·
   refine E8 tk 8 F W fun a w F W => ?_
   obtain ⟨x2, h1, H⟩ := Ah H
   refine ls F W Aa (A8 (r := Bl) Oe F Aa Aa (Aj h_v1) h1).q fun a w F W => ?_
   refine ls F W Aa (AE (y := Value.agg #[.int .i64 x2.1, .int .i64 x2.2.1, .int .i64 x2.2.2]) (j := 0) (i := x1) F Aa Aa (Aj h_v1) h1 OE.to O2 Aa).q fun a w F W => ?_
   refine ls F W Aa (Am F Aa).q fun a w F W => ?_
   refine ls F W Aa (AU (v := Value.bool (Gv x2 p1)) F R2 Aa (fun w W => Mr any w x2 p1 _ Aa)) fun a w F W => ?_
   refine BV tk 3 F W fun a w F W => ?_
   refine B8 F Aa H (fun F H => ?_) fun F H => ?_
   ·
    refine vc tk 5 F W fun a w F W => ?_
    refine Al (Az ?_)
    iterate 2 refine Ap ?_
    refine Az (Ap ?_)
    have H := L2 _ H
    have H := L1 _ H
    have H := Aw H
    subst H
    refine Aq (.inl Aa) F W Aa (Ak F Aa) ?_
    exact ⟨rfl, W.done⟩
   refine AH (AV ?_)
   refine vn tk 5 F W fun a w F W => ?_
   refine Ad ?_
   exact ⟨_, H, F.ra Aa, W⟩
  refine Bz ?_
  iterate 2 refine B7 ?_
  refine BC (Ad ?_)
  have H := L2 _ H
  exact ⟨H, F.ra Aa, W⟩
 rintro a w ⟨hj, F, W⟩
 have H := K1 _ hj
 clear hj G1 K1 L1
 refine vc tk 3 F W fun a w F W => ?_
 refine ls F W Aa (BQ (r := Bl) (l := p0) HC Aa F Aa (Aj h_v1)).q fun a w F W => ?_
 refine BV tk 4 F W fun a w F W => ?_
 refine Al ?_
 have H := Aw H
 subst H
 refine Aq (.inl Aa) F W Aa (Ak F Aa) ?_
 exact ⟨rfl, W.done⟩
theorem J4 : type_of% Try.underlying37 := Try.underlying37
theorem R0 : Has Try.prog 39 := B3 Try.func39
abbrev Ed (a0 : Int × (Int × (Int × Int × Int × Int) × (Int × Int × Int × Int)) × (List (Int × Int × Int))) (a1 : Value) : List Value := [.int .i64 a0.1, .int .i64 a0.2.1.1, .int .i64 a0.2.1.2.1.1, .int .i64 a0.2.1.2.1.2.1, .int .i64 a0.2.1.2.1.2.2.1, .int .i64 a0.2.1.2.1.2.2.2, .int .i64 a0.2.1.2.2.1, .int .i64 a0.2.1.2.2.2.1, .int .i64 a0.2.1.2.2.2.2.1, .int .i64 a0.2.1.2.2.2.2.2, a1]
abbrev He (a0 : Nat) (a1 : Int × (Int × (Int × Int × Int × Int) × (Int × Int × Int × Int)) × (List (Int × Int × Int))) (a2 : Value) : List (Nat × List Value) := [(a0, [.int .i64 a1.1, .int .i64 a1.2.1.1, .int .i64 a1.2.1.2.1.1, .int .i64 a1.2.1.2.1.2.1, .int .i64 a1.2.1.2.1.2.2.1, .int .i64 a1.2.1.2.1.2.2.2, .int .i64 a1.2.1.2.2.1, .int .i64 a1.2.1.2.2.2.1, .int .i64 a1.2.1.2.2.2.2.1, .int .i64 a1.2.1.2.2.2.2.2, a2])]
noncomputable def Dt (p0 : Int × (Int × (Int × Int × Int × Int) × (Int × Int × Int × Int)) × (List (Int × Int × Int))) (p1 : Int) : Option Bool := (if 0 ≤ p0.1 then (if p0.1 ≤ 65535 then (FJ p0.2.1).bind fun x2 => (if x2 = true then (Fv p0.2.2 p1).bind fun x3 => some x3 else some false) else some false) else some false).bind fun x1 => some x1
theorem Ke (Y : Nat → Prop) (w0 : World) (v1 : Value) (p0 : Int × (Int × (Int × Int × Int × Int) × (Int × Int × Int × Int)) × (List (Int × Int × Int))) (p1 : Int) (r : Bool) (H : Dt p0 p1 = some r) (h_v1 : Sl w0 (NX []) Bl v1 p0.2.2) :
    Calls Try.prog 23 #[.agg #[.int .i64 p0.1, .int .i64 p0.2.1.1, .int .i64 p0.2.1.2.1.1, .int .i64 p0.2.1.2.1.2.1, .int .i64 p0.2.1.2.1.2.2.1, .int .i64 p0.2.1.2.1.2.2.2, .int .i64 p0.2.1.2.2.1, .int .i64 p0.2.1.2.2.2.1, .int .i64 p0.2.1.2.2.2.2.1, .int .i64 p0.2.1.2.2.2.2.2, v1], .int .i64 p1] w0 fun e w' => e = .returned (.bool r) ∧ Below w0.heap.size w0 w' := by
 refine enter Try.func23 Aa Try.ntmps23 Aa fun a F => ?_
 have W := Stw.start Y w0
 unfold Dt at H
 refine vc tk 2 F W fun a w F W => ?_
 refine B1 (cs := (Ed p0 v1)) F W Aa Aa Aa fun b1 a w F W => ?_
 refine vl tk 2 F W fun a w F W => ?_
 refine Ad ?_
 obtain ⟨o1, G1, K1⟩ := Ah H
 refine AC (fun a w => ∃ x1 : Bool, some (x1) = some o1 ∧ Fr 24 [] [(4, .bool x1)] a ∧ Stw ⟨Y, [], w0⟩ (He b1 p0 v1) [] w) ?_ ?_
 ·
  have H := G1
  clear G1 K1
  refine Gh tk 5 [0] F W (ai fun a w F W => ?_)
  rcases Bool.eq_false_or_eq_true (decide (0 ≤ p0.1)) with hb | hb
  ·
   have H := BW (Ci hb) H
   rw [hb] at F
   clear hb
   refine GY tk 5 [0] F W (ai fun a w F W => ?_)
   rcases Bool.eq_false_or_eq_true (decide (p0.1 ≤ 65535)) with hb | hb
   ·
    have H := BW (Ci hb) H
    rw [hb] at F
    clear hb
    refine GY tk 2 [0] F W (ai fun a w F W => ?_)
    refine Fg (Ag F Aa Aa Aa Aa) ?_
    obtain ⟨x2, h1, H⟩ := Ah H
    refine ls F W Aa (AU (v := Value.bool x2) F RZ Aa (fun w W => Ki any w p0.2.1 _ h1)) fun a w F W => ?_
    refine vl tk 2 F W fun a w F W => ?_
    rcases Bool.eq_false_or_eq_true x2 with hb | hb
    ·
     have H := BW hb H
     rw [hb] at F
     clear hb
     refine GY tk 3 [0] F W (ai fun a w F W => ?_)
     refine Fg (Ag F Aa Aa Aa Aa) ?_
     obtain ⟨x3, h2, H⟩ := Ah H
     refine ls F W Aa (AU (v := Value.bool x3) F R0 Aa (fun w W => J8 any w (v1) p0.2.2 p1 _ h2 (CY (Aj h_v1) W))) fun a w F W => ?_
     refine vl tk 3 F W fun a w F W => ?_
     refine Ad ?_
     exact ⟨_, H, F.ra Aa, W⟩
    have H := BX (by rw [hb]; decide) H
    rw [hb] at F
    clear hb
    refine vl tk 7 F W fun a w F W => ?_
    refine Ad ?_
    exact ⟨_, H, F.ra Aa, W⟩
   have H := BX (Ch hb) H
   rw [hb] at F
   clear hb
   refine vl tk 12 F W fun a w F W => ?_
   refine Ad ?_
   exact ⟨_, H, F.ra Aa, W⟩
  have H := BX (Ch hb) H
  rw [hb] at F
  clear hb
  refine vl tk 17 F W fun a w F W => ?_
  refine Ad ?_
  exact ⟨_, H, F.ra Aa, W⟩
 rintro a w ⟨x1, hj, F, W⟩
 have hj := Aw hj
 subst hj
 have H := K1
 clear G1 K1
 refine Al ?_
 have H := Aw H
 subst H
 refine Aq (.inl Aa) F W Aa (Ak F Aa) ?_
 exact ⟨rfl, W.done⟩
theorem PM : type_of% Try.underlying3 := Try.underlying3
theorem RA : Has Try.prog 23 := B3 Try.func23
theorem Qe (d : Nat) (x0 x1 x2 x3 y0 y1 y2 y3 : Int) (w : World) : (Op.equalIn (d + 2) 32 (.agg #[.int .i64 x0, .int .i64 x1, .int .i64 x2, .int .i64 x3]) (.agg #[.int .i64 y0, .int .i64 y1, .int .i64 y2, .int .i64 y3])).run Try.prog w = .ok (decide (x0 = y0 ∧ x1 = y1 ∧ x2 = y2 ∧ x3 = y3)) w :=
  (O5 (d := d) (k := .i64) E1 PM T3 [x0, x1, x2, x3] [y0, y1, y2, y3] rfl rfl w).trans (by congr 1; exact decide_eq_decide.2 (by simp))
theorem QF (dd : Nat) (x0 : Int) (x1 : Int) (x2 : Int) (x3 : Int) (x4 : Int) (x5 : Int) (x6 : Int) (x7 : Int) (x8 : Int) (y0 : Int) (y1 : Int) (y2 : Int) (y3 : Int) (y4 : Int) (y5 : Int) (y6 : Int) (y7 : Int) (y8 : Int) (w : World) : (Op.equalIn (dd + 3) 34 (.agg #[.int .i64 x0, .int .i64 x1, .int .i64 x2, .int .i64 x3, .int .i64 x4, .int .i64 x5, .int .i64 x6, .int .i64 x7, .int .i64 x8]) (.agg #[.int .i64 y0, .int .i64 y1, .int .i64 y2, .int .i64 y3, .int .i64 y4, .int .i64 y5, .int .i64 y6, .int .i64 y7, .int .i64 y8])).run Try.prog w = .ok (decide (x0 = y0 ∧ x1 = y1 ∧ x2 = y2 ∧ x3 = y3 ∧ x4 = y4 ∧ x5 = y5 ∧ x6 = y6 ∧ x7 = y7 ∧ x8 = y8)) w :=
  Jc (d := dd + 2) (rs := [decide (x0 = y0), decide (x1 = y1 ∧ x2 = y2 ∧ x3 = y3 ∧ x4 = y4), decide (x5 = y5 ∧ x6 = y6 ∧ x7 = y7 ∧ x8 = y8)]) FB (by kernel_rfl) ⟨rfl, HX (d := dd + 1) rfl rfl PM T3 rfl rfl, rfl, Ls (d := dd + 2) (sz := 4) (xs' := [.int .i64 x1, .int .i64 x2, .int .i64 x3, .int .i64 x4]) (ys' := [.int .i64 y1, .int .i64 y2, .int .i64 y3, .int .i64 y4]) rfl rfl Jn rfl rfl (fun w => Qe (dd + 0) x1 x2 x3 x4 y1 y2 y3 y4 w), rfl, Ls (d := dd + 2) (sz := 4) (xs' := [.int .i64 x5, .int .i64 x6, .int .i64 x7, .int .i64 x8]) (ys' := [.int .i64 y5, .int .i64 y6, .int .i64 y7, .int .i64 y8]) rfl rfl Jn rfl rfl (fun w => Qe (dd + 0) x5 x6 x7 x8 y5 y6 y7 y8 w), trivial⟩ (by rw [Bool.eq_iff_iff]; simp [and_assoc]) w
theorem Qf : Try.prog.eqGuardType Try.prog.depth 34 = false := by kernel_rfl
theorem Ql (x0 : Int) (x1 : Int) (x2 : Int) (x3 : Int) (x4 : Int) (x5 : Int) (x6 : Int) (x7 : Int) (x8 : Int) (y0 : Int) (y1 : Int) (y2 : Int) (y3 : Int) (y4 : Int) (y5 : Int) (y6 : Int) (y7 : Int) (y8 : Int) (w : World) : (Op.equalIn 10000 34 (.agg #[.int .i64 x0, .int .i64 x1, .int .i64 x2, .int .i64 x3, .int .i64 x4, .int .i64 x5, .int .i64 x6, .int .i64 x7, .int .i64 x8]) (.agg #[.int .i64 y0, .int .i64 y1, .int .i64 y2, .int .i64 y3, .int .i64 y4, .int .i64 y5, .int .i64 y6, .int .i64 y7, .int .i64 y8])).run Try.prog w = .ok (decide (x0 = y0 ∧ x1 = y1 ∧ x2 = y2 ∧ x3 = y3 ∧ x4 = y4 ∧ x5 = y5 ∧ x6 = y6 ∧ x7 = y7 ∧ x8 = y8)) w := QF 9997 x0 x1 x2 x3 x4 x5 x6 x7 x8 y0 y1 y2 y3 y4 y5 y6 y7 y8 w
abbrev NV (a0 : Nat) (a1 : Int × (Int × (Int × Int × Int × Int) × (Int × Int × Int × Int)) × (List (Int × Int × Int))) (a2 : Value) (a3 : Nat) (a4 : Int × (Int × (Int × Int × Int × Int) × (Int × Int × Int × Int)) × (List (Int × Int × Int))) (a5 : Value) : List (Nat × List Value) := [(a0, [.int .i64 a1.1, .int .i64 a1.2.1.1, .int .i64 a1.2.1.2.1.1, .int .i64 a1.2.1.2.1.2.1, .int .i64 a1.2.1.2.1.2.2.1, .int .i64 a1.2.1.2.1.2.2.2, .int .i64 a1.2.1.2.2.1, .int .i64 a1.2.1.2.2.2.1, .int .i64 a1.2.1.2.2.2.2.1, .int .i64 a1.2.1.2.2.2.2.2, a2]), (a3, [.int .i64 a4.1, .int .i64 a4.2.1.1, .int .i64 a4.2.1.2.1.1, .int .i64 a4.2.1.2.1.2.1, .int .i64 a4.2.1.2.1.2.2.1, .int .i64 a4.2.1.2.1.2.2.2, .int .i64 a4.2.1.2.2.1, .int .i64 a4.2.1.2.2.2.1, .int .i64 a4.2.1.2.2.2.2.1, .int .i64 a4.2.1.2.2.2.2.2, a5])]
def FU (p0 : Int × (Int × (Int × Int × Int × Int) × (Int × Int × Int × Int)) × (List (Int × Int × Int))) (p1 : Int × (Int × (Int × Int × Int × Int) × (Int × Int × Int × Int)) × (List (Int × Int × Int))) : Bool := (decide (p0.1 = p1.1) && decide (p0.2.1.1 = p1.2.1.1 ∧ p0.2.1.2.1.1 = p1.2.1.2.1.1 ∧ p0.2.1.2.1.2.1 = p1.2.1.2.1.2.1 ∧ p0.2.1.2.1.2.2.1 = p1.2.1.2.1.2.2.1 ∧ p0.2.1.2.1.2.2.2 = p1.2.1.2.1.2.2.2 ∧ p0.2.1.2.2.1 = p1.2.1.2.2.1 ∧ p0.2.1.2.2.2.1 = p1.2.1.2.2.2.1 ∧ p0.2.1.2.2.2.2.1 = p1.2.1.2.2.2.2.1 ∧ p0.2.1.2.2.2.2.2 = p1.2.1.2.2.2.2.2))
theorem LV (Y : Nat → Prop) (w0 : World) (v1 : Value) (v2 : Value) (p0 : Int × (Int × (Int × Int × Int × Int) × (Int × Int × Int × Int)) × (List (Int × Int × Int))) (p1 : Int × (Int × (Int × Int × Int × Int) × (Int × Int × Int × Int)) × (List (Int × Int × Int))) (r : Bool) (H : FU p0 p1 = r) (h_v1 : Sl w0 (NX []) Bl v1 p0.2.2) (h_v2 : Sl w0 (NX []) Bl v2 p1.2.2) :
    Calls Try.prog 24 #[.agg #[.int .i64 p0.1, .int .i64 p0.2.1.1, .int .i64 p0.2.1.2.1.1, .int .i64 p0.2.1.2.1.2.1, .int .i64 p0.2.1.2.1.2.2.1, .int .i64 p0.2.1.2.1.2.2.2, .int .i64 p0.2.1.2.2.1, .int .i64 p0.2.1.2.2.2.1, .int .i64 p0.2.1.2.2.2.2.1, .int .i64 p0.2.1.2.2.2.2.2, v1], .agg #[.int .i64 p1.1, .int .i64 p1.2.1.1, .int .i64 p1.2.1.2.1.1, .int .i64 p1.2.1.2.1.2.1, .int .i64 p1.2.1.2.1.2.2.1, .int .i64 p1.2.1.2.1.2.2.2, .int .i64 p1.2.1.2.2.1, .int .i64 p1.2.1.2.2.2.1, .int .i64 p1.2.1.2.2.2.2.1, .int .i64 p1.2.1.2.2.2.2.2, v2]] w0 fun e w' => e = .returned (.bool r) ∧ Below w0.heap.size w0 w' := by
 refine enter Try.func24 Aa Try.ntmps24 Aa fun a F => ?_
 have W := Stw.start Y w0
 unfold FU at H
 refine vc tk 2 F W fun a w F W => ?_
 refine B1 (cs := (Ed p0 v1)) F W Aa Aa Aa fun b1 a w F W => ?_
 refine B1 (cs := (Ed p1 v2)) F W Aa Aa Aa fun b2 a w F W => ?_
 refine BV tk 3 F W fun a w F W => ?_
 refine AC (fun a w => Fr 17 [] [(4, .bool (decide (p0.1 = p1.1) && decide (p0.2.1.1 = p1.2.1.1 ∧ p0.2.1.2.1.1 = p1.2.1.2.1.1 ∧ p0.2.1.2.1.2.1 = p1.2.1.2.1.2.1 ∧ p0.2.1.2.1.2.2.1 = p1.2.1.2.1.2.2.1 ∧ p0.2.1.2.1.2.2.2 = p1.2.1.2.1.2.2.2 ∧ p0.2.1.2.2.1 = p1.2.1.2.2.1 ∧ p0.2.1.2.2.2.1 = p1.2.1.2.2.2.1 ∧ p0.2.1.2.2.2.2.1 = p1.2.1.2.2.2.2.1 ∧ p0.2.1.2.2.2.2.2 = p1.2.1.2.2.2.2.2)))] a ∧ Stw ⟨Y, [], w0⟩ (NV b2 p1 v2 b1 p0 v1) [] w) ?_ ?_
 ·
  refine Gh tk 7 [1, 0] F W (ai (ai fun a w F W => ?_))
  rcases Bool.eq_false_or_eq_true (decide (p0.1 = p1.1)) with hb0 | hb0
  ·
   rw [hb0] at F
   refine GY tk 4 [1, 0] F W (ai (ai fun a w F W => ?_))
   refine EC F W (Ag F Aa Aa Aa Aa) Aa (Ax Aa) (Lg (t := decide (p0.2.1.1 = p1.2.1.1 ∧ p0.2.1.2.1.1 = p1.2.1.2.1.1 ∧ p0.2.1.2.1.2.1 = p1.2.1.2.1.2.1 ∧ p0.2.1.2.1.2.2.1 = p1.2.1.2.1.2.2.1 ∧ p0.2.1.2.1.2.2.2 = p1.2.1.2.1.2.2.2 ∧ p0.2.1.2.2.1 = p1.2.1.2.2.1 ∧ p0.2.1.2.2.2.1 = p1.2.1.2.2.2.1 ∧ p0.2.1.2.2.2.2.1 = p1.2.1.2.2.2.2.1 ∧ p0.2.1.2.2.2.2.2 = p1.2.1.2.2.2.2.2)) Qf (Ql _ _ _ _ _ _ _ _ _ _ _ _ _ _ _ _ _ _) F Aa Aa).q fun a w F W => ?_
   refine vl tk 3 F W fun a w F W => ?_
   refine Ad ?_
   exact ⟨F.re ⟨(F6 (by try rw [hb0]; all_goals simp only [F7])), trivial⟩, W⟩
  rw [hb0] at F
  refine vl tk 8 F W fun a w F W => ?_
  refine Ad ?_
  exact ⟨F.re ⟨(F6 (by try rw [hb0]; all_goals simp only [F7])), trivial⟩, W⟩
 rintro a w ⟨F, W⟩
 refine Al ?_
 subst H
 refine Aq (.inl Aa) F W Aa (Ak F Aa) ?_
 exact ⟨rfl, W.done⟩
theorem RK : Has Try.prog 24 := B3 Try.func24
noncomputable def D0 (p0 : List (Int × (Int × (Int × Int × Int × Int) × (Int × Int × Int × Int)) × (List (Int × Int × Int)))) (x1 : Int) : Int → Option (Int ⊕ (Unit ⊕ (Int ⊕ (Unit ⊕ Bool))))
  | x4 => (if x4 < x1 then ((ix p0 x4).bind fun x6 => (ix p0 x1).bind fun x7 => (if x6.1 < x7.1 then some true else (ix p0 x4).bind fun x8 => (ix p0 x1).bind fun x9 => some (FU x8 x9))).bind fun x5 => (if x5 = true then some (.inr (.inr (.inr (.inr false)))) else some (.inl (Cs (x4 + 1)))) else some (.inr (.inl ())))
noncomputable def DV (p0 : List (Int × (Int × (Int × Int × Int × Int) × (Int × Int × Int × Int)) × (List (Int × Int × Int)))) (p1 : Int) : Int → Option (Int ⊕ (Unit ⊕ Bool))
  | x1 => (if x1 < (p0.length : Int) then Fu ((ix p0 x1).bind fun x2 => (Dt x2 p1).bind fun x3 => (if (!x3) = true then some (.inr (.inr (.inr false))) else AJ (D0 p0 x1) 0)) fun _ => some (.inl (Cs (x1 + 1))) else some (.inr (.inl ())))
noncomputable def FK (p0 : List (Int × (Int × (Int × Int × Int × Int) × (Int × Int × Int × Int)) × (List (Int × Int × Int)))) (p1 : Int) (p2 : Int) : Option Bool := Fu (AJ (DV p0 p1) 0) fun _ => some (decide ((p0.length : Int) ≤ p2))
theorem JS (Y : Nat → Prop) (w0 : World) (v1 : Value) (p0 : List (Int × (Int × (Int × Int × Int × Int) × (Int × Int × Int × Int)) × (List (Int × Int × Int)))) (p1 : Int) (p2 : Int) (r : Bool) (H : FK p0 p1 p2 = some r) (h_v1 : Sl w0 (NX []) A5 v1 p0) :
    Calls Try.prog 5 #[v1, .int .i64 p1, .int .i64 p2] w0 fun e w' => e = .returned (.bool r) ∧ Below w0.heap.size w0 w' := by
 refine enter Try.func5 Aa Try.ntmps5 Aa fun a F => ?_
 have W := Stw.start Y w0
 obtain ⟨v2, h1, h_v1⟩ := h_v1.ex BH
 unfold FK at H
 refine vc tk 5 F W fun a w F W => ?_
 obtain ⟨o1, G1, K1, L1⟩ := IZ H
 refine AC (fun a w => some (Sum.inl ()) = some o1 ∧ Fr 53 [] [(0, v1), (2, .int .i64 p2), (6, .bool false)] a ∧ Stw ⟨Y, [], w0⟩ [] [] w) ?_ ?_
 ·
  have H := G1
  clear G1 K1
  refine vc tk 6 F W fun a w F W => ?_
  refine BI H (fun s a w => Fr 53 [] [(0, v1), (1, .int .i64 p1), (2, .int .i64 p2), (6, .bool false), (7, .int .i64 s)] a ∧ Stw ⟨Y, [], w0⟩ [] [] w) ⟨F.ra Aa, W⟩ fun s o a w H L2 hR => ?_
  obtain ⟨x1, rfl⟩ : ∃ x, x = s := ⟨s, rfl⟩
  obtain ⟨F, W⟩ := hR
  have F : Fr 53 [] [(0, v1), (1, .int .i64 p1), (2, .int .i64 p2), (6, .bool false), (7, .int .i64 x1)] a := F
  have W : Stw ⟨Y, [], w0⟩ [] [] w := W
  rw [DV] at H
  refine vc tk 5 F W fun a w F W => ?_
  refine ls F W Aa (BQ (r := A5) (l := p0) E2 Aa F Aa (A6 BH h1 (Aj h_v1))).q fun a w F W => ?_
  refine BV tk 3 F W fun a w F W => ?_
  refine Br F Aa H (fun F H => ?_) fun F H => ?_
  ·
   refine AH (Ad ?_)
   obtain ⟨o3, G3, K3, L3⟩ := IZ H
   refine AC (fun a w => some (Sum.inl ()) = some o3 ∧ Fr 53 [] [(0, v1), (1, .int .i64 p1), (2, .int .i64 p2), (6, .bool false), (7, .int .i64 x1)] a ∧ Stw ⟨Y, [], w0⟩ [] [] w) ?_ ?_
   ·
    have H := G3
    clear G3 K3
    refine vc tk 6 F W fun a w F W => ?_
    obtain ⟨x2, h2, H⟩ := Ah H
    obtain ⟨v3, h3, h4⟩ := Ck h1 h2
    have h5 : CK v3 = [.int .i64 x2.1, .int .i64 x2.2.1.1, .int .i64 x2.2.1.2.1.1, .int .i64 x2.2.1.2.1.2.1, .int .i64 x2.2.1.2.1.2.2.1, .int .i64 x2.2.1.2.1.2.2.2, .int .i64 x2.2.1.2.2.1, .int .i64 x2.2.1.2.2.2.1, .int .i64 x2.2.1.2.2.2.2.1, .int .i64 x2.2.1.2.2.2.2.2, (v3.2.2.1)] := congrArg (fun q : Int × (Int × (Int × Int × Int × Int) × (Int × Int × Int × Int)) × (List (Int × Int × Int)) => ([.int .i64 q.1, .int .i64 q.2.1.1, .int .i64 q.2.1.2.1.1, .int .i64 q.2.1.2.1.2.1, .int .i64 q.2.1.2.1.2.2.1, .int .i64 q.2.1.2.1.2.2.2, .int .i64 q.2.1.2.2.1, .int .i64 q.2.1.2.2.2.1, .int .i64 q.2.1.2.2.2.2.1, .int .i64 q.2.1.2.2.2.2.2, (v3.2.2.1)] : List Value)) h4
    refine ls F W Aa (A8 (r := DU) FQ F Aa Aa (Aj h_v1) h3).q fun a w F W => ?_
    refine ls F W Aa (AE (y := Value.agg #[.int .i64 x2.1, .int .i64 x2.2.1.1, .int .i64 x2.2.1.2.1.1, .int .i64 x2.2.1.2.1.2.1, .int .i64 x2.2.1.2.1.2.2.1, .int .i64 x2.2.1.2.1.2.2.2, .int .i64 x2.2.1.2.2.1, .int .i64 x2.2.1.2.2.2.1, .int .i64 x2.2.1.2.2.2.2.1, .int .i64 x2.2.1.2.2.2.2.2, (v3.2.2.1)]) (j := 0) (i := x1) (enc := CK) F Aa Aa (Aj h_v1) h3 Fo Fk (by rw [h5]; rfl)).q fun a w F W => ?_
    refine ls F W Aa (Am F Aa).q fun a w F W => ?_
    obtain ⟨x3, h6, H⟩ := Ah H
    refine ls F W Aa (AU (v := Value.bool x3) F RA Aa (fun w W => Ke any w ((v3.2.2.1)) x2 p1 _ h6 (CY (Dr (Aj h_v1) h3 (Ay.snd (Ay.snd Ay.here)) (congrArg (fun q : Int × (Int × (Int × Int × Int × Int) × (Int × Int × Int × Int)) × (List (Int × Int × Int)) => q.2.2) h4)) W))) fun a w F W => ?_
    refine BV tk 3 F W fun a w F W => ?_
    refine B8 F Aa H (fun F H => ?_) fun F H => ?_
    ·
     refine vc tk 5 F W fun a w F W => ?_
     refine Al (Ap (Az ?_))
     iterate 2 refine Ap ?_
     refine Az (Ap ?_)
     have H := L3 _ H
     have H := L2 _ H
     have H := L1 _ H
     have H := Aw H
     subst H
     refine Aq (.inl Aa) F W Aa (Ak F Aa) ?_
     exact ⟨rfl, W.done⟩
    refine E8 tk 8 F W fun a w F W => ?_
    refine BI H (fun s a w => Fr 53 [] [(0, v1), (1, .int .i64 p1), (2, .int .i64 p2), (6, .bool false), (7, .int .i64 x1), (8, .int .i64 s)] a ∧ Stw ⟨Y, [], w0⟩ [] [] w) ⟨F.ra Aa, W⟩ fun s o a w H L4 hR => ?_
    obtain ⟨x4, rfl⟩ : ∃ x, x = s := ⟨s, rfl⟩
    obtain ⟨F, W⟩ := hR
    have F : Fr 53 [] [(0, v1), (1, .int .i64 p1), (2, .int .i64 p2), (6, .bool false), (7, .int .i64 x1), (8, .int .i64 x4)] a := F
    have W : Stw ⟨Y, [], w0⟩ [] [] w := W
    rw [D0] at H
    refine vc tk 8 F W fun a w F W => ?_
    refine Br F Aa H (fun F H => ?_) fun F H => ?_
    ·
     refine E8 tk 4 F W fun a w F W => ?_
     obtain ⟨o5, G5, K5⟩ := Ah H
     refine AC (fun a w => ∃ x5 : Bool, some (x5) = some o5 ∧ Fr 53 [] [(0, v1), (1, .int .i64 p1), (2, .int .i64 p2), (6, .bool false), (7, .int .i64 x1), (8, .int .i64 x4), (48, .bool x5)] a ∧ Stw ⟨Y, [], w0⟩ [] [] w) ?_ ?_
     ·
      have H := G5
      clear G5 K5
      refine CV W MO (by kernel_rfl) ?_
      iterate 2 refine qs F Aa (Am F Aa).q fun a F => ?_
      obtain ⟨x6, h7, H⟩ := Ah H
      obtain ⟨v4, h8, h9⟩ := Ck h1 h7
      have h10 : CK v4 = [.int .i64 x6.1, .int .i64 x6.2.1.1, .int .i64 x6.2.1.2.1.1, .int .i64 x6.2.1.2.1.2.1, .int .i64 x6.2.1.2.1.2.2.1, .int .i64 x6.2.1.2.1.2.2.2, .int .i64 x6.2.1.2.2.1, .int .i64 x6.2.1.2.2.2.1, .int .i64 x6.2.1.2.2.2.2.1, .int .i64 x6.2.1.2.2.2.2.2, (v4.2.2.1)] := congrArg (fun q : Int × (Int × (Int × Int × Int × Int) × (Int × Int × Int × Int)) × (List (Int × Int × Int)) => ([.int .i64 q.1, .int .i64 q.2.1.1, .int .i64 q.2.1.2.1.1, .int .i64 q.2.1.2.1.2.1, .int .i64 q.2.1.2.1.2.2.1, .int .i64 q.2.1.2.1.2.2.2, .int .i64 q.2.1.2.2.1, .int .i64 q.2.1.2.2.2.1, .int .i64 q.2.1.2.2.2.2.1, .int .i64 q.2.1.2.2.2.2.2, (v4.2.2.1)] : List Value)) h9
      refine qs F Aa (A8 (r := DU) FQ F Aa Aa (Aj h_v1) h8).q fun a F => ?_
      refine qs F Aa (An J4 Aa Aa Aa T3 F Aa (F5 v1 + (x4).toNat * 11) Aa).q fun a F => ?_
      refine qs F Aa (AE (y := Value.int .i64 x6.1) (j := 0) (i := x4) (enc := CK) F Aa Aa (Aj h_v1) h8 Fo T3 (by rw [h10]; rfl)).q fun a F => ?_
      iterate 2 refine qs F Aa (Am F Aa).q fun a F => ?_
      obtain ⟨x7, h11, H⟩ := Ah H
      obtain ⟨v5, h12, h13⟩ := Ck h1 h11
      have h14 : CK v5 = [.int .i64 x7.1, .int .i64 x7.2.1.1, .int .i64 x7.2.1.2.1.1, .int .i64 x7.2.1.2.1.2.1, .int .i64 x7.2.1.2.1.2.2.1, .int .i64 x7.2.1.2.1.2.2.2, .int .i64 x7.2.1.2.2.1, .int .i64 x7.2.1.2.2.2.1, .int .i64 x7.2.1.2.2.2.2.1, .int .i64 x7.2.1.2.2.2.2.2, (v5.2.2.1)] := congrArg (fun q : Int × (Int × (Int × Int × Int × Int) × (Int × Int × Int × Int)) × (List (Int × Int × Int)) => ([.int .i64 q.1, .int .i64 q.2.1.1, .int .i64 q.2.1.2.1.1, .int .i64 q.2.1.2.1.2.1, .int .i64 q.2.1.2.1.2.2.1, .int .i64 q.2.1.2.1.2.2.2, .int .i64 q.2.1.2.2.1, .int .i64 q.2.1.2.2.2.1, .int .i64 q.2.1.2.2.2.2.1, .int .i64 q.2.1.2.2.2.2.2, (v5.2.2.1)] : List Value)) h13
      refine qs F Aa (A8 (r := DU) FQ F Aa Aa (Aj h_v1) h12).q fun a F => ?_
      refine qs F Aa (An J4 Aa Aa Aa T3 F Aa (F5 v1 + (x1).toNat * 11) Aa).q fun a F => ?_
      refine qs F Aa (AE (y := Value.int .i64 x7.1) (j := 0) (i := x1) (enc := CK) F Aa Aa (Aj h_v1) h12 Fo T3 (by rw [h14]; rfl)).q fun a F => ?_
      refine qs F Aa (Jd F Aa Aa).q fun a F => ?_
      refine qs F Aa (Am F Aa).q fun a F => ?_
      rcases Bool.eq_false_or_eq_true (decide (x6.1 < x7.1)) with hb | hb
      ·
       have H := BW (Ci hb) H
       rw [hb] at F
       clear hb
       iterate 9 refine AL F (AA F Aa Aa Aa Aa Aa) Aa Aa fun a F => ?_
       refine qs F Aa (B0 F Aa Aa Aa).q fun a F => ?_
       refine AM fun w W => ?_
       refine Ad ?_
       exact ⟨_, H, F.ra Aa, W⟩
      have H := BX (Ch hb) H
      rw [hb] at F
      clear hb
      iterate 2 refine Bp F (Ag F Aa Aa Aa Aa) Aa (Ax Aa) (Am F Aa).q fun a F => ?_
      obtain ⟨x8, h15, H⟩ := Ah H
      obtain ⟨v6, h16, h17⟩ := Ck h1 h15
      have h18 : CK v6 = [.int .i64 x8.1, .int .i64 x8.2.1.1, .int .i64 x8.2.1.2.1.1, .int .i64 x8.2.1.2.1.2.1, .int .i64 x8.2.1.2.1.2.2.1, .int .i64 x8.2.1.2.1.2.2.2, .int .i64 x8.2.1.2.2.1, .int .i64 x8.2.1.2.2.2.1, .int .i64 x8.2.1.2.2.2.2.1, .int .i64 x8.2.1.2.2.2.2.2, (v6.2.2.1)] := congrArg (fun q : Int × (Int × (Int × Int × Int × Int) × (Int × Int × Int × Int)) × (List (Int × Int × Int)) => ([.int .i64 q.1, .int .i64 q.2.1.1, .int .i64 q.2.1.2.1.1, .int .i64 q.2.1.2.1.2.1, .int .i64 q.2.1.2.1.2.2.1, .int .i64 q.2.1.2.1.2.2.2, .int .i64 q.2.1.2.2.1, .int .i64 q.2.1.2.2.2.1, .int .i64 q.2.1.2.2.2.2.1, .int .i64 q.2.1.2.2.2.2.2, (v6.2.2.1)] : List Value)) h17
      refine Bp F (Ag F Aa Aa Aa Aa) Aa (Ax Aa) (A8 (r := DU) FQ F Aa Aa (Aj h_v1) h16).q fun a F => ?_
      refine Bp F (Ag F Aa Aa Aa Aa) Aa (Ax Aa) (AE (y := Value.agg #[.int .i64 x8.1, .int .i64 x8.2.1.1, .int .i64 x8.2.1.2.1.1, .int .i64 x8.2.1.2.1.2.1, .int .i64 x8.2.1.2.1.2.2.1, .int .i64 x8.2.1.2.1.2.2.2, .int .i64 x8.2.1.2.2.1, .int .i64 x8.2.1.2.2.2.1, .int .i64 x8.2.1.2.2.2.2.1, .int .i64 x8.2.1.2.2.2.2.2, (v6.2.2.1)]) (j := 0) (i := x4) (enc := CK) F Aa Aa (Aj h_v1) h16 Fo Fk (by rw [h18]; rfl)).q fun a F => ?_
      iterate 2 refine Bp F (Ag F Aa Aa Aa Aa) Aa (Ax Aa) (Am F Aa).q fun a F => ?_
      obtain ⟨x9, h19, H⟩ := Ah H
      obtain ⟨v7, h20, h21⟩ := Ck h1 h19
      have h22 : CK v7 = [.int .i64 x9.1, .int .i64 x9.2.1.1, .int .i64 x9.2.1.2.1.1, .int .i64 x9.2.1.2.1.2.1, .int .i64 x9.2.1.2.1.2.2.1, .int .i64 x9.2.1.2.1.2.2.2, .int .i64 x9.2.1.2.2.1, .int .i64 x9.2.1.2.2.2.1, .int .i64 x9.2.1.2.2.2.2.1, .int .i64 x9.2.1.2.2.2.2.2, (v7.2.2.1)] := congrArg (fun q : Int × (Int × (Int × Int × Int × Int) × (Int × Int × Int × Int)) × (List (Int × Int × Int)) => ([.int .i64 q.1, .int .i64 q.2.1.1, .int .i64 q.2.1.2.1.1, .int .i64 q.2.1.2.1.2.1, .int .i64 q.2.1.2.1.2.2.1, .int .i64 q.2.1.2.1.2.2.2, .int .i64 q.2.1.2.2.1, .int .i64 q.2.1.2.2.2.1, .int .i64 q.2.1.2.2.2.2.1, .int .i64 q.2.1.2.2.2.2.2, (v7.2.2.1)] : List Value)) h21
      refine Bp F (Ag F Aa Aa Aa Aa) Aa (Ax Aa) (A8 (r := DU) FQ F Aa Aa (Aj h_v1) h20).q fun a F => ?_
      refine Bp F (Ag F Aa Aa Aa Aa) Aa (Ax Aa) (AE (y := Value.agg #[.int .i64 x9.1, .int .i64 x9.2.1.1, .int .i64 x9.2.1.2.1.1, .int .i64 x9.2.1.2.1.2.1, .int .i64 x9.2.1.2.1.2.2.1, .int .i64 x9.2.1.2.1.2.2.2, .int .i64 x9.2.1.2.2.1, .int .i64 x9.2.1.2.2.2.1, .int .i64 x9.2.1.2.2.2.2.1, .int .i64 x9.2.1.2.2.2.2.2, (v7.2.2.1)]) (j := 0) (i := x1) (enc := CK) F Aa Aa (Aj h_v1) h20 Fo Fk (by rw [h22]; rfl)).q fun a F => ?_
      refine Bp F (Ag F Aa Aa Aa Aa) Aa (Ax Aa) (AU (v := Value.bool (FU x8 x9)) F RK Aa (fun w W => LV any w ((v6.2.2.1)) ((v7.2.2.1)) x8 x9 _ Aa (CY (Dr (Aj h_v1) h16 (Ay.snd (Ay.snd Ay.here)) (congrArg (fun q : Int × (Int × (Int × Int × Int × Int) × (Int × Int × Int × Int)) × (List (Int × Int × Int)) => q.2.2) h17)) W) (CY (Dr (Aj h_v1) h20 (Ay.snd (Ay.snd Ay.here)) (congrArg (fun q : Int × (Int × (Int × Int × Int × Int) × (Int × Int × Int × Int)) × (List (Int × Int × Int)) => q.2.2) h21)) W))) fun a F => ?_
      refine qs F Aa (AQ F Aa Aa Aa).q fun a F => ?_
      refine AM fun w W => ?_
      refine Ad ?_
      exact ⟨_, H, F.ra Aa, W⟩
     rintro a w ⟨x5, hj, F, W⟩
     have hj := Aw hj
     subst hj
     have H := K5
     clear G5 K5
     refine B8 F Aa H (fun F H => ?_) fun F H => ?_
     ·
      refine vc tk 5 F W fun a w F W => ?_
      refine Al (Az ?_)
      iterate 2 refine Ap ?_
      iterate 2 refine Az ?_
      iterate 2 refine Ap ?_
      refine Az (Ap ?_)
      have H := L4 _ H
      have H := L3 _ H
      have H := L2 _ H
      have H := L1 _ H
      have H := Aw H
      subst H
      refine Aq (.inl Aa) F W Aa (Ak F Aa) ?_
      exact ⟨rfl, W.done⟩
     refine AH (AV ?_)
     refine vn tk 5 F W fun a w F W => ?_
     refine Ad ?_
     exact ⟨_, H, F.ra Aa, W⟩
    refine Bz ?_
    iterate 2 refine B7 ?_
    refine BC (AV (Ad ?_))
    have H := L4 _ H
    exact ⟨H, F.ra Aa, W⟩
   rintro a w ⟨hj, F, W⟩
   have H := K3 _ hj
   clear hj G3 K3 L3
   refine vc tk 5 F W fun a w F W => ?_
   refine Ad ?_
   exact ⟨_, H, F.ra Aa, W⟩
  refine Bz ?_
  iterate 2 refine B7 ?_
  refine BC (Ad ?_)
  have H := L2 _ H
  exact ⟨H, F.ra Aa, W⟩
 rintro a w ⟨hj, F, W⟩
 have H := K1 _ hj
 clear hj G1 K1 L1
 refine vc tk 3 F W fun a w F W => ?_
 refine ls F W Aa (BQ (r := A5) (l := p0) E2 Aa F Aa (A6 BH h1 (Aj h_v1))).q fun a w F W => ?_
 refine BV tk 5 F W fun a w F W => ?_
 refine Al ?_
 have H := Aw H
 subst H
 refine Aq (.inl Aa) F W Aa (Ak F Aa) ?_
 exact ⟨rfl, W.done⟩
theorem Kt : type_of% Try.underlying71 := Try.underlying71
theorem H5 : Has Try.prog 5 := B3 Try.func5
theorem Ra : Bt Try.prog 71 [.int .i64 0, .bool false, .int .i64 0, .int .i64 0, .int .i64 0, .int .i64 0, .int .i64 0, .int .i64 0, .int .i64 0, .int .i64 0, .int .i64 0, .int .i64 0, .int .i64 0, .slice none 0 0, .bool false, .bool false, .int .i64 0, .int .i64 0, .int .i64 0, .int .i64 0, .int .i64 0, .int .i64 0, .int .i64 0, .int .i64 0, .int .i64 0, .int .i64 0, .int .i64 0, .slice none 0 0, .bool false, .bool false, .int .i64 0, .int .i64 0, .int .i64 0, .int .i64 0, .int .i64 0, .int .i64 0, .int .i64 0, .int .i64 0, .int .i64 0, .int .i64 0, .int .i64 0, .slice none 0 0, .bool false, .bool false, .int .i64 0, .int .i64 0, .int .i64 0, .int .i64 0, .int .i64 0, .int .i64 0, .int .i64 0, .int .i64 0, .int .i64 0, .int .i64 0, .int .i64 0, .slice none 0 0, .bool false, .bool false, .int .i64 0, .int .i64 0, .int .i64 0, .int .i64 0, .int .i64 0, .int .i64 0, .int .i64 0, .int .i64 0, .int .i64 0, .int .i64 0, .int .i64 0, .slice none 0 0, .bool false, .bool false, .int .i64 0, .int .i64 0, .int .i64 0, .int .i64 0, .int .i64 0, .int .i64 0, .int .i64 0, .int .i64 0, .int .i64 0, .int .i64 0, .int .i64 0, .slice none 0 0, .bool false, .bool false, .int .i64 0, .int .i64 0, .int .i64 0, .int .i64 0, .int .i64 0, .int .i64 0, .int .i64 0, .int .i64 0, .int .i64 0, .int .i64 0, .int .i64 0, .slice none 0 0, .bool false, .bool false, .int .i64 0, .int .i64 0, .int .i64 0, .int .i64 0, .int .i64 0, .int .i64 0, .int .i64 0, .int .i64 0, .int .i64 0, .int .i64 0, .int .i64 0, .slice none 0 0, .bool false, .bool false, .int .i64 0, .int .i64 0, .int .i64 0, .int .i64 0, .int .i64 0, .int .i64 0, .int .i64 0, .int .i64 0, .int .i64 0, .int .i64 0, .int .i64 0, .slice none 0 0, .bool false, .bool false, .int .i64 0, .int .i64 0, .int .i64 0, .int .i64 0, .int .i64 0, .int .i64 0, .int .i64 0, .int .i64 0, .int .i64 0, .int .i64 0, .int .i64 0, .slice none 0 0, .bool false, .bool false, .int .i64 0, .int .i64 0, .int .i64 0, .int .i64 0, .int .i64 0, .int .i64 0, .int .i64 0, .int .i64 0, .int .i64 0, .int .i64 0, .int .i64 0, .slice none 0 0, .bool false, .bool false, .int .i64 0, .int .i64 0, .int .i64 0, .int .i64 0, .int .i64 0, .int .i64 0, .int .i64 0, .int .i64 0, .int .i64 0, .int .i64 0, .int .i64 0, .slice none 0 0, .bool false, .bool false, .int .i64 0, .int .i64 0, .int .i64 0, .int .i64 0, .int .i64 0, .int .i64 0, .int .i64 0, .int .i64 0, .int .i64 0, .int .i64 0, .int .i64 0, .slice none 0 0, .bool false, .bool false, .int .i64 0, .int .i64 0, .int .i64 0, .int .i64 0, .int .i64 0, .int .i64 0, .int .i64 0, .int .i64 0, .int .i64 0, .int .i64 0, .int .i64 0, .slice none 0 0, .bool false, .bool false, .int .i64 0, .int .i64 0, .int .i64 0, .int .i64 0, .int .i64 0, .int .i64 0, .int .i64 0, .int .i64 0, .int .i64 0, .int .i64 0, .int .i64 0, .slice none 0 0, .bool false, .bool false, .int .i64 0, .int .i64 0, .int .i64 0, .int .i64 0, .int .i64 0, .int .i64 0, .int .i64 0, .int .i64 0, .int .i64 0, .int .i64 0, .int .i64 0, .slice none 0 0, .bool false] [(0, 1), (1, 224)] := ⟨⟨.agg #[.int .i64 0, .bool false, .int .i64 0, .int .i64 0, .int .i64 0, .int .i64 0, .int .i64 0, .int .i64 0, .int .i64 0, .int .i64 0, .int .i64 0, .int .i64 0, .int .i64 0, .slice none 0 0, .bool false, .bool false, .int .i64 0, .int .i64 0, .int .i64 0, .int .i64 0, .int .i64 0, .int .i64 0, .int .i64 0, .int .i64 0, .int .i64 0, .int .i64 0, .int .i64 0, .slice none 0 0, .bool false, .bool false, .int .i64 0, .int .i64 0, .int .i64 0, .int .i64 0, .int .i64 0, .int .i64 0, .int .i64 0, .int .i64 0, .int .i64 0, .int .i64 0, .int .i64 0, .slice none 0 0, .bool false, .bool false, .int .i64 0, .int .i64 0, .int .i64 0, .int .i64 0, .int .i64 0, .int .i64 0, .int .i64 0, .int .i64 0, .int .i64 0, .int .i64 0, .int .i64 0, .slice none 0 0, .bool false, .bool false, .int .i64 0, .int .i64 0, .int .i64 0, .int .i64 0, .int .i64 0, .int .i64 0, .int .i64 0, .int .i64 0, .int .i64 0, .int .i64 0, .int .i64 0, .slice none 0 0, .bool false, .bool false, .int .i64 0, .int .i64 0, .int .i64 0, .int .i64 0, .int .i64 0, .int .i64 0, .int .i64 0, .int .i64 0, .int .i64 0, .int .i64 0, .int .i64 0, .slice none 0 0, .bool false, .bool false, .int .i64 0, .int .i64 0, .int .i64 0, .int .i64 0, .int .i64 0, .int .i64 0, .int .i64 0, .int .i64 0, .int .i64 0, .int .i64 0, .int .i64 0, .slice none 0 0, .bool false, .bool false, .int .i64 0, .int .i64 0, .int .i64 0, .int .i64 0, .int .i64 0, .int .i64 0, .int .i64 0, .int .i64 0, .int .i64 0, .int .i64 0, .int .i64 0, .slice none 0 0, .bool false, .bool false, .int .i64 0, .int .i64 0, .int .i64 0, .int .i64 0, .int .i64 0, .int .i64 0, .int .i64 0, .int .i64 0, .int .i64 0, .int .i64 0, .int .i64 0, .slice none 0 0, .bool false, .bool false, .int .i64 0, .int .i64 0, .int .i64 0, .int .i64 0, .int .i64 0, .int .i64 0, .int .i64 0, .int .i64 0, .int .i64 0, .int .i64 0, .int .i64 0, .slice none 0 0, .bool false, .bool false, .int .i64 0, .int .i64 0, .int .i64 0, .int .i64 0, .int .i64 0, .int .i64 0, .int .i64 0, .int .i64 0, .int .i64 0, .int .i64 0, .int .i64 0, .slice none 0 0, .bool false, .bool false, .int .i64 0, .int .i64 0, .int .i64 0, .int .i64 0, .int .i64 0, .int .i64 0, .int .i64 0, .int .i64 0, .int .i64 0, .int .i64 0, .int .i64 0, .slice none 0 0, .bool false, .bool false, .int .i64 0, .int .i64 0, .int .i64 0, .int .i64 0, .int .i64 0, .int .i64 0, .int .i64 0, .int .i64 0, .int .i64 0, .int .i64 0, .int .i64 0, .slice none 0 0, .bool false, .bool false, .int .i64 0, .int .i64 0, .int .i64 0, .int .i64 0, .int .i64 0, .int .i64 0, .int .i64 0, .int .i64 0, .int .i64 0, .int .i64 0, .int .i64 0, .slice none 0 0, .bool false, .bool false, .int .i64 0, .int .i64 0, .int .i64 0, .int .i64 0, .int .i64 0, .int .i64 0, .int .i64 0, .int .i64 0, .int .i64 0, .int .i64 0, .int .i64 0, .slice none 0 0, .bool false, .bool false, .int .i64 0, .int .i64 0, .int .i64 0, .int .i64 0, .int .i64 0, .int .i64 0, .int .i64 0, .int .i64 0, .int .i64 0, .int .i64 0, .int .i64 0, .slice none 0 0, .bool false], by kernel_rfl, rfl⟩, ⟨_, Kt, fun w => by kernel_rfl⟩⟩
abbrev Bn : Rp (Bool × (Int × (Int × (Int × (Int × Int × Int × Int) × (Int × Int × Int × Int)) × (List (Int × Int × Int))) × Bool)) := (Rp.pair Rp.bool F2)
theorem Q2 (w : World) (A : Nat → Prop) : Bn.rep w A [.bool false, .int .i64 0, .int .i64 0, .int .i64 0, .int .i64 0, .int .i64 0, .int .i64 0, .int .i64 0, .int .i64 0, .int .i64 0, .int .i64 0, .int .i64 0, .slice none 0 0, .bool false] ((false, (0, (0, (0, (0, 0, 0, 0), (0, 0, 0, 0)), []), false)) : Bool × (Int × (Int × (Int × (Int × Int × Int × Int) × (Int × Int × Int × Int)) × (List (Int × Int × Int))) × Bool)) := ⟨[Value.bool false], [Value.int .i64 0, Value.int .i64 0, Value.int .i64 0, Value.int .i64 0, Value.int .i64 0, Value.int .i64 0, Value.int .i64 0, Value.int .i64 0, Value.int .i64 0, Value.int .i64 0, Value.int .i64 0, Value.slice none 0 0, Value.bool false], rfl, rfl, ⟨[Value.int .i64 0], [Value.int .i64 0, Value.int .i64 0, Value.int .i64 0, Value.int .i64 0, Value.int .i64 0, Value.int .i64 0, Value.int .i64 0, Value.int .i64 0, Value.int .i64 0, Value.int .i64 0, Value.slice none 0 0, Value.bool false], rfl, rfl, ⟨[Value.int .i64 0, Value.int .i64 0, Value.int .i64 0, Value.int .i64 0, Value.int .i64 0, Value.int .i64 0, Value.int .i64 0, Value.int .i64 0, Value.int .i64 0, Value.int .i64 0, Value.slice none 0 0], [Value.bool false], rfl, ⟨[Value.int .i64 0], [Value.int .i64 0, Value.int .i64 0, Value.int .i64 0, Value.int .i64 0, Value.int .i64 0, Value.int .i64 0, Value.int .i64 0, Value.int .i64 0, Value.int .i64 0, Value.slice none 0 0], rfl, rfl, ⟨[Value.int .i64 0, Value.int .i64 0, Value.int .i64 0, Value.int .i64 0, Value.int .i64 0, Value.int .i64 0, Value.int .i64 0, Value.int .i64 0, Value.int .i64 0], [Value.slice none 0 0], rfl, ⟨[Value.int .i64 0], [Value.int .i64 0, Value.int .i64 0, Value.int .i64 0, Value.int .i64 0, Value.int .i64 0, Value.int .i64 0, Value.int .i64 0, Value.int .i64 0], rfl, rfl, ⟨[Value.int .i64 0, Value.int .i64 0, Value.int .i64 0, Value.int .i64 0], [Value.int .i64 0, Value.int .i64 0, Value.int .i64 0, Value.int .i64 0], rfl, ⟨[Value.int .i64 0], [Value.int .i64 0, Value.int .i64 0, Value.int .i64 0], rfl, rfl, ⟨[Value.int .i64 0], [Value.int .i64 0, Value.int .i64 0], rfl, rfl, ⟨[Value.int .i64 0], [Value.int .i64 0], rfl, rfl, rfl⟩⟩⟩, ⟨[Value.int .i64 0], [Value.int .i64 0, Value.int .i64 0, Value.int .i64 0], rfl, rfl, ⟨[Value.int .i64 0], [Value.int .i64 0, Value.int .i64 0], rfl, rfl, ⟨[Value.int .i64 0], [Value.int .i64 0], rfl, rfl, rfl⟩⟩⟩⟩⟩, ⟨_, rfl, Sl.nil⟩⟩⟩, rfl⟩⟩⟩
theorem PX : ∀ (n : Nat) (w : World) (A : Nat → Prop), Bh Bn w A (FS (fun _ => [.bool false, .int .i64 0, .int .i64 0, .int .i64 0, .int .i64 0, .int .i64 0, .int .i64 0, .int .i64 0, .int .i64 0, .int .i64 0, .int .i64 0, .int .i64 0, .slice none 0 0, .bool false]) (List.replicate n ())) (List.replicate n ((false, (0, (0, (0, (0, 0, 0, 0), (0, 0, 0, 0)), []), false)) : Bool × (Int × (Int × (Int × (Int × Int × Int × Int) × (Int × Int × Int × Int)) × (List (Int × Int × Int))) × Bool)))
  | 0, _, _ => rfl
  | n + 1, w, A => ⟨_, _, rfl, Q2 w A, PX n w A⟩
theorem QT : FS (fun _ => ([.bool false, .int .i64 0, .int .i64 0, .int .i64 0, .int .i64 0, .int .i64 0, .int .i64 0, .int .i64 0, .int .i64 0, .int .i64 0, .int .i64 0, .int .i64 0, .slice none 0 0, .bool false] : List Value)) (List.replicate 16 ()) = [.bool false, .int .i64 0, .int .i64 0, .int .i64 0, .int .i64 0, .int .i64 0, .int .i64 0, .int .i64 0, .int .i64 0, .int .i64 0, .int .i64 0, .int .i64 0, .slice none 0 0, .bool false, .bool false, .int .i64 0, .int .i64 0, .int .i64 0, .int .i64 0, .int .i64 0, .int .i64 0, .int .i64 0, .int .i64 0, .int .i64 0, .int .i64 0, .int .i64 0, .slice none 0 0, .bool false, .bool false, .int .i64 0, .int .i64 0, .int .i64 0, .int .i64 0, .int .i64 0, .int .i64 0, .int .i64 0, .int .i64 0, .int .i64 0, .int .i64 0, .int .i64 0, .slice none 0 0, .bool false, .bool false, .int .i64 0, .int .i64 0, .int .i64 0, .int .i64 0, .int .i64 0, .int .i64 0, .int .i64 0, .int .i64 0, .int .i64 0, .int .i64 0, .int .i64 0, .slice none 0 0, .bool false, .bool false, .int .i64 0, .int .i64 0, .int .i64 0, .int .i64 0, .int .i64 0, .int .i64 0, .int .i64 0, .int .i64 0, .int .i64 0, .int .i64 0, .int .i64 0, .slice none 0 0, .bool false, .bool false, .int .i64 0, .int .i64 0, .int .i64 0, .int .i64 0, .int .i64 0, .int .i64 0, .int .i64 0, .int .i64 0, .int .i64 0, .int .i64 0, .int .i64 0, .slice none 0 0, .bool false, .bool false, .int .i64 0, .int .i64 0, .int .i64 0, .int .i64 0, .int .i64 0, .int .i64 0, .int .i64 0, .int .i64 0, .int .i64 0, .int .i64 0, .int .i64 0, .slice none 0 0, .bool false, .bool false, .int .i64 0, .int .i64 0, .int .i64 0, .int .i64 0, .int .i64 0, .int .i64 0, .int .i64 0, .int .i64 0, .int .i64 0, .int .i64 0, .int .i64 0, .slice none 0 0, .bool false, .bool false, .int .i64 0, .int .i64 0, .int .i64 0, .int .i64 0, .int .i64 0, .int .i64 0, .int .i64 0, .int .i64 0, .int .i64 0, .int .i64 0, .int .i64 0, .slice none 0 0, .bool false, .bool false, .int .i64 0, .int .i64 0, .int .i64 0, .int .i64 0, .int .i64 0, .int .i64 0, .int .i64 0, .int .i64 0, .int .i64 0, .int .i64 0, .int .i64 0, .slice none 0 0, .bool false, .bool false, .int .i64 0, .int .i64 0, .int .i64 0, .int .i64 0, .int .i64 0, .int .i64 0, .int .i64 0, .int .i64 0, .int .i64 0, .int .i64 0, .int .i64 0, .slice none 0 0, .bool false, .bool false, .int .i64 0, .int .i64 0, .int .i64 0, .int .i64 0, .int .i64 0, .int .i64 0, .int .i64 0, .int .i64 0, .int .i64 0, .int .i64 0, .int .i64 0, .slice none 0 0, .bool false, .bool false, .int .i64 0, .int .i64 0, .int .i64 0, .int .i64 0, .int .i64 0, .int .i64 0, .int .i64 0, .int .i64 0, .int .i64 0, .int .i64 0, .int .i64 0, .slice none 0 0, .bool false, .bool false, .int .i64 0, .int .i64 0, .int .i64 0, .int .i64 0, .int .i64 0, .int .i64 0, .int .i64 0, .int .i64 0, .int .i64 0, .int .i64 0, .int .i64 0, .slice none 0 0, .bool false, .bool false, .int .i64 0, .int .i64 0, .int .i64 0, .int .i64 0, .int .i64 0, .int .i64 0, .int .i64 0, .int .i64 0, .int .i64 0, .int .i64 0, .int .i64 0, .slice none 0 0, .bool false, .bool false, .int .i64 0, .int .i64 0, .int .i64 0, .int .i64 0, .int .i64 0, .int .i64 0, .int .i64 0, .int .i64 0, .int .i64 0, .int .i64 0, .int .i64 0, .slice none 0 0, .bool false] := by kernel_rfl
theorem PY (w : World) (A : Nat → Prop) : Bh Bn w A [.bool false, .int .i64 0, .int .i64 0, .int .i64 0, .int .i64 0, .int .i64 0, .int .i64 0, .int .i64 0, .int .i64 0, .int .i64 0, .int .i64 0, .int .i64 0, .slice none 0 0, .bool false, .bool false, .int .i64 0, .int .i64 0, .int .i64 0, .int .i64 0, .int .i64 0, .int .i64 0, .int .i64 0, .int .i64 0, .int .i64 0, .int .i64 0, .int .i64 0, .slice none 0 0, .bool false, .bool false, .int .i64 0, .int .i64 0, .int .i64 0, .int .i64 0, .int .i64 0, .int .i64 0, .int .i64 0, .int .i64 0, .int .i64 0, .int .i64 0, .int .i64 0, .slice none 0 0, .bool false, .bool false, .int .i64 0, .int .i64 0, .int .i64 0, .int .i64 0, .int .i64 0, .int .i64 0, .int .i64 0, .int .i64 0, .int .i64 0, .int .i64 0, .int .i64 0, .slice none 0 0, .bool false, .bool false, .int .i64 0, .int .i64 0, .int .i64 0, .int .i64 0, .int .i64 0, .int .i64 0, .int .i64 0, .int .i64 0, .int .i64 0, .int .i64 0, .int .i64 0, .slice none 0 0, .bool false, .bool false, .int .i64 0, .int .i64 0, .int .i64 0, .int .i64 0, .int .i64 0, .int .i64 0, .int .i64 0, .int .i64 0, .int .i64 0, .int .i64 0, .int .i64 0, .slice none 0 0, .bool false, .bool false, .int .i64 0, .int .i64 0, .int .i64 0, .int .i64 0, .int .i64 0, .int .i64 0, .int .i64 0, .int .i64 0, .int .i64 0, .int .i64 0, .int .i64 0, .slice none 0 0, .bool false, .bool false, .int .i64 0, .int .i64 0, .int .i64 0, .int .i64 0, .int .i64 0, .int .i64 0, .int .i64 0, .int .i64 0, .int .i64 0, .int .i64 0, .int .i64 0, .slice none 0 0, .bool false, .bool false, .int .i64 0, .int .i64 0, .int .i64 0, .int .i64 0, .int .i64 0, .int .i64 0, .int .i64 0, .int .i64 0, .int .i64 0, .int .i64 0, .int .i64 0, .slice none 0 0, .bool false, .bool false, .int .i64 0, .int .i64 0, .int .i64 0, .int .i64 0, .int .i64 0, .int .i64 0, .int .i64 0, .int .i64 0, .int .i64 0, .int .i64 0, .int .i64 0, .slice none 0 0, .bool false, .bool false, .int .i64 0, .int .i64 0, .int .i64 0, .int .i64 0, .int .i64 0, .int .i64 0, .int .i64 0, .int .i64 0, .int .i64 0, .int .i64 0, .int .i64 0, .slice none 0 0, .bool false, .bool false, .int .i64 0, .int .i64 0, .int .i64 0, .int .i64 0, .int .i64 0, .int .i64 0, .int .i64 0, .int .i64 0, .int .i64 0, .int .i64 0, .int .i64 0, .slice none 0 0, .bool false, .bool false, .int .i64 0, .int .i64 0, .int .i64 0, .int .i64 0, .int .i64 0, .int .i64 0, .int .i64 0, .int .i64 0, .int .i64 0, .int .i64 0, .int .i64 0, .slice none 0 0, .bool false, .bool false, .int .i64 0, .int .i64 0, .int .i64 0, .int .i64 0, .int .i64 0, .int .i64 0, .int .i64 0, .int .i64 0, .int .i64 0, .int .i64 0, .int .i64 0, .slice none 0 0, .bool false, .bool false, .int .i64 0, .int .i64 0, .int .i64 0, .int .i64 0, .int .i64 0, .int .i64 0, .int .i64 0, .int .i64 0, .int .i64 0, .int .i64 0, .int .i64 0, .slice none 0 0, .bool false, .bool false, .int .i64 0, .int .i64 0, .int .i64 0, .int .i64 0, .int .i64 0, .int .i64 0, .int .i64 0, .int .i64 0, .int .i64 0, .int .i64 0, .int .i64 0, .slice none 0 0, .bool false] (List.replicate 16 ((false, (0, (0, (0, (0, 0, 0, 0), (0, 0, 0, 0)), []), false)) : Bool × (Int × (Int × (Int × (Int × Int × Int × Int) × (Int × Int × Int × Int)) × (List (Int × Int × Int))) × Bool))) := QT ▸ PX 16 w A
def BJ  : (Int × List (Bool × (Int × (Int × (Int × (Int × Int × Int × Int) × (Int × Int × Int × Int)) × (List (Int × Int × Int))) × Bool))) := (0, (List.replicate 16 ((false, (0, (0, (0, (0, 0, 0, 0), (0, 0, 0, 0)), []), false)) : Bool × (Int × (Int × (Int × (Int × Int × Int × Int) × (Int × Int × Int × Int)) × (List (Int × Int × Int))) × Bool))))
theorem GZ (Y : Nat → Prop) (w0 : World)   (r : (Int × List (Bool × (Int × (Int × (Int × (Int × Int × Int × Int) × (Int × Int × Int × Int)) × (List (Int × Int × Int))) × Bool)))) (H : BJ  = r)  :
    Calls Try.prog 7 #[] w0 fun e w' => ∃ x : Nat, e = .returned (.pointer (some ⟨x, 0, none⟩)) ∧ Stw ⟨Y, [], w0⟩ [] [Be x Bn 16 r] w' := by
 refine enter Try.func7 Aa Try.ntmps7 Aa fun a F => ?_
 have W := Stw.start Y w0
 unfold BJ at H
 refine vc tk 7 F W fun a w F W => ?_
 refine ls F W Aa (Eg (v := Value.agg #[.int .i64 0, .bool false, .int .i64 0, .int .i64 0, .int .i64 0, .int .i64 0, .int .i64 0, .int .i64 0, .int .i64 0, .int .i64 0, .int .i64 0, .int .i64 0, .int .i64 0, .slice none 0 0, .bool false, .bool false, .int .i64 0, .int .i64 0, .int .i64 0, .int .i64 0, .int .i64 0, .int .i64 0, .int .i64 0, .int .i64 0, .int .i64 0, .int .i64 0, .int .i64 0, .slice none 0 0, .bool false, .bool false, .int .i64 0, .int .i64 0, .int .i64 0, .int .i64 0, .int .i64 0, .int .i64 0, .int .i64 0, .int .i64 0, .int .i64 0, .int .i64 0, .int .i64 0, .slice none 0 0, .bool false, .bool false, .int .i64 0, .int .i64 0, .int .i64 0, .int .i64 0, .int .i64 0, .int .i64 0, .int .i64 0, .int .i64 0, .int .i64 0, .int .i64 0, .int .i64 0, .slice none 0 0, .bool false, .bool false, .int .i64 0, .int .i64 0, .int .i64 0, .int .i64 0, .int .i64 0, .int .i64 0, .int .i64 0, .int .i64 0, .int .i64 0, .int .i64 0, .int .i64 0, .slice none 0 0, .bool false, .bool false, .int .i64 0, .int .i64 0, .int .i64 0, .int .i64 0, .int .i64 0, .int .i64 0, .int .i64 0, .int .i64 0, .int .i64 0, .int .i64 0, .int .i64 0, .slice none 0 0, .bool false, .bool false, .int .i64 0, .int .i64 0, .int .i64 0, .int .i64 0, .int .i64 0, .int .i64 0, .int .i64 0, .int .i64 0, .int .i64 0, .int .i64 0, .int .i64 0, .slice none 0 0, .bool false, .bool false, .int .i64 0, .int .i64 0, .int .i64 0, .int .i64 0, .int .i64 0, .int .i64 0, .int .i64 0, .int .i64 0, .int .i64 0, .int .i64 0, .int .i64 0, .slice none 0 0, .bool false, .bool false, .int .i64 0, .int .i64 0, .int .i64 0, .int .i64 0, .int .i64 0, .int .i64 0, .int .i64 0, .int .i64 0, .int .i64 0, .int .i64 0, .int .i64 0, .slice none 0 0, .bool false, .bool false, .int .i64 0, .int .i64 0, .int .i64 0, .int .i64 0, .int .i64 0, .int .i64 0, .int .i64 0, .int .i64 0, .int .i64 0, .int .i64 0, .int .i64 0, .slice none 0 0, .bool false, .bool false, .int .i64 0, .int .i64 0, .int .i64 0, .int .i64 0, .int .i64 0, .int .i64 0, .int .i64 0, .int .i64 0, .int .i64 0, .int .i64 0, .int .i64 0, .slice none 0 0, .bool false, .bool false, .int .i64 0, .int .i64 0, .int .i64 0, .int .i64 0, .int .i64 0, .int .i64 0, .int .i64 0, .int .i64 0, .int .i64 0, .int .i64 0, .int .i64 0, .slice none 0 0, .bool false, .bool false, .int .i64 0, .int .i64 0, .int .i64 0, .int .i64 0, .int .i64 0, .int .i64 0, .int .i64 0, .int .i64 0, .int .i64 0, .int .i64 0, .int .i64 0, .slice none 0 0, .bool false, .bool false, .int .i64 0, .int .i64 0, .int .i64 0, .int .i64 0, .int .i64 0, .int .i64 0, .int .i64 0, .int .i64 0, .int .i64 0, .int .i64 0, .int .i64 0, .slice none 0 0, .bool false, .bool false, .int .i64 0, .int .i64 0, .int .i64 0, .int .i64 0, .int .i64 0, .int .i64 0, .int .i64 0, .int .i64 0, .int .i64 0, .int .i64 0, .int .i64 0, .slice none 0 0, .bool false, .bool false, .int .i64 0, .int .i64 0, .int .i64 0, .int .i64 0, .int .i64 0, .int .i64 0, .int .i64 0, .int .i64 0, .int .i64 0, .int .i64 0, .int .i64 0, .slice none 0 0, .bool false]) Ra F Aa Aa Aa).q fun a w F W => ?_
 refine B1 (cs := [.int .i64 0, .bool false, .int .i64 0, .int .i64 0, .int .i64 0, .int .i64 0, .int .i64 0, .int .i64 0, .int .i64 0, .int .i64 0, .int .i64 0, .int .i64 0, .int .i64 0, .slice none 0 0, .bool false, .bool false, .int .i64 0, .int .i64 0, .int .i64 0, .int .i64 0, .int .i64 0, .int .i64 0, .int .i64 0, .int .i64 0, .int .i64 0, .int .i64 0, .int .i64 0, .slice none 0 0, .bool false, .bool false, .int .i64 0, .int .i64 0, .int .i64 0, .int .i64 0, .int .i64 0, .int .i64 0, .int .i64 0, .int .i64 0, .int .i64 0, .int .i64 0, .int .i64 0, .slice none 0 0, .bool false, .bool false, .int .i64 0, .int .i64 0, .int .i64 0, .int .i64 0, .int .i64 0, .int .i64 0, .int .i64 0, .int .i64 0, .int .i64 0, .int .i64 0, .int .i64 0, .slice none 0 0, .bool false, .bool false, .int .i64 0, .int .i64 0, .int .i64 0, .int .i64 0, .int .i64 0, .int .i64 0, .int .i64 0, .int .i64 0, .int .i64 0, .int .i64 0, .int .i64 0, .slice none 0 0, .bool false, .bool false, .int .i64 0, .int .i64 0, .int .i64 0, .int .i64 0, .int .i64 0, .int .i64 0, .int .i64 0, .int .i64 0, .int .i64 0, .int .i64 0, .int .i64 0, .slice none 0 0, .bool false, .bool false, .int .i64 0, .int .i64 0, .int .i64 0, .int .i64 0, .int .i64 0, .int .i64 0, .int .i64 0, .int .i64 0, .int .i64 0, .int .i64 0, .int .i64 0, .slice none 0 0, .bool false, .bool false, .int .i64 0, .int .i64 0, .int .i64 0, .int .i64 0, .int .i64 0, .int .i64 0, .int .i64 0, .int .i64 0, .int .i64 0, .int .i64 0, .int .i64 0, .slice none 0 0, .bool false, .bool false, .int .i64 0, .int .i64 0, .int .i64 0, .int .i64 0, .int .i64 0, .int .i64 0, .int .i64 0, .int .i64 0, .int .i64 0, .int .i64 0, .int .i64 0, .slice none 0 0, .bool false, .bool false, .int .i64 0, .int .i64 0, .int .i64 0, .int .i64 0, .int .i64 0, .int .i64 0, .int .i64 0, .int .i64 0, .int .i64 0, .int .i64 0, .int .i64 0, .slice none 0 0, .bool false, .bool false, .int .i64 0, .int .i64 0, .int .i64 0, .int .i64 0, .int .i64 0, .int .i64 0, .int .i64 0, .int .i64 0, .int .i64 0, .int .i64 0, .int .i64 0, .slice none 0 0, .bool false, .bool false, .int .i64 0, .int .i64 0, .int .i64 0, .int .i64 0, .int .i64 0, .int .i64 0, .int .i64 0, .int .i64 0, .int .i64 0, .int .i64 0, .int .i64 0, .slice none 0 0, .bool false, .bool false, .int .i64 0, .int .i64 0, .int .i64 0, .int .i64 0, .int .i64 0, .int .i64 0, .int .i64 0, .int .i64 0, .int .i64 0, .int .i64 0, .int .i64 0, .slice none 0 0, .bool false, .bool false, .int .i64 0, .int .i64 0, .int .i64 0, .int .i64 0, .int .i64 0, .int .i64 0, .int .i64 0, .int .i64 0, .int .i64 0, .int .i64 0, .int .i64 0, .slice none 0 0, .bool false, .bool false, .int .i64 0, .int .i64 0, .int .i64 0, .int .i64 0, .int .i64 0, .int .i64 0, .int .i64 0, .int .i64 0, .int .i64 0, .int .i64 0, .int .i64 0, .slice none 0 0, .bool false, .bool false, .int .i64 0, .int .i64 0, .int .i64 0, .int .i64 0, .int .i64 0, .int .i64 0, .int .i64 0, .int .i64 0, .int .i64 0, .int .i64 0, .int .i64 0, .slice none 0 0, .bool false]) F W Aa Aa Aa fun b1 a w F W => ?_
 have W := W.toP (r := Bn) (m := 16) (l := (List.replicate 16 ((false, (0, (0, (0, (0, 0, 0, 0), (0, 0, 0, 0)), []), false)) : Bool × (Int × (Int × (Int × (Int × Int × Int × Int) × (Int × Int × Int × Int)) × (List (Int × Int × Int))) × Bool)))) Aa Aa PY
 have W : Stw ⟨Y, [], w0⟩ [] [Be b1 Bn 16 (0, (List.replicate 16 ((false, (0, (0, (0, (0, 0, 0, 0), (0, 0, 0, 0)), []), false)) : Bool × (Int × (Int × (Int × (Int × Int × Int × Int) × (Int × Int × Int × Int)) × (List (Int × Int × Int))) × Bool))))] w := W
 refine BV tk 3 F W fun a w F W => ?_
 refine Al ?_
 subst H
 refine Aq (.inl Aa) F W Aa (Ak F Aa) ?_
 exact ⟨b1, Aa, W⟩
theorem H7 : Has Try.prog 7 := B3 Try.func7
theorem Mx : (Try.prog.info? 37).bind (·.zero) = some (.agg #[.int .i64 0, .int .i64 0, .int .i64 0, .int .i64 0, .int .i64 0, .int .i64 0, .int .i64 0, .int .i64 0, .int .i64 0, .int .i64 0, .slice none 0 0]) := by kernel_rfl
theorem PH : (Try.prog.info? 34).bind (·.zero) = some (.agg #[.int .i64 0, .int .i64 0, .int .i64 0, .int .i64 0, .int .i64 0, .int .i64 0, .int .i64 0, .int .i64 0, .int .i64 0]) := by kernel_rfl
theorem QD : Bt Try.prog 34 [.int .i64 0, .int .i64 0, .int .i64 0, .int .i64 0, .int .i64 0, .int .i64 0, .int .i64 0, .int .i64 0, .int .i64 0] [(0, 1), (1, 4), (5, 4)] := ⟨⟨.agg #[.int .i64 0, .int .i64 0, .int .i64 0, .int .i64 0, .int .i64 0, .int .i64 0, .int .i64 0, .int .i64 0, .int .i64 0], by kernel_rfl, rfl⟩, ⟨_, FB, fun w => by kernel_rfl⟩⟩
abbrev GM  : List Value := [.int .i64 0, .int .i64 0, .int .i64 0, .int .i64 0, .int .i64 0, .int .i64 0, .int .i64 0, .int .i64 0, .int .i64 0]
def Af  : (Int × (Int × Int × Int × Int) × (Int × Int × Int × Int)) := ((-1), (0, 0, 0, 0), (0, 0, 0, 0))
theorem J2 (Y : Nat → Prop) (w0 : World)   (r : (Int × (Int × Int × Int × Int) × (Int × Int × Int × Int))) (H : Af  = r)  :
    Calls Try.prog 57 #[] w0 fun e w' => e = .returned (.agg #[.int .i64 r.1, .int .i64 r.2.1.1, .int .i64 r.2.1.2.1, .int .i64 r.2.1.2.2.1, .int .i64 r.2.1.2.2.2, .int .i64 r.2.2.1, .int .i64 r.2.2.2.1, .int .i64 r.2.2.2.2.1, .int .i64 r.2.2.2.2.2]) ∧ Below w0.heap.size w0 w' := by
 refine enter Try.func57 Aa Try.ntmps57 Aa fun a F => ?_
 have W := Stw.start Y w0
 unfold Af at H
 refine vc tk 2 F W fun a w F W => ?_
 refine Cn (cs := (GM)) F W Aa PH Aa fun b1 a w F W => ?_
 refine BV tk 4 F W fun a w F W => ?_
 refine ls F W Aa (Eg (v := Value.agg #[.int .i64 (-1), .int .i64 0, .int .i64 0, .int .i64 0, .int .i64 0, .int .i64 0, .int .i64 0, .int .i64 0, .int .i64 0]) QD F Aa Aa Aa).q fun a w F W => ?_
 refine EJ 0 F W Aa Aa Aa KD Aa Aa Aa fun w W => ?_
 refine BV tk 2 F W fun a w F W => ?_
 refine Al ?_
 subst H
 refine Aq (.inl Aa) F W Aa (EG 0 F Aa Aa KD Aa) ?_
 exact ⟨rfl, W.done⟩
theorem Si : Has Try.prog 57 := B3 Try.func57
noncomputable def Dq (p0 : Int) : Option Int := (if p0 = 0 then some true else (if p0 = 1 then some true else some (decide (p0 = 3)))).bind fun x1 => (if x1 = true then some 8 else (if p0 = 2 then some 4 else some 0))
theorem IP (Y : Nat → Prop) (w0 : World)  (p0 : Int) (r : Int) (H : Dq p0 = some r)  :
    Calls Try.prog 74 #[.int .i64 p0] w0 fun e w' => e = .returned (.int .i64 r) ∧ Below w0.heap.size w0 w' := by
 refine enter Try.func74 Aa Try.ntmps74 Aa fun a F => ?_
 have W := Stw.start Y w0
 unfold Dq at H
 refine vc tk 12 F W fun a w F W => ?_
 obtain ⟨o1, G1, K1⟩ := Ah H
 refine AC (fun a w => ∃ x1 : Bool, some (x1) = some o1 ∧ Fr 10 [] [(2, .int .i64 0), (3, .int .i64 p0), (4, .bool x1)] a ∧ Stw ⟨Y, [], w0⟩ [] [] w) ?_ ?_
 ·
  have H := G1
  clear G1 K1
  refine vc tk 6 F W fun a w F W => ?_
  refine Dm F Aa (fun hb => ?_) fun hb => ?_
  ·
   have H := BW (Ci hb) H
   rw [hb] at F
   clear hb
   refine AH (Ad ?_)
   exact ⟨_, H, F.ra Aa, W⟩
  have H := BX (Ch hb) H
  rw [hb] at F
  clear hb
  refine vc tk 6 F W fun a w F W => ?_
  refine Dm F Aa (fun hb => ?_) fun hb => ?_
  ·
   have H := BW (Ci hb) H
   rw [hb] at F
   clear hb
   refine AH (Ad ?_)
   exact ⟨_, H, F.ra Aa, W⟩
  have H := BX (Ch hb) H
  rw [hb] at F
  clear hb
  refine vc tk 4 F W fun a w F W => ?_
  refine Ad ?_
  exact ⟨_, H, F.ra Aa, W⟩
 rintro a w ⟨x1, hj, F, W⟩
 have hj := Aw hj
 subst hj
 have H := K1
 clear G1 K1
 refine B8 F Aa H (fun F H => ?_) fun F H => ?_
 ·
  refine vc tk 5 F W fun a w F W => ?_
  refine Al (Az (Ap ?_))
  have H := Aw H
  subst H
  refine Aq (.inl Aa) F W Aa (Ak F Aa) ?_
  exact ⟨rfl, W.done⟩
 refine vc tk 6 F W fun a w F W => ?_
 refine Dm F Aa (fun hb => ?_) fun hb => ?_
 ·
  have H := BW (Ci hb) H
  rw [hb] at F
  clear hb
  refine vc tk 5 F W fun a w F W => ?_
  refine Al (Az (Ap ?_))
  have H := Aw H
  subst H
  refine Aq (.inl Aa) F W Aa (Ak F Aa) ?_
  exact ⟨rfl, W.done⟩
 have H := BX (Ch hb) H
 rw [hb] at F
 clear hb
 refine AH (AV ?_)
 refine vn tk 5 F W fun a w F W => ?_
 refine Al ?_
 have H := Aw H
 subst H
 refine Aq (.inl Aa) F W Aa (Ak F Aa) ?_
 exact ⟨rfl, W.done⟩
theorem Sg : Has Try.prog 74 := B3 Try.func74
noncomputable def CM (p0 : Int) : Option Int := (Dq p0).bind fun x1 => (Qu (Ot .i64 1 x1) x1).bind fun x2 => some (Cs (x2 - 1))
theorem EK (Y : Nat → Prop) (w0 : World)  (p0 : Int) (r : Int) (H : CM p0 = some r)  :
    Calls Try.prog 58 #[.int .i64 p0] w0 fun e w' => e = .returned (.int .i64 r) ∧ Below w0.heap.size w0 w' := by
 refine enter Try.func58 Aa Try.ntmps58 Aa fun a F => ?_
 have W := Stw.start Y w0
 unfold CM at H
 refine vc tk 8 F W fun a w F W => ?_
 obtain ⟨x1, h1, H⟩ := Ah H
 refine ls F W Aa (AU (v := Value.int .i64 x1) F Sg Aa (fun w W => IP any w p0 _ h1)) fun a w F W => ?_
 obtain ⟨x2, h2, H⟩ := Ah H
 refine ls F W Aa (P2 (JT h2).2 (Qn F Aa Aa (JT h2).1)).q fun a w F W => ?_
 refine BV tk 4 F W fun a w F W => ?_
 refine Al ?_
 have H := Aw H
 subst H
 refine Aq (.inl Aa) F W Aa (Ak F Aa) ?_
 exact ⟨rfl, W.done⟩
theorem Qw : Has Try.prog 58 := B3 Try.func58
abbrev Qc  : List Value := [.int .i64 Af.1, .int .i64 Af.2.1.1, .int .i64 Af.2.1.2.1, .int .i64 Af.2.1.2.2.1, .int .i64 Af.2.1.2.2.2, .int .i64 Af.2.2.1, .int .i64 Af.2.2.2.1, .int .i64 Af.2.2.2.2.1, .int .i64 Af.2.2.2.2.2]
abbrev P9 (a0 : Nat) (a1 : Nat) : List (Nat × List Value) := [(a0, [.int .i64 Af.1, .int .i64 Af.2.1.1, .int .i64 Af.2.1.2.1, .int .i64 Af.2.1.2.2.1, .int .i64 Af.2.1.2.2.2, .int .i64 Af.2.2.1, .int .i64 Af.2.2.2.1, .int .i64 Af.2.2.2.2.1, .int .i64 Af.2.2.2.2.2]), (a1, [.int .i64 0, .int .i64 0, .int .i64 0, .int .i64 0, .int .i64 0, .int .i64 0, .int .i64 0, .int .i64 0, .int .i64 0])]
noncomputable def Gp (p0 : Int) (p1 : Int) : Option (Int × (Int × Int × Int × Int) × (Int × Int × Int × Int)) := (if p0 < 0 then some true else (if 4 ≤ p0 then some true else (if p1 < 0 then some true else (CM p0).bind fun x2 => some (decide (x2 < p1))))).bind fun x1 => (if x1 = true then some Af else (ix ([Af.2.1.1, Af.2.1.2.1, Af.2.1.2.2.1, Af.2.1.2.2.2] : List Int) p0).bind fun x3 => (CM p0).bind fun x4 => (ix ([Af.2.2.1, Af.2.2.2.1, Af.2.2.2.2.1, Af.2.2.2.2.2] : List Int) p0).bind fun x5 => some (Af.1, ((if p0 = 0 then p1 else Af.2.1.1), (if p0 = 1 then p1 else Af.2.1.2.1), (if p0 = 2 then p1 else Af.2.1.2.2.1), (if p0 = 3 then p1 else Af.2.1.2.2.2)), ((if p0 = 0 then x4 else Af.2.2.1), (if p0 = 1 then x4 else Af.2.2.2.1), (if p0 = 2 then x4 else Af.2.2.2.2.1), (if p0 = 3 then x4 else Af.2.2.2.2.2))))
theorem KY (Y : Nat → Prop) (w0 : World)  (p0 : Int) (p1 : Int) (r : (Int × (Int × Int × Int × Int) × (Int × Int × Int × Int))) (H : Gp p0 p1 = some r)  :
    Calls Try.prog 40 #[.int .i64 p0, .int .i64 p1] w0 fun e w' => e = .returned (.agg #[.int .i64 r.1, .int .i64 r.2.1.1, .int .i64 r.2.1.2.1, .int .i64 r.2.1.2.2.1, .int .i64 r.2.1.2.2.2, .int .i64 r.2.2.1, .int .i64 r.2.2.2.1, .int .i64 r.2.2.2.2.1, .int .i64 r.2.2.2.2.2]) ∧ Below w0.heap.size w0 w' := by
 refine enter Try.func40 Aa Try.ntmps40 Aa fun a F => ?_
 have W := Stw.start Y w0
 unfold Gp at H
 refine vc tk 2 F W fun a w F W => ?_
 refine Cn (cs := (GM)) F W Aa PH Aa fun b1 a w F W => ?_
 refine BV tk 4 F W fun a w F W => ?_
 refine ls F W Aa (AU (v := Value.agg #[.int .i64 Af.1, .int .i64 Af.2.1.1, .int .i64 Af.2.1.2.1, .int .i64 Af.2.1.2.2.1, .int .i64 Af.2.1.2.2.2, .int .i64 Af.2.2.1, .int .i64 Af.2.2.2.1, .int .i64 Af.2.2.2.2.1, .int .i64 Af.2.2.2.2.2]) F Si Aa (fun w W => J2 any w _ Aa)) fun a w F W => ?_
 refine Cn (cs := (GM)) F W Aa PH Aa fun b2 a w F W => ?_
 refine EJ 0 F W Aa Aa Aa KD Aa Aa Aa fun w W => ?_
 refine BV tk 3 F W fun a w F W => ?_
 obtain ⟨o1, G1, K1⟩ := Ah H
 refine AC (fun a w => ∃ x1 : Bool, some (x1) = some o1 ∧ Fr 34 [] [(0, .int .i64 p0), (1, .int .i64 p1), (4, .pointer (some ⟨b1, 0, none⟩)), (5, .pointer (some ⟨b2, 0, none⟩)), (22, .bool x1)] a ∧ Stw ⟨Y, [], w0⟩ (P9 b2 b1) [] w) ?_ ?_
 ·
  have H := G1
  clear G1 K1
  refine vc tk 4 F W fun a w F W => ?_
  rcases Bool.eq_false_or_eq_true (decide (p0 < 0)) with hb | hb
  ·
   have H := BW (Ci hb) H
   rw [hb] at F
   clear hb
   refine vl tk 14 F W fun a w F W => ?_
   refine Ad ?_
   have W := W.frontM (i := 1) Aa Aa
   have W := W.frontM (i := 1) Aa Aa
   exact ⟨_, H, F.ra Aa, W⟩
  have H := BX (Ch hb) H
  rw [hb] at F
  clear hb
  refine vl tk 4 F W fun a w F W => ?_
  rcases Bool.eq_false_or_eq_true (decide (4 ≤ p0)) with hb | hb
  ·
   have H := BW (Ci hb) H
   rw [hb] at F
   clear hb
   refine vl tk 10 F W fun a w F W => ?_
   refine Ad ?_
   have W := W.frontM (i := 1) Aa Aa
   have W := W.frontM (i := 1) Aa Aa
   exact ⟨_, H, F.ra Aa, W⟩
  have H := BX (Ch hb) H
  rw [hb] at F
  clear hb
  refine vl tk 4 F W fun a w F W => ?_
  rcases Bool.eq_false_or_eq_true (decide (p1 < 0)) with hb | hb
  ·
   have H := BW (Ci hb) H
   rw [hb] at F
   clear hb
   refine vl tk 6 F W fun a w F W => ?_
   refine Ad ?_
   have W := W.frontM (i := 1) Aa Aa
   have W := W.frontM (i := 1) Aa Aa
   exact ⟨_, H, F.ra Aa, W⟩
  have H := BX (Ch hb) H
  rw [hb] at F
  clear hb
  refine vl tk 2 F W fun a w F W => ?_
  refine Fg (Ag F Aa Aa Aa Aa) ?_
  obtain ⟨x2, h1, H⟩ := Ah H
  refine ls F W Aa (AU (v := Value.int .i64 x2) F Qw Aa (fun w W => EK any w p0 _ h1)) fun a w F W => ?_
  refine vl tk 3 F W fun a w F W => ?_
  refine Ad ?_
  have W := W.frontM (i := 1) Aa Aa
  have W := W.frontM (i := 1) Aa Aa
  exact ⟨_, H, F.ra Aa, W⟩
 rintro a w ⟨x1, hj, F, W⟩
 have hj := Aw hj
 subst hj
 have H := K1
 clear G1 K1
 refine B8 F Aa H (fun F H => ?_) fun F H => ?_
 ·
  refine Gh tk 3 [0] F W (ai fun a w F W => ?_)
  refine EJ 1 F W Aa Aa Aa KD Aa Aa Aa fun w W => ?_
  refine BV tk 2 F W fun a w F W => ?_
  refine Al (Ap ?_)
  have H := Aw H
  subst H
  refine Aq (.inl Aa) F W Aa (EG 1 F Aa Aa KD Aa) ?_
  exact ⟨rfl, W.done⟩
 refine E8 tk 3 F W fun a w F W => ?_
 refine ER [(true, 0), (true, 1), (true, 2), (true, 3), (true, 5), (true, 6), (true, 8), (false, 4), (false, 7), (true, 9), (false, 10)] (CN ⟨Y, [], w0⟩ [] []) (fun ch a d v w h => by cases d <;> exact h) MO (by kernel_rfl) W (fun w W => ⟨_, _, W, As, As⟩) fun w W => ?_
 iterate 4 refine CZ (R := []) F Aa Aa (yC fun M Z hN hZ => Am F Aa) Aa Aa fun a F => ?_
 refine CZ (R := []) F Aa Aa (yC fun M Z hN hZ => An FB Aa Aa Aa Jn F Aa 1 Aa) Aa Aa fun a F => ?_
 obtain ⟨x3, h2, H⟩ := Ah H
 refine CZ (R := []) F Aa Aa (yC fun M Z hN hZ => BM (1 + (p0).toNat * 1) E1 F Aa Aa Aa h2 Aa) Aa Aa fun a F => ?_
 refine CZ (R := []) F Aa Aa (yC fun M Z hN hZ => An FB Aa Aa Aa Jn F Aa 5 Aa) Aa Aa fun a F => ?_
 refine En Aa ?_
 obtain ⟨x4, h3, H⟩ := Ah H
 refine ls F W Aa (AU (v := Value.int .i64 x4) F Qw Aa (fun w W => EK any w p0 _ h3)) fun a w F W => ?_
 refine BS (N2 := []) (NZ2 := []) (N3 := []) (NZ3 := []) W Aa Aa As As ?_
 refine En Aa ?_
 refine Fe (o := 1) (m := 4) (i := p0) (l := ([Af.2.1.1, Af.2.1.2.1, Af.2.1.2.2.1, Af.2.1.2.2.2] : List Int)) (x := x3) (cs := (Qc)) (cs' := [.int .i64 Af.1, .int .i64 (if p0 = 0 then p1 else Af.2.1.1), .int .i64 (if p0 = 1 then p1 else Af.2.1.2.1), .int .i64 (if p0 = 2 then p1 else Af.2.1.2.2.1), .int .i64 (if p0 = 3 then p1 else Af.2.1.2.2.2), .int .i64 Af.2.2.1, .int .i64 Af.2.2.2.1, .int .i64 Af.2.2.2.2.1, .int .i64 Af.2.2.2.2.2]) 0 F W Aa Aa Aa T3 Aa Aa Aa Aa h2 (by intro k hk hn; rw [hk]; match k, hn with | 0, _ => rfl | 1, _ => rfl | 2, _ => rfl | 3, _ => rfl | (z + 4), h => exact absurd h (by omega)) fun w W => ?_
 have W : Stw ⟨Y, [], w0⟩ [(b2, [.int .i64 Af.1, .int .i64 (if p0 = 0 then p1 else Af.2.1.1), .int .i64 (if p0 = 1 then p1 else Af.2.1.2.1), .int .i64 (if p0 = 2 then p1 else Af.2.1.2.2.1), .int .i64 (if p0 = 3 then p1 else Af.2.1.2.2.2), .int .i64 Af.2.2.1, .int .i64 Af.2.2.2.1, .int .i64 Af.2.2.2.2.1, .int .i64 Af.2.2.2.2.2]), (b1, (GM))] [] w := W
 refine BS (N2 := []) (NZ2 := []) (N3 := []) (NZ3 := []) W Aa Aa As As ?_
 obtain ⟨x5, h4, H⟩ := Ah H
 refine CZ (R := []) F Aa Aa (yC fun M Z hN hZ => BM (5 + (p0).toNat * 1) E1 F Aa Aa Aa h4 Aa) Aa Aa fun a F => ?_
 refine En Aa ?_
 refine Fe (o := 5) (m := 4) (i := p0) (l := ([Af.2.2.1, Af.2.2.2.1, Af.2.2.2.2.1, Af.2.2.2.2.2] : List Int)) (x := x5) (cs := [.int .i64 Af.1, .int .i64 (if p0 = 0 then p1 else Af.2.1.1), .int .i64 (if p0 = 1 then p1 else Af.2.1.2.1), .int .i64 (if p0 = 2 then p1 else Af.2.1.2.2.1), .int .i64 (if p0 = 3 then p1 else Af.2.1.2.2.2), .int .i64 Af.2.2.1, .int .i64 Af.2.2.2.1, .int .i64 Af.2.2.2.2.1, .int .i64 Af.2.2.2.2.2]) (cs' := [.int .i64 Af.1, .int .i64 (if p0 = 0 then p1 else Af.2.1.1), .int .i64 (if p0 = 1 then p1 else Af.2.1.2.1), .int .i64 (if p0 = 2 then p1 else Af.2.1.2.2.1), .int .i64 (if p0 = 3 then p1 else Af.2.1.2.2.2), .int .i64 (if p0 = 0 then x4 else Af.2.2.1), .int .i64 (if p0 = 1 then x4 else Af.2.2.2.1), .int .i64 (if p0 = 2 then x4 else Af.2.2.2.2.1), .int .i64 (if p0 = 3 then x4 else Af.2.2.2.2.2)]) 0 F W Aa Aa Aa T3 Aa Aa Aa Aa h4 (by intro k hk hn; rw [hk]; match k, hn with | 0, _ => rfl | 1, _ => rfl | 2, _ => rfl | 3, _ => rfl | (z + 4), h => exact absurd h (by omega)) fun w W => ?_
 have W : Stw ⟨Y, [], w0⟩ [(b2, [.int .i64 Af.1, .int .i64 (if p0 = 0 then p1 else Af.2.1.1), .int .i64 (if p0 = 1 then p1 else Af.2.1.2.1), .int .i64 (if p0 = 2 then p1 else Af.2.1.2.2.1), .int .i64 (if p0 = 3 then p1 else Af.2.1.2.2.2), .int .i64 (if p0 = 0 then x4 else Af.2.2.1), .int .i64 (if p0 = 1 then x4 else Af.2.2.2.1), .int .i64 (if p0 = 2 then x4 else Af.2.2.2.2.1), .int .i64 (if p0 = 3 then x4 else Af.2.2.2.2.2)]), (b1, (GM))] [] w := W
 refine BS (N2 := []) (NZ2 := []) (N3 := []) (NZ3 := []) W Aa Aa As As ?_
 refine GI ?_
 refine Q9 tk 3 [0] F W (ai fun a w F W => ?_)
 refine EJ 1 F W Aa Aa Aa KD Aa Aa Aa fun w W => ?_
 refine BV tk 2 F W fun a w F W => ?_
 refine Al ?_
 have H := Aw H
 subst H
 refine Aq (.inl Aa) F W Aa (EG 1 F Aa Aa KD Aa) ?_
 exact ⟨rfl, W.done⟩
theorem Sb : Has Try.prog 40 := B3 Try.func40
theorem RT : Bt Try.prog 88 [.int .i64 0, .int .i64 0, .int .i64 0] [(0, 1), (1, 1), (2, 1)] := ⟨⟨.agg #[.int .i64 0, .int .i64 0, .int .i64 0], by kernel_rfl, rfl⟩, ⟨_, HR, fun w => by kernel_rfl⟩⟩
theorem QQ : (Try.prog.info? 88).bind (·.zero) = some (.agg #[.int .i64 0, .int .i64 0, .int .i64 0]) := by kernel_rfl
theorem RQ : Bt Try.prog 37 [.int .i64 0, .int .i64 0, .int .i64 0, .int .i64 0, .int .i64 0, .int .i64 0, .int .i64 0, .int .i64 0, .int .i64 0, .int .i64 0, .slice none 0 0] [(0, 1), (1, 9), (10, 1)] := ⟨⟨.agg #[.int .i64 0, .int .i64 0, .int .i64 0, .int .i64 0, .int .i64 0, .int .i64 0, .int .i64 0, .int .i64 0, .int .i64 0, .int .i64 0, .slice none 0 0], by kernel_rfl, rfl⟩, ⟨_, J4, fun w => by kernel_rfl⟩⟩
abbrev Ig  : List Value := [.int .i64 0, .int .i64 0, .int .i64 0, .int .i64 0, .int .i64 0, .int .i64 0, .int .i64 0, .int .i64 0, .int .i64 0, .int .i64 0, .slice none 0 0]
noncomputable def D9 (p0 : Int) (p1 : Int) (p2 : Int) (p3 : Int) : Option (Int × (Int × (Int × Int × Int × Int) × (Int × Int × Int × Int)) × (List (Int × Int × Int))) := (Gp p0 p1).bind fun x1 => some (p2, x1, ([(2, 0, p3)] : List (Int × Int × Int)))
theorem GX (Y : Nat → Prop) (w0 : World)  (p0 : Int) (p1 : Int) (p2 : Int) (p3 : Int) (r : (Int × (Int × (Int × Int × Int × Int) × (Int × Int × Int × Int)) × (List (Int × Int × Int)))) (H : D9 p0 p1 p2 p3 = some r)  :
    Calls Try.prog 25 #[.int .i64 p0, .int .i64 p1, .int .i64 p2, .int .i64 p3] w0 fun e w' => ∃ x : Value, e = .returned (.agg #[.int .i64 r.1, .int .i64 r.2.1.1, .int .i64 r.2.1.2.1.1, .int .i64 r.2.1.2.1.2.1, .int .i64 r.2.1.2.1.2.2.1, .int .i64 r.2.1.2.1.2.2.2, .int .i64 r.2.1.2.2.1, .int .i64 r.2.1.2.2.2.1, .int .i64 r.2.1.2.2.2.2.1, .int .i64 r.2.1.2.2.2.2.2, x]) ∧ Stw ⟨Y, [], w0⟩ [] [row (x) 88 Bl r.2.2] w' := by
 refine enter Try.func25 Aa Try.ntmps25 Aa fun a F => ?_
 have W := Stw.start Y w0
 unfold D9 at H
 refine vc tk 2 F W fun a w F W => ?_
 refine Cn (cs := (Ig)) F W Aa Mx Aa fun b1 a w F W => ?_
 refine BV tk 7 F W fun a w F W => ?_
 obtain ⟨x1, h1, H⟩ := Ah H
 refine ls F W Aa (AU (v := Value.agg #[.int .i64 x1.1, .int .i64 x1.2.1.1, .int .i64 x1.2.1.2.1, .int .i64 x1.2.1.2.2.1, .int .i64 x1.2.1.2.2.2, .int .i64 x1.2.2.1, .int .i64 x1.2.2.2.1, .int .i64 x1.2.2.2.2.1, .int .i64 x1.2.2.2.2.2]) F Sb Aa (fun w W => KY any w p0 p1 _ h1)) fun a w F W => ?_
 refine ls F W Aa (Am F Aa).q fun a w F W => ?_
 refine ls F W Aa (Eg (v := Value.agg #[.int .i64 2, .int .i64 0, .int .i64 p3]) RT F Aa Aa Aa).q fun a w F W => ?_
 refine LP (z := Value.agg #[.int .i64 0, .int .i64 0, .int .i64 0]) (cs := [.int .i64 2, .int .i64 0, .int .i64 p3]) Bl ([(2, 0, p3)] : List (Int × Int × Int)) F W Aa Oe QQ Aa Aa Aa Aa Aa Aa (OE.repL _ _ ([(2, 0, p3)] : List (Int × Int × Int))) fun v1 a w F W => ?_
 refine ls F W Aa (Eg (v := Value.agg #[.int .i64 p2, .int .i64 x1.1, .int .i64 x1.2.1.1, .int .i64 x1.2.1.2.1, .int .i64 x1.2.1.2.2.1, .int .i64 x1.2.1.2.2.2, .int .i64 x1.2.2.1, .int .i64 x1.2.2.2.1, .int .i64 x1.2.2.2.2.1, .int .i64 x1.2.2.2.2.2, v1]) RQ F Aa (CU Aa Aa Aa (CU Aa Aa Aa (CU Aa (Gu (W.one (k := 0) Aa)) Aa FH))) Aa).q fun a w F W => ?_
 refine EJ 0 F W Aa Aa Aa Fk Aa Aa (Ac Aa (Ac Aa (Ac Aa (Ac Aa (Ac Aa (Ac Aa (Ac Aa (Ac Aa (Ac Aa (Ac Aa (Ac (W.one (k := 0) Aa) Ct))))))))))) fun w W => ?_
 refine BV tk 2 F W fun a w F W => ?_
 refine Al ?_
 have H := Aw H
 subst H
 refine Aq (.inl Aa) F W Aa (EG 0 F Aa Aa Fk Aa) ?_
 have W := W.sub (M' := []) (Z' := [row v1 88 Bl ([(2, 0, p3)] : List (Int × Int × Int))]) (List.nil_sublist _) (List.Sublist.refl _)
 exact ⟨(v1), Aa, W⟩
theorem PZ : type_of% Try.underlying26 := Try.underlying26
theorem KQ : type_of% Try.underlying39 := Try.underlying39
theorem Rm : Has Try.prog 25 := B3 Try.func25
theorem Rs : Bt Try.prog 39 [.int .i64 0, .int .i64 0, .int .i64 0, .int .i64 0, .int .i64 0, .int .i64 0, .int .i64 0, .int .i64 0, .int .i64 0, .int .i64 0, .int .i64 0, .slice none 0 0, .bool false] [(0, 1), (1, 11), (12, 1)] := ⟨⟨.agg #[.int .i64 0, .int .i64 0, .int .i64 0, .int .i64 0, .int .i64 0, .int .i64 0, .int .i64 0, .int .i64 0, .int .i64 0, .int .i64 0, .int .i64 0, .slice none 0 0, .bool false], by kernel_rfl, rfl⟩, ⟨_, KQ, fun w => by kernel_rfl⟩⟩
theorem Qg : (Try.prog.info? 39).bind (·.zero) = some (.agg #[.int .i64 0, .int .i64 0, .int .i64 0, .int .i64 0, .int .i64 0, .int .i64 0, .int .i64 0, .int .i64 0, .int .i64 0, .int .i64 0, .int .i64 0, .slice none 0 0, .bool false]) := by kernel_rfl
theorem I3 : Ty Try.prog 39 true 13 := ⟨by kernel_rfl, by kernel_rfl⟩
def Ai (p0 : Int × List (Bool × (Int × (Int × (Int × (Int × Int × Int × Int) × (Int × Int × Int × Int)) × (List (Int × Int × Int))) × Bool))) : Int := p0.1
theorem Bj (Y : Nat → Prop) (X : List Nat) (w0 : World) (q_p0 : Nat) (p0 : Int × List (Bool × (Int × (Int × (Int × (Int × Int × Int × Int) × (Int × Int × Int × Int)) × (List (Int × Int × Int))) × Bool))) (r : Int) (H : Ai p0 = r) (hL : Stw ⟨Y, X, w0⟩ [] [Be q_p0 Bn 16 p0] w0) :
    Calls Try.prog 18 #[.pointer (some ⟨q_p0, 0, none⟩)] w0 fun e w' => ∃ x : Unit, e = .returned (.int .i64 r) ∧ Stw ⟨Y, X, w0⟩ [] [Be q_p0 Bn 16 p0] w' := by
 refine enter Try.func18 Aa Try.ntmps18 Aa fun a F => ?_
 have W := hL
 unfold Ai at H
 refine vc tk 9 F W fun a w F W => ?_
 refine ls F W Aa (Is PZ F Aa Aa).q fun a w F W => ?_
 refine BV tk 4 F W fun a w F W => ?_
 refine vn tk 3 F W fun a w F W => ?_
 refine ls F W Aa (C6 F Aa).q fun a w F W => ?_
 refine ls F W Aa (An Kt Aa Aa Aa T3 F Aa 0 Aa).q fun a w F W => ?_
 refine ls F W Aa (LY 0 F Aa Aa T3).q fun a w F W => ?_
 refine BV tk 3 F W fun a w F W => ?_
 refine Al ?_
 subst H
 refine Aq (.inl Aa) F W Aa (Ak F Aa) ?_
 exact ⟨(), Aa, W⟩
theorem QE : type_of% Try.underlying69 := Try.underlying69
theorem N4 : Has Try.prog 18 := B3 Try.func18
abbrev KH : Rp (Bool × (Int × (Int × (Int × (Int × Int × Int × Int) × (Int × Int × Int × Int)) × (Value × List (Int × Int × Int))) × Bool)) := (Rp.pair Rp.bool Hp)
abbrev QN (p : Bool × (Int × (Int × (Int × (Int × Int × Int × Int) × (Int × Int × Int × Int)) × (Value × List (Int × Int × Int))) × Bool)) : Bool × (Int × (Int × (Int × (Int × Int × Int × Int) × (Int × Int × Int × Int)) × (List (Int × Int × Int))) × Bool) := (p.1, (p.2.1, (p.2.2.1.1, p.2.2.1.2.1, p.2.2.1.2.2.2), p.2.2.2))
theorem Dx : Ex Bn KH QN := (Ex.pair Ex.rfl' (Ex.pair Ex.rfl' (Ex.pair (Ex.pair Ex.rfl' (Ex.pair Ex.rfl' Ex.sliceF)) Ex.rfl')))
theorem PO : Ty Try.prog 69 true 224 := ⟨by kernel_rfl, by kernel_rfl⟩
abbrev Gi (a : Bool × (Int × (Int × (Int × (Int × Int × Int × Int) × (Int × Int × Int × Int)) × (Value × List (Int × Int × Int))) × Bool)) : List Value := [.bool a.1, .int .i64 a.2.1, .int .i64 a.2.2.1.1, .int .i64 a.2.2.1.2.1.1, .int .i64 a.2.2.1.2.1.2.1.1, .int .i64 a.2.2.1.2.1.2.1.2.1, .int .i64 a.2.2.1.2.1.2.1.2.2.1, .int .i64 a.2.2.1.2.1.2.1.2.2.2, .int .i64 a.2.2.1.2.1.2.2.1, .int .i64 a.2.2.1.2.1.2.2.2.1, .int .i64 a.2.2.1.2.1.2.2.2.2.1, .int .i64 a.2.2.1.2.1.2.2.2.2.2, a.2.2.1.2.2.1, .bool a.2.2.2]
theorem KX : DT KH Gi := (DT.pair Fl.bool.to (DT.pair Fl.int.to (DT.pair (DT.pair Fl.int.to (DT.pair QM.to DT.vsl)) Fl.bool.to)))
theorem Mv : Ar Try.prog 69 16 68 14 := ⟨QE, by kernel_rfl⟩
theorem T4 : Ty Try.prog 4 false 1 := ⟨by kernel_rfl, by kernel_rfl⟩
noncomputable def AW (p0 : List (Int × Int × Int)) : Option (List (Int × Int × Int)) := (Jb ([] : List (Int × Int × Int)) p0).bind fun x1 => some x1
theorem CS (Y : Nat → Prop) (w0 : World) (v1 : Value) (p0 : List (Int × Int × Int)) (r : (List (Int × Int × Int))) (H : AW p0 = some r) (s_v1 : Sl w0 Y Bl v1 p0) :
    Calls Try.prog 41 #[v1] w0 fun e w' => ∃ x : Value, e = .returned (x) ∧ Stw ⟨Y, [], w0⟩ [] [row (x) 88 Bl r] w' := by
 refine enter Try.func41 Aa Try.ntmps41 Aa fun a F => ?_
 have W := Stw.start Y w0
 have h_v1 := W.nx s_v1
 unfold AW at H
 refine vc tk 9 F W fun a w F W => ?_
 refine ls F W Aa (Nt (r := Bl) HC F Aa (Aj h_v1)).q fun a w F W => ?_
 refine Ft (Ad ?_)
 rcases L6 (Aj h_v1) W with ⟨hb, hl⟩ | hb
 ·
  rw [hl] at H
  change some ([] : List (Int × Int × Int)) = _ at H
  rw [hb] at F
  refine vc tk 6 F W fun a w F W => ?_
  refine Al (Ap ?_)
  have H := Aw H
  subst H
  refine Aq (.inl Aa) F W Aa (Ak F Aa) ?_
  have W := W.nilRow 88 Bl
  exact ⟨(Value.slice none 0 0), Aa, W⟩
 rw [hb] at F
 refine E8 tk 5 F W fun a w F W => ?_
 refine LP (z := Value.agg #[.int .i64 0, .int .i64 0, .int .i64 0]) (cs := []) Bl ([] : List (Int × Int × Int)) F W Aa Oe QQ Aa Aa Aa Aa Aa Aa (OE.repL _ _ ([] : List (Int × Int × Int))) fun v2 a w F W => ?_
 refine ls F W Aa (Am F Aa).q fun a w F W => ?_
 obtain ⟨x1, h1, H⟩ := Ah H
 refine JR (r := Bl) (i := 0) F W Aa Oe Aa Aa Aa Aa (FX W s_v1) h1 Aa fun v3 a w F W => ?_
 have W : Stw ⟨Y, [], w0⟩ [] [row v3 88 Bl x1] w := W
 refine BV tk 3 F W fun a w F W => ?_
 refine Al ?_
 have H := Aw H
 subst H
 refine Aq (.inl Aa) F W Aa (Ak F Aa) ?_
 exact ⟨(v3), Aa, W⟩
end Go.Proofs.Ytfnmlmglmegamaa
