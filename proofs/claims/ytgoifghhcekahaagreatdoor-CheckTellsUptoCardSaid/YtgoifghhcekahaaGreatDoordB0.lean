/- The functions of layer 30, HQ. Conditions: none. -/
import Derived.Test.YtgoifghhcekahaaGreatDoorRows
import Derived.Test.YtgoifghhcekahaaGreatDoordOT
import Derived.Test.YtgoifghhcekahaaGreatDoordQT
import Derived.Test.YtgoifghhcekahaaGreatDoordOD
import Derived.Test.YtgoifghhcekahaaGreatDoordTR
import Derived.Test.YtgoifghhcekahaaGreatDoordOG
import Derived.Test.YtgoifghhcekahaaGreatDoordOC
import Derived.Test.YtgoifghhcekahaaGreatDoordVC
import Derived.Test.YtgoifghhcekahaaGreatDoordOM
import Derived.Test.YtgoifghhcekahaaGreatDoordOX
namespace Go.Proofs.YtgoifghhcekahaaGreatDoor
noncomputable section
open Go Go.RowKit
set_option linter.unusedVariables false
set_option linter.unusedSimpArgs false
set_option maxRecDepth 20000
abbrev ri : Rp Int := Rp.int .i64
abbrev ca_ := Calls Tryz.prog
abbrev pp (b : Nat) : Value := .pointer (some ⟨b, 0, none⟩)
abbrev sy (Y : Nat → Prop) (w0 : World) := Stw ⟨Y, [], w0⟩
abbrev lb_ := List UInt8
theorem nl {α : Type _} {l : List α} : List.Sublist [] l := List.nil_sublist _
theorem sr {α : Type _} {l : List α} : List.Sublist l l := List.Sublist.refl _
theorem sc {α : Type _} {a : α} {l m : List α} (h : List.Sublist l m) : List.Sublist (a :: l) (a :: m) := List.Sublist.cons_cons _ h
def cK : Tt := ([(25, [(0, false, 1), (1, false, 1), (2, false, 1)]), (28, [(0, false, 1), (1, false, 1), (2, false, 1), (3, false, 1)]), (31, [(0, false, 1), (1, true, 4), (5, false, 1), (6, false, 1), (7, false, 1)]), (36, [(0, false, 1), (1, false, 1), (2, false, 1), (3, false, 1)]), (39, [(0, false, 1), (1, true, 4), (5, false, 1), (6, false, 1), (7, false, 1)]), (78, [(0, false, 1), (1, false, 1), (2, false, 1), (3, false, 1), (4, false, 1), (5, false, 1)]), (82, [(0, false, 1), (1, false, 1)]), (92, [(0, false, 1)]), (107, [(0, false, 1)]), (118, [(0, false, 1), (1, false, 1)])], [(3, false, 1), (22, false, 1), (23, false, 1), (25, true, 3), (26, false, 1), (28, true, 4), (29, false, 1), (31, true, 8), (34, false, 1), (36, true, 4), (37, false, 1), (39, true, 8), (118, true, 2), (177, false, 1)])
theorem tk : TtOk Tryz.prog cK := ⟨by kernel_rfl, by kernel_rfl⟩
theorem Nk : type_of% Tryz.underlying26 := Tryz.underlying26
theorem Nc : type_of% Tryz.underlying28 := Tryz.underlying28
abbrev IP : Rp (Int × Int × Int × Int × Int × Int) := (Rp.pair ri (Rp.pair ri (Rp.pair ri (Rp.pair ri (Rp.pair ri ri)))))
abbrev Jj : Rp (Int × Int) := (Rp.pair ri ri)
inductive Tr28 : Type where
  | mk : Int → Int → Int → (List Tr28) → Tr28
def Tr28.un : Tr28 → Int × Int × Int × List Tr28
  | .mk a0 a1 a2 a3 => (a0, a1, a2, a3)
abbrev Tr28.of (p : Int × Int × Int × List Tr28) : Tr28 := .mk p.1 p.2.1 p.2.2.1 p.2.2.2
def Tr28.cnt : Tr28 → Nat
  | .mk _ _ _ a3 => 1 + ((a3.map Tr28.cnt).sum)
inductive Tr31 : Type where
  | mk : Int → Tr28 → Int → Int → (List Tr31) → Tr31
def Tr31.un : Tr31 → Int × Tr28 × Int × Int × List Tr31
  | .mk a0 a1 a2 a3 a4 => (a0, a1, a2, a3, a4)
abbrev Tr31.of (p : Int × Tr28 × Int × Int × List Tr31) : Tr31 := .mk p.1 p.2.1 p.2.2.1 p.2.2.2.1 p.2.2.2.2
def Tr31.cnt : Tr31 → Nat
  | .mk _ a1 _ _ a4 => 1 + (a1.cnt + (a4.map Tr31.cnt).sum)
abbrev Xj (r : Rp Tr28) : Rp (Int × Int × Int × List Tr28) := (Rp.pair ri (Rp.pair ri (Rp.pair ri (Rp.slice r))))
theorem UY : Kt Xj := (Kt.pair (Kt.const _) (Kt.pair (Kt.const _) (Kt.pair (Kt.const _) Kt.hole)))
abbrev B0 : Rp Tr28 := Rp.knot Xj Tr28.un UY
theorem RL {w : World} {A : Nat → Prop} {cs : List Value} {a : Tr28} : B0.rep w A cs a ↔ (Xj B0).rep w A cs a.un := HP UY
abbrev Xy (r : Rp Tr31) : Rp (Int × Tr28 × Int × Int × List Tr31) := (Rp.pair ri (Rp.pair B0 (Rp.pair ri (Rp.pair ri (Rp.slice r)))))
theorem Wg : Kt Xy := (Kt.pair (Kt.const _) (Kt.pair (Kt.const _) (Kt.pair (Kt.const _) (Kt.pair (Kt.const _) Kt.hole))))
abbrev Dw : Rp Tr31 := Rp.knot Xy Tr31.un Wg
theorem Ug {w : World} {A : Nat → Prop} {cs : List Value} {a : Tr31} : Dw.rep w A cs a ↔ (Xy Dw).rep w A cs a.un := HP Wg
abbrev Ia : Rp (Int × Int × Int × (Value × List Tr28)) := (Rp.pair ri (Rp.pair ri (Rp.pair ri (Rp.vsl B0))))
abbrev Zj (p : Int × Int × Int × (Value × List Tr28)) : Tr28 := (Tr28.of (p.1, p.2.1, p.2.2.1, p.2.2.2.2))
theorem CA : Ex B0 Ia Zj := (Ex.knot UY (of := Tr28.of) (fun _ => rfl) (fun x => by cases x; rfl) (Ex.pair Ex.rfl' (Ex.pair Ex.rfl' (Ex.pair Ex.rfl' Ex.sliceF))))
abbrev Jq : Rp (Int × (Int × Int × Int × (Value × List Tr28)) × Int × Int × (Value × List Tr31)) := (Rp.pair ri (Rp.pair Ia (Rp.pair ri (Rp.pair ri (Rp.vsl Dw)))))
abbrev Zd (p : Int × (Int × Int × Int × (Value × List Tr28)) × Int × Int × (Value × List Tr31)) : Tr31 := (Tr31.of (p.1, (Tr28.of (p.2.1.1, p.2.1.2.1, p.2.1.2.2.1, p.2.1.2.2.2.2)), p.2.2.1, p.2.2.2.1, p.2.2.2.2.2))
theorem D3 : Ex Dw Jq Zd := (Ex.knot Wg (of := Tr31.of) (fun _ => rfl) (fun x => by cases x; rfl) (Ex.pair Ex.rfl' (Ex.pair (Ex.knot UY (of := Tr28.of) (fun _ => rfl) (fun x => by cases x; rfl) (Ex.pair Ex.rfl' (Ex.pair Ex.rfl' (Ex.pair Ex.rfl' Ex.sliceF)))) (Ex.pair Ex.rfl' (Ex.pair Ex.rfl' Ex.sliceF)))))
theorem XA : Ty Tryz.prog 25 true 3 := ⟨by kernel_rfl, by kernel_rfl⟩
theorem Ji : Ty Tryz.prog 31 true 8 := ⟨by kernel_rfl, by kernel_rfl⟩
theorem YU : Ty Tryz.prog 23 false 1 := ⟨by kernel_rfl, by kernel_rfl⟩
theorem T3 : Ty Tryz.prog 3 false 1 := ⟨by kernel_rfl, by kernel_rfl⟩
theorem I2 : Ty Tryz.prog 28 true 4 := ⟨by kernel_rfl, by kernel_rfl⟩
theorem VO : Ty Tryz.prog 26 false 1 := ⟨by kernel_rfl, by kernel_rfl⟩
abbrev HZ (a : Int × Int × Int × (Value × List Tr28)) : List Value := [Jint a.1, Jint a.2.1, Jint a.2.2.1, a.2.2.2.1]
theorem Oi : Fv Ia HZ := (Fv.pair Fl.int.to (Fv.pair Fl.int.to (Fv.pair Fl.int.to Fv.vsl)))
theorem Se : Et Tryz.prog 26 28 4 48 := Et.of Nk (by kernel_rfl) (by kernel_rfl) (by kernel_rfl) (by decide)
theorem ZF : Has Tryz.prog 48 := BM Tryz.func48
abbrev Jp (a0 : Tr28) (a1 : Value) : List Value := [Jint a0.un.1, Jint a0.un.2.1, Jint a0.un.2.2.1, a1]
abbrev Js (a0 : Nat) (a1 : Tr28) (a2 : Value) : List (Nat × List Value) := [(a0, [Jint a1.un.1, Jint a1.un.2.1, Jint a1.un.2.2.1, a2])]
def DO (fRec : Tr28 → Option Int) (p0 : Tr28) : (Int × Int) → Option ((Int × Int) ⊕ Int)
  | (x2, x3) => (if x3 < (p0.un.2.2.2.length : Int) then (ix p0.un.2.2.2 x3).bind fun x4 => (fRec x4).bind fun x5 => some (.inl (AJ (x2 + x5), AJ (x3 + 1))) else some (.inr x2))
def EZ (fRec : Tr28 → Option Int) (p0 : Tr28) : Option Int := (AB (DO fRec p0) (1, 0)).bind fun x1 => some x1
def Ej : Nat → Tr28 → Option Int
  | 0 => fun _ => none
  | n + 1 => EZ (Ej n)
def Jv (p0 : Tr28) : Option Int := FT fun n => Ej n p0
theorem Qg (fRec : Tr28 → Option Int) (ih : ∀ (Y : Nat → Prop) (w0 : World) (v1 : Value) (p0 : Tr28) (r : Int) (H : fRec p0 = some r) (h_v1 : Sl w0 (NX []) B0 v1 p0.un.2.2.2), ca_ 48 #[.agg #[Jint p0.un.1, Jint p0.un.2.1, Jint p0.un.2.2.1, v1]] w0 fun e w' => e = .returned (Jint r) ∧ Below w0.heap.size w0 w') (Y : Nat → Prop) (w0 : World) (v1 : Value) (p0 : Tr28) (r : Int) (H : EZ fRec p0 = some r) (h_v1 : Sl w0 (NX []) B0 v1 p0.un.2.2.2) :
    ca_ 48 #[.agg #[Jint p0.un.1, Jint p0.un.2.1, Jint p0.un.2.2.1, v1]] w0 fun e w' => e = .returned (Jint r) ∧ Below w0.heap.size w0 w' := by
 refine enter Tryz.func48 Aa Tryz.ntmps48 Aa fun a W => ?_
 have F := Stw.start Y w0
 obtain ⟨v2, h1, h_v1⟩ := h_v1.ex CA
 unfold EZ at H
 refine vc tk 2 W F fun a w W F => ?_
 refine BQ (cs := (Jp p0 v1)) W F Aa Aa Aa fun b1 a w W F => ?_
 refine Bo tk 8 W F fun a w W F => ?_
 obtain ⟨o1, G1, K1⟩ := Af H
 refine Ap (fun a w => ∃ x1 : Int, some (x1) = some o1 ∧ Fr 21 [] [(2, Jint 0), (3, Jint x1)] a ∧ sy Y w0 (Js b1 p0 v1) [] w) ?_ ?_
 ·
  have H := G1
  clear G1 K1
  refine vc tk 6 W F fun a w W F => ?_
  refine AQ H (fun s a w => Fr 21 [] [(1, pp b1), (2, Jint 0), (3, Jint s.1), (4, Jint s.2)] a ∧ sy Y w0 (Js b1 p0 v1) [] w) ⟨W.ra Aa, F⟩ fun s o a w H L2 hR => ?_
  obtain ⟨x2, x3⟩ := s
  obtain ⟨W, F⟩ := hR
  have W : Fr 21 [] [(1, pp b1), (2, Jint 0), (3, Jint x2), (4, Jint x3)] a := W
  have F : sy Y w0 (Js b1 p0 v1) [] w := F
  rw [DO] at H
  refine CT tk 6 [0] W F (ai fun a w W F => ?_)
  refine ls W F Aa (Bz (r := B0) (l := p0.un.2.2.2) Nk Aa W Aa (Al CA h1 (Ae h_v1))).q fun a w W F => ?_
  refine Bo tk 3 W F fun a w W F => ?_
  refine A1 W Aa H (fun W H => ?_) fun W H => ?_
  ·
   refine Hr tk 9 [0] W F (ai fun a w W F => ?_)
   obtain ⟨x4, h2, H⟩ := Af H
   obtain ⟨v3, h3, h4⟩ := CS h1 h2
   have h5 : HZ v3 = [Jint x4.un.1, Jint x4.un.2.1, Jint x4.un.2.2.1, (v3.2.2.2.1)] := congrArg (fun q : Tr28 => ([Jint q.un.1, Jint q.un.2.1, Jint q.un.2.2.1, (v3.2.2.2.1)] : List Value)) h4
   refine ls W F Aa (Au (r := Ia) Se W Aa Aa (Ae h_v1) h3).q fun a w W F => ?_
   refine ls W F Aa (Aj (y := Value.agg #[Jint x4.un.1, Jint x4.un.2.1, Jint x4.un.2.2.1, (v3.2.2.2.1)]) (j := 0) (i := x3) (enc := HZ) W Aa Aa (Ae h_v1) h3 Oi I2 (by rw [h5]; rfl)).q fun a w W F => ?_
   obtain ⟨x5, h6, H⟩ := Af H
   refine ls W F Aa (AA (v := Jint x5) W ZF Aa (fun w F => ih any w ((v3.2.2.2.1)) x4 _ h6 (Cl (Bf (Ae h_v1) h3 (Ag.snd (Ag.snd (Ag.snd Ag.here))) (congrArg (fun q : Tr28 => q.un.2.2.2) h4)) F))) fun a w W F => ?_
   refine vl tk 3 W F fun a w W F => ?_
   refine Az ?_
   refine vn tk 5 W F fun a w W F => ?_
   refine Ab ?_
   exact ⟨_, H, W.ra Aa, F⟩
  refine AN ?_
  iterate 2 refine A6 ?_
  refine AP (Ab ?_)
  have H := L2 _ H
  exact ⟨_, H, W.ra Aa, F⟩
 rintro a w ⟨x1, hj, W, F⟩
 have hj := Ay hj
 subst hj
 have H := K1
 clear G1 K1
 refine vc tk 6 W F fun a w W F => ?_
 refine Ah ?_
 have H := Ay H
 subst H
 refine Av (.inl Aa) W F Aa (Am W Aa) ?_
 exact ⟨rfl, F.done⟩
theorem RM : ∀ (n : Nat) (Y : Nat → Prop) (w0 : World) (v1 : Value) (p0 : Tr28) (r : Int) (H : Ej n p0 = some r) (h_v1 : Sl w0 (NX []) B0 v1 p0.un.2.2.2), ca_ 48 #[.agg #[Jint p0.un.1, Jint p0.un.2.1, Jint p0.un.2.2.1, v1]] w0 fun e w' => e = .returned (Jint r) ∧ Below w0.heap.size w0 w' := by
  intro n
  induction n with
  | zero => intro Y w0 v1 p0 r H; exact nomatch H
  | succ n ih => intro Y w0 v1 p0 r H h_v1; exact Qg (Ej n) ih Y w0 v1 p0 r H h_v1
theorem OW (Y : Nat → Prop) (w0 : World) (v1 : Value) (p0 : Tr28) (r : Int) (H : Jv p0 = some r) (h_v1 : Sl w0 (NX []) B0 v1 p0.un.2.2.2) :
    ca_ 48 #[.agg #[Jint p0.un.1, Jint p0.un.2.1, Jint p0.un.2.2.1, v1]] w0 fun e w' => e = .returned (Jint r) ∧ Below w0.heap.size w0 w' := by
  obtain ⟨n, H⟩ := BP H
  exact RM n Y w0 v1 p0 r H h_v1
theorem NS : type_of% Tryz.underlying29 := Tryz.underlying29
theorem Ii : type_of% Tryz.underlying31 := Tryz.underlying31
theorem PE : Ty Tryz.prog 29 false 1 := ⟨by kernel_rfl, by kernel_rfl⟩
abbrev GH (a : Int × (Int × Int × Int × (Value × List Tr28)) × Int × Int × (Value × List Tr31)) : List Value := [Jint a.1, Jint a.2.1.1, Jint a.2.1.2.1, Jint a.2.1.2.2.1, a.2.1.2.2.2.1, Jint a.2.2.1, Jint a.2.2.2.1, a.2.2.2.2.1]
theorem LH : Fv Jq GH := (Fv.pair Fl.int.to (Fv.pair (Fv.pair Fl.int.to (Fv.pair Fl.int.to (Fv.pair Fl.int.to Fv.vsl))) (Fv.pair Fl.int.to (Fv.pair Fl.int.to Fv.vsl))))
theorem Qx : Et Tryz.prog 29 31 8 96 := Et.of NS (by kernel_rfl) (by kernel_rfl) (by kernel_rfl) (by decide)
theorem ZO : Has Tryz.prog 33 := BM Tryz.func33
abbrev EA (a0 : Tr31) (a1 : Value) (a2 : Value) : List Value := [Jint a0.un.1, Jint a0.un.2.1.un.1, Jint a0.un.2.1.un.2.1, Jint a0.un.2.1.un.2.2.1, a1, Jint a0.un.2.2.1, Jint a0.un.2.2.2.1, a2]
abbrev Ft (a0 : Nat) (a1 : Tr31) (a2 : Value) (a3 : Value) : List (Nat × List Value) := [(a0, [Jint a1.un.1, Jint a1.un.2.1.un.1, Jint a1.un.2.1.un.2.1, Jint a1.un.2.1.un.2.2.1, a2, Jint a1.un.2.2.1, Jint a1.un.2.2.2.1, a3])]
def DN (fRec : Tr31 → Option Int) (p0 : Tr31) : (Int × Int) → Option ((Int × Int) ⊕ Int)
  | (x4, x5) => (if x5 < (p0.un.2.2.2.2.length : Int) then (ix p0.un.2.2.2.2 x5).bind fun x6 => (fRec (Tr31.of (x6.un.1, Tr28.of (x6.un.2.1.un.1, x6.un.2.1.un.2.1, x6.un.2.1.un.2.2.1, x6.un.2.1.un.2.2.2), x6.un.2.2.1, x6.un.2.2.2.1, x6.un.2.2.2.2))).bind fun x7 => some (.inl (AJ (x4 + x7), AJ (x5 + 1))) else some (.inr x4))
def E2 (fRec : Tr31 → Option Int) (p0 : Tr31) : Option Int := (if (decide (p0.un.1 < 2) || decide (4 < p0.un.1)) = true then (Jv (Tr28.of (p0.un.2.1.un.1, p0.un.2.1.un.2.1, p0.un.2.1.un.2.2.1, p0.un.2.1.un.2.2.2))).bind fun x2 => some (AJ (1 + x2)) else some 1).bind fun x1 => (AB (DN fRec p0) (x1, 0)).bind fun x3 => some x3
def El : Nat → Tr31 → Option Int
  | 0 => fun _ => none
  | n + 1 => E2 (El n)
def Lp (p0 : Tr31) : Option Int := FT fun n => El n p0
theorem Qf (fRec : Tr31 → Option Int) (ih : ∀ (Y : Nat → Prop) (w0 : World) (v1 : Value) (v2 : Value) (p0 : Tr31) (r : Int) (H : fRec p0 = some r) (h_v1 : Sl w0 (NX []) B0 v1 p0.un.2.1.un.2.2.2) (h_v2 : Sl w0 (NX []) Dw v2 p0.un.2.2.2.2), ca_ 33 #[.agg #[Jint p0.un.1, Jint p0.un.2.1.un.1, Jint p0.un.2.1.un.2.1, Jint p0.un.2.1.un.2.2.1, v1, Jint p0.un.2.2.1, Jint p0.un.2.2.2.1, v2]] w0 fun e w' => e = .returned (Jint r) ∧ Below w0.heap.size w0 w') (Y : Nat → Prop) (w0 : World) (v1 : Value) (v2 : Value) (p0 : Tr31) (r : Int) (H : E2 fRec p0 = some r) (h_v1 : Sl w0 (NX []) B0 v1 p0.un.2.1.un.2.2.2) (h_v2 : Sl w0 (NX []) Dw v2 p0.un.2.2.2.2) :
    ca_ 33 #[.agg #[Jint p0.un.1, Jint p0.un.2.1.un.1, Jint p0.un.2.1.un.2.1, Jint p0.un.2.1.un.2.2.1, v1, Jint p0.un.2.2.1, Jint p0.un.2.2.2.1, v2]] w0 fun e w' => e = .returned (Jint r) ∧ Below w0.heap.size w0 w' := by
 refine enter Tryz.func33 Aa Tryz.ntmps33 Aa fun a W => ?_
 have F := Stw.start Y w0
 obtain ⟨v3, h1, h_v1⟩ := h_v1.ex CA
 obtain ⟨v4, h2, h_v2⟩ := h_v2.ex D3
 unfold E2 at H
 refine vc tk 2 W F fun a w W F => ?_
 refine BQ (cs := (EA p0 v1 v2)) W F Aa Aa Aa fun b1 a w W F => ?_
 refine Bo tk 8 W F fun a w W F => ?_
 obtain ⟨o1, G1, K1⟩ := Af H
 refine Ap (fun a w => ∃ x1 : Int, some (x1) = some o1 ∧ Fr 34 [] [(1, pp b1), (2, Jint 0), (3, Jint x1)] a ∧ sy Y w0 (Ft b1 p0 v1 v2) [] w) ?_ ?_
 ·
  have H := G1
  clear G1 K1
  refine Ap (fun a w => Fr 34 [] [(1, pp b1), (2, Jint 0), (3, Jint 1), (12, .bool (decide (p0.un.1 < 2) || decide (4 < p0.un.1)))] a ∧ sy Y w0 (Ft b1 p0 v1 v2) [] w) ?_ ?_
  ·
   refine CT tk 5 [0] W F (ai fun a w W F => ?_)
   rcases bxq (decide (p0.un.1 < 2)) with hb0 | hb0
   ·
    rw [hb0] at W
    refine vl tk 5 W F fun a w W F => ?_
    refine Ab ?_
    exact ⟨W.re ⟨rfl, Aa, Aa, (CL (by try rw [hb0]; all_goals simp only [CM])), trivial⟩, F⟩
   rw [hb0] at W
   refine DU tk 5 [0] W F (ai fun a w W F => ?_)
   refine Ab ?_
   exact ⟨W.re ⟨rfl, Aa, Aa, (CL (by try rw [hb0]; all_goals simp only [CM])), trivial⟩, F⟩
  rintro a w ⟨W, F⟩
  refine Bi W Aa H (fun W H => ?_) fun W H => ?_
  ·
   refine CT tk 4 [0] W F (ai fun a w W F => ?_)
   obtain ⟨x2, h3, H⟩ := Af H
   refine ls W F Aa (AA (v := Jint x2) W ZF Aa (fun w F => OW any w (v1) (Tr28.of (p0.un.2.1.un.1, p0.un.2.1.un.2.1, p0.un.2.1.un.2.2.1, p0.un.2.1.un.2.2.2)) _ h3 (Cl (Al CA h1 (Ae h_v1)) F))) fun a w W F => ?_
   refine vl tk 3 W F fun a w W F => ?_
   refine Ab ?_
   exact ⟨_, H, W.ra Aa, F⟩
  refine AD (Ab ?_)
  exact ⟨_, H, W.ra Aa, F⟩
 rintro a w ⟨x1, hj, W, F⟩
 have hj := Ay hj
 subst hj
 have H := K1
 clear G1 K1
 obtain ⟨o2, G2, K2⟩ := Af H
 refine Ap (fun a w => ∃ x3 : Int, some (x3) = some o2 ∧ Fr 34 [] [(2, Jint 0), (3, Jint x3)] a ∧ sy Y w0 (Ft b1 p0 v1 v2) [] w) ?_ ?_
 ·
  have H := G2
  clear G2 K2
  refine vc tk 6 W F fun a w W F => ?_
  refine AQ H (fun s a w => Fr 34 [] [(1, pp b1), (2, Jint 0), (3, Jint s.1), (4, Jint s.2)] a ∧ sy Y w0 (Ft b1 p0 v1 v2) [] w) ⟨W.ra Aa, F⟩ fun s o a w H L3 hR => ?_
  obtain ⟨x4, x5⟩ := s
  obtain ⟨W, F⟩ := hR
  have W : Fr 34 [] [(1, pp b1), (2, Jint 0), (3, Jint x4), (4, Jint x5)] a := W
  have F : sy Y w0 (Ft b1 p0 v1 v2) [] w := F
  rw [DN] at H
  refine CT tk 6 [0] W F (ai fun a w W F => ?_)
  refine ls W F Aa (Bz (r := Dw) (l := p0.un.2.2.2.2) NS Aa W Aa (Al D3 h2 (Ae h_v2))).q fun a w W F => ?_
  refine Bo tk 3 W F fun a w W F => ?_
  refine A1 W Aa H (fun W H => ?_) fun W H => ?_
  ·
   refine Hr tk 9 [0] W F (ai fun a w W F => ?_)
   obtain ⟨x6, h4, H⟩ := Af H
   obtain ⟨v5, h5, h6⟩ := CS h2 h4
   have h7 : GH v5 = [Jint x6.un.1, Jint x6.un.2.1.un.1, Jint x6.un.2.1.un.2.1, Jint x6.un.2.1.un.2.2.1, (v5.2.1.2.2.2.1), Jint x6.un.2.2.1, Jint x6.un.2.2.2.1, (v5.2.2.2.2.1)] := congrArg (fun q : Tr31 => ([Jint q.un.1, Jint q.un.2.1.un.1, Jint q.un.2.1.un.2.1, Jint q.un.2.1.un.2.2.1, (v5.2.1.2.2.2.1), Jint q.un.2.2.1, Jint q.un.2.2.2.1, (v5.2.2.2.2.1)] : List Value)) h6
   refine ls W F Aa (Au (r := Jq) Qx W Aa Aa (Ae h_v2) h5).q fun a w W F => ?_
   refine ls W F Aa (Aj (y := Value.agg #[Jint x6.un.1, Jint x6.un.2.1.un.1, Jint x6.un.2.1.un.2.1, Jint x6.un.2.1.un.2.2.1, (v5.2.1.2.2.2.1), Jint x6.un.2.2.1, Jint x6.un.2.2.2.1, (v5.2.2.2.2.1)]) (j := 0) (i := x5) (enc := GH) W Aa Aa (Ae h_v2) h5 LH Ji (by rw [h7]; rfl)).q fun a w W F => ?_
   obtain ⟨x7, h8, H⟩ := Af H
   refine ls W F Aa (AA (v := Jint x7) W ZO Aa (fun w F => ih any w ((v5.2.1.2.2.2.1)) ((v5.2.2.2.2.1)) (Tr31.of (x6.un.1, Tr28.of (x6.un.2.1.un.1, x6.un.2.1.un.2.1, x6.un.2.1.un.2.2.1, x6.un.2.1.un.2.2.2), x6.un.2.2.1, x6.un.2.2.2.1, x6.un.2.2.2.2)) _ h8 (Cl (Bf (Ae h_v2) h5 (Ag.snd (Ag.fst (Ag.snd (Ag.snd (Ag.snd Ag.here))))) (congrArg (fun q : Tr31 => q.un.2.1.un.2.2.2) h6)) F) (Cl (Bf (Ae h_v2) h5 (Ag.snd (Ag.snd (Ag.snd (Ag.snd Ag.here)))) (congrArg (fun q : Tr31 => q.un.2.2.2.2) h6)) F))) fun a w W F => ?_
   refine vl tk 3 W F fun a w W F => ?_
   refine Az ?_
   refine vn tk 5 W F fun a w W F => ?_
   refine Ab ?_
   exact ⟨_, H, W.ra Aa, F⟩
  refine AN ?_
  iterate 2 refine A6 ?_
  refine AP (Ab ?_)
  have H := L3 _ H
  exact ⟨_, H, W.ra Aa, F⟩
 rintro a w ⟨x3, hj, W, F⟩
 have hj := Ay hj
 subst hj
 have H := K2
 clear G2 K2
 refine vc tk 6 W F fun a w W F => ?_
 refine Ah ?_
 have H := Ay H
 subst H
 refine Av (.inl Aa) W F Aa (Am W Aa) ?_
 exact ⟨rfl, F.done⟩
theorem Ri : ∀ (n : Nat) (Y : Nat → Prop) (w0 : World) (v1 : Value) (v2 : Value) (p0 : Tr31) (r : Int) (H : El n p0 = some r) (h_v1 : Sl w0 (NX []) B0 v1 p0.un.2.1.un.2.2.2) (h_v2 : Sl w0 (NX []) Dw v2 p0.un.2.2.2.2), ca_ 33 #[.agg #[Jint p0.un.1, Jint p0.un.2.1.un.1, Jint p0.un.2.1.un.2.1, Jint p0.un.2.1.un.2.2.1, v1, Jint p0.un.2.2.1, Jint p0.un.2.2.2.1, v2]] w0 fun e w' => e = .returned (Jint r) ∧ Below w0.heap.size w0 w' := by
  intro n
  induction n with
  | zero => intro Y w0 v1 v2 p0 r H; exact nomatch H
  | succ n ih => intro Y w0 v1 v2 p0 r H h_v1 h_v2; exact Qf (El n) ih Y w0 v1 v2 p0 r H h_v1 h_v2
theorem Ol (Y : Nat → Prop) (w0 : World) (v1 : Value) (v2 : Value) (p0 : Tr31) (r : Int) (H : Lp p0 = some r) (h_v1 : Sl w0 (NX []) B0 v1 p0.un.2.1.un.2.2.2) (h_v2 : Sl w0 (NX []) Dw v2 p0.un.2.2.2.2) :
    ca_ 33 #[.agg #[Jint p0.un.1, Jint p0.un.2.1.un.1, Jint p0.un.2.1.un.2.1, Jint p0.un.2.1.un.2.2.1, v1, Jint p0.un.2.2.1, Jint p0.un.2.2.2.1, v2]] w0 fun e w' => e = .returned (Jint r) ∧ Below w0.heap.size w0 w' := by
  obtain ⟨n, H⟩ := BP H
  exact Ri n Y w0 v1 v2 p0 r H h_v1 h_v2
theorem Py : type_of% Tryz.underlying22 := Tryz.underlying22
theorem QV : type_of% Tryz.underlying23 := Tryz.underlying23
theorem Xi : type_of% Tryz.underlying25 := Tryz.underlying25
abbrev TZ (a0 : Nat) (a1 : Tr31) (a2 : Value) (a3 : Value) (a4 : Nat) (a5 : Int × (List (Int × Int × Int × Int × Int × Int)) × (List (Int × Int))) (a6 : Value) (a7 : Value) : List (Nat × List Value) := [(a0, [Jint a1.un.1, Jint a1.un.2.1.un.1, Jint a1.un.2.1.un.2.1, Jint a1.un.2.1.un.2.2.1, a2, Jint a1.un.2.2.1, Jint a1.un.2.2.2.1, a3]), (a4, [Jint a5.1, a6, a7])]
def IZ (p0 : Int × (List (Int × Int × Int × Int × Int × Int)) × (List (Int × Int))) (p1 : Tr31) : Option Bool := (if (p0.2.1.length : Int) ≤ 30 then (if (p0.2.2.length : Int) ≤ 12 then (Lp (Tr31.of (p1.un.1, Tr28.of (p1.un.2.1.un.1, p1.un.2.1.un.2.1, p1.un.2.1.un.2.2.1, p1.un.2.1.un.2.2.2), p1.un.2.2.1, p1.un.2.2.2.1, p1.un.2.2.2.2))).bind fun x2 => some (decide (x2 ≤ 150)) else some false) else some false).bind fun x1 => some x1
theorem R4 (Y : Nat → Prop) (w0 : World) (v1 : Value) (v2 : Value) (v3 : Value) (v4 : Value) (p0 : Int × (List (Int × Int × Int × Int × Int × Int)) × (List (Int × Int))) (p1 : Tr31) (r : Bool) (H : IZ p0 p1 = some r) (h_v1 : Sl w0 (NX []) IP v1 p0.2.1) (h_v2 : Sl w0 (NX []) Jj v2 p0.2.2) (h_v3 : Sl w0 (NX []) B0 v3 p1.un.2.1.un.2.2.2) (h_v4 : Sl w0 (NX []) Dw v4 p1.un.2.2.2.2) :
    ca_ 6 #[.agg #[Jint p0.1, v1, v2], .agg #[Jint p1.un.1, Jint p1.un.2.1.un.1, Jint p1.un.2.1.un.2.1, Jint p1.un.2.1.un.2.2.1, v3, Jint p1.un.2.2.1, Jint p1.un.2.2.2.1, v4]] w0 fun e w' => e = .returned (.bool r) ∧ Below w0.heap.size w0 w' := by
 refine enter Tryz.func6 Aa Tryz.ntmps6 Aa fun a W => ?_
 have F := Stw.start Y w0
 obtain ⟨v5, h1, h_v3⟩ := h_v3.ex CA
 obtain ⟨v6, h2, h_v4⟩ := h_v4.ex D3
 unfold IZ at H
 refine vc tk 2 W F fun a w W F => ?_
 refine BQ (cs := [Jint p0.1, v1, v2]) W F Aa Aa Aa fun b1 a w W F => ?_
 refine BQ (cs := (EA p1 v3 v4)) W F Aa Aa Aa fun b2 a w W F => ?_
 refine vl tk 2 W F fun a w W F => ?_
 refine Ab ?_
 obtain ⟨o1, G1, K1⟩ := Af H
 refine Ap (fun a w => ∃ x1 : Bool, some (x1) = some o1 ∧ Fr 20 [] [(4, .bool x1)] a ∧ sy Y w0 (TZ b2 p1 v3 v4 b1 p0 v1 v2) [] w) ?_ ?_
 ·
  have H := G1
  clear G1 K1
  refine CT tk 3 [1] W F (ai fun a w W F => ?_)
  refine ls W F Aa (Bz (r := IP) (l := p0.2.1) Py Aa W Aa (Ae h_v1)).q fun a w W F => ?_
  refine vl tk 2 W F fun a w W F => ?_
  rcases bxq (decide ((p0.2.1.length : Int) ≤ 30)) with hb | hb
  ·
   have H := BB (B4 hb) H
   rw [hb] at W
   clear hb
   refine DU tk 2 [1] W F (ai fun a w W F => ?_)
   refine Dy W F (Ad W Aa Aa Aa Aa) Aa (As Aa) (Bz (r := Jj) (l := p0.2.2) QV Aa W Aa (Ae h_v2)).q fun a w W F => ?_
   refine vl tk 3 W F fun a w W F => ?_
   rcases bxq (decide ((p0.2.2.length : Int) ≤ 12)) with hb | hb
   ·
    have H := BB (B4 hb) H
    rw [hb] at W
    clear hb
    refine Dy W F (Ad W Aa Aa Aa Aa) Aa (As Aa) (Bk (v := Value.agg #[Jint p1.un.1, Jint p1.un.2.1.un.1, Jint p1.un.2.1.un.2.1, Jint p1.un.2.1.un.2.2.1, v3, Jint p1.un.2.2.1, Jint p1.un.2.2.2.1, v4]) 0 W Aa Aa Ji Aa).q fun a w W F => ?_
    refine FU (Ad W Aa Aa Aa Aa) ?_
    obtain ⟨x2, h3, H⟩ := Af H
    refine ls W F Aa (AA (v := Jint x2) W ZO Aa (fun w F => Ol any w (v3) (v4) (Tr31.of (p1.un.1, Tr28.of (p1.un.2.1.un.1, p1.un.2.1.un.2.1, p1.un.2.1.un.2.2.1, p1.un.2.1.un.2.2.2), p1.un.2.2.1, p1.un.2.2.2.1, p1.un.2.2.2.2)) _ h3 (Cl (Al CA h1 (Ae h_v3)) F) (Cl (Al D3 h2 (Ae h_v4)) F))) fun a w W F => ?_
    refine vl tk 4 W F fun a w W F => ?_
    refine Ab ?_
    have F := F.frontM (i := 1) Aa Aa
    have F := F.frontM (i := 1) Aa Aa
    exact ⟨_, H, W.ra Aa, F⟩
   have H := BC (B1 hb) H
   rw [hb] at W
   clear hb
   refine vl tk 6 W F fun a w W F => ?_
   refine Ab ?_
   have F := F.frontM (i := 1) Aa Aa
   have F := F.frontM (i := 1) Aa Aa
   exact ⟨_, H, W.ra Aa, F⟩
  have H := BC (B1 hb) H
  rw [hb] at W
  clear hb
  refine vl tk 12 W F fun a w W F => ?_
  refine Ab ?_
  have F := F.frontM (i := 1) Aa Aa
  have F := F.frontM (i := 1) Aa Aa
  exact ⟨_, H, W.ra Aa, F⟩
 rintro a w ⟨x1, hj, W, F⟩
 have hj := Ay hj
 subst hj
 have H := K1
 clear G1 K1
 refine Ah ?_
 have H := Ay H
 subst H
 refine Av (.inl Aa) W F Aa (Am W Aa) ?_
 exact ⟨rfl, F.done⟩
theorem IU : type_of% Tryz.underlying34 := Tryz.underlying34
theorem Mi : type_of% Tryz.underlying36 := Tryz.underlying36
theorem Ih : type_of% Tryz.underlying39 := Tryz.underlying39
theorem H6 : Has Tryz.prog 6 := BM Tryz.func6
theorem Us : Bt Tryz.prog 36 [Jint 0, Jint 0, Jint 0, .slice none 0 0] [(0, 1), (1, 1), (2, 1), (3, 1)] := ⟨⟨.agg #[Jint 0, Jint 0, Jint 0, .slice none 0 0], by kernel_rfl, rfl⟩, ⟨_, Mi, fun w => by kernel_rfl⟩⟩
theorem Q0 : (Tryz.prog.info? 36).bind (·.zero) = some (.agg #[Jint 0, Jint 0, Jint 0, .slice none 0 0]) := by kernel_rfl
theorem GN : Ty Tryz.prog 36 true 4 := ⟨by kernel_rfl, by kernel_rfl⟩
inductive Tr36 : Type where
  | mk : Int → Int → Int → (List Tr36) → Tr36
def Tr36.un : Tr36 → Int × Int × Int × List Tr36
  | .mk a0 a1 a2 a3 => (a0, a1, a2, a3)
abbrev Tr36.of (p : Int × Int × Int × List Tr36) : Tr36 := .mk p.1 p.2.1 p.2.2.1 p.2.2.2
def Tr36.cnt : Tr36 → Nat
  | .mk _ _ _ a3 => 1 + ((a3.map Tr36.cnt).sum)
abbrev W2 (r : Rp Tr36) : Rp (Int × Int × Int × List Tr36) := (Rp.pair ri (Rp.pair ri (Rp.pair ri (Rp.slice r))))
theorem Wd : Kt W2 := (Kt.pair (Kt.const _) (Kt.pair (Kt.const _) (Kt.pair (Kt.const _) Kt.hole)))
abbrev Bm : Rp Tr36 := Rp.knot W2 Tr36.un Wd
theorem SI {w : World} {A : Nat → Prop} {cs : List Value} {a : Tr36} : Bm.rep w A cs a ↔ (W2 Bm).rep w A cs a.un := HP Wd
theorem PI : Et Tryz.prog 34 36 4 48 := Et.of IU (by kernel_rfl) (by kernel_rfl) (by kernel_rfl) (by decide)
theorem Zq : Bt Tryz.prog 39 [Jint 0, Jint 0, Jint 0, Jint 0, .slice none 0 0, Jint 0, Jint 0, .slice none 0 0] [(0, 1), (1, 4), (5, 1), (6, 1), (7, 1)] := ⟨⟨.agg #[Jint 0, Jint 0, Jint 0, Jint 0, .slice none 0 0, Jint 0, Jint 0, .slice none 0 0], by kernel_rfl, rfl⟩, ⟨_, Ih, fun w => by kernel_rfl⟩⟩
theorem Sv : (Tryz.prog.info? 39).bind (·.zero) = some (.agg #[Jint 0, Jint 0, Jint 0, Jint 0, .slice none 0 0, Jint 0, Jint 0, .slice none 0 0]) := by kernel_rfl
theorem I7 : Ty Tryz.prog 39 true 8 := ⟨by kernel_rfl, by kernel_rfl⟩
inductive Tr39 : Type where
  | mk : Int → Tr36 → Int → Int → (List Tr39) → Tr39
def Tr39.un : Tr39 → Int × Tr36 × Int × Int × List Tr39
  | .mk a0 a1 a2 a3 a4 => (a0, a1, a2, a3, a4)
abbrev Tr39.of (p : Int × Tr36 × Int × Int × List Tr39) : Tr39 := .mk p.1 p.2.1 p.2.2.1 p.2.2.2.1 p.2.2.2.2
def Tr39.cnt : Tr39 → Nat
  | .mk _ a1 _ _ a4 => 1 + (a1.cnt + (a4.map Tr39.cnt).sum)
abbrev Xt (r : Rp Tr39) : Rp (Int × Tr36 × Int × Int × List Tr39) := (Rp.pair ri (Rp.pair Bm (Rp.pair ri (Rp.pair ri (Rp.slice r)))))
theorem WT : Kt Xt := (Kt.pair (Kt.const _) (Kt.pair (Kt.const _) (Kt.pair (Kt.const _) (Kt.pair (Kt.const _) Kt.hole))))
abbrev DF : Rp Tr39 := Rp.knot Xt Tr39.un WT
theorem X7 {w : World} {A : Nat → Prop} {cs : List Value} {a : Tr39} : DF.rep w A cs a ↔ (Xt DF).rep w A cs a.un := HP WT
abbrev HE : Rp (Int × Int × Int × (Value × List Tr36)) := (Rp.pair ri (Rp.pair ri (Rp.pair ri (Rp.vsl Bm))))
abbrev Za (p : Int × Int × Int × (Value × List Tr36)) : Tr36 := (Tr36.of (p.1, p.2.1, p.2.2.1, p.2.2.2.2))
theorem BK : Ex Bm HE Za := (Ex.knot Wd (of := Tr36.of) (fun _ => rfl) (fun x => by cases x; rfl) (Ex.pair Ex.rfl' (Ex.pair Ex.rfl' (Ex.pair Ex.rfl' Ex.sliceF))))
abbrev LM : Rp (Int × (Int × Int × Int × (Value × List Tr36)) × Int × Int × (Value × List Tr39)) := (Rp.pair ri (Rp.pair HE (Rp.pair ri (Rp.pair ri (Rp.vsl DF)))))
abbrev Zx (p : Int × (Int × Int × Int × (Value × List Tr36)) × Int × Int × (Value × List Tr39)) : Tr39 := (Tr39.of (p.1, (Tr36.of (p.2.1.1, p.2.1.2.1, p.2.1.2.2.1, p.2.1.2.2.2.2)), p.2.2.1, p.2.2.2.1, p.2.2.2.2.2))
theorem Er : Ex DF LM Zx := (Ex.knot WT (of := Tr39.of) (fun _ => rfl) (fun x => by cases x; rfl) (Ex.pair Ex.rfl' (Ex.pair (Ex.knot Wd (of := Tr36.of) (fun _ => rfl) (fun x => by cases x; rfl) (Ex.pair Ex.rfl' (Ex.pair Ex.rfl' (Ex.pair Ex.rfl' Ex.sliceF)))) (Ex.pair Ex.rfl' (Ex.pair Ex.rfl' Ex.sliceF)))))
theorem WH : Ty Tryz.prog 34 false 1 := ⟨by kernel_rfl, by kernel_rfl⟩
abbrev He (a : Int × Int × Int × (Value × List Tr36)) : List Value := [Jint a.1, Jint a.2.1, Jint a.2.2.1, a.2.2.2.1]
theorem Mp : Fv HE He := (Fv.pair Fl.int.to (Fv.pair Fl.int.to (Fv.pair Fl.int.to Fv.vsl)))
theorem aI : Has Tryz.prog 22 := BM Tryz.func22
abbrev Is  : List Value := [Jint 0, Jint 0, Jint 0, .slice none 0 0]
abbrev Hl (a0 : Tr36) (a1 : Value) : List Value := [Jint a0.un.1, Jint a0.un.2.1, Jint a0.un.2.2.1, a1]
def Cs (fRec_check_Cut : Tr36 → Int → Option Tr36) (p0 : List Tr36) (p1 : Int) : (List Tr36 × Int) → Option ((List Tr36 × Int) ⊕ (List Tr36))
  | (x2, x3) => (if x3 < (p0.length : Int) then (ix p0 x3).bind fun x4 => (fRec_check_Cut x4 p1).bind fun x5 => (GP x2 ([x5] : List Tr36)).bind fun x6 => some (.inl (x6, AJ (x3 + 1))) else some (.inr x2))
def DD (fRec_check_Cut : Tr36 → Int → Option Tr36) (p0 : List Tr36) (p1 : Int) : Option (List Tr36) := (AB (Cs fRec_check_Cut p0 p1) ([], 0)).bind fun x1 => some x1
theorem NL (fRec_check_Cut : Tr36 → Int → Option Tr36) (ih_check_Cut : ∀ (Y : Nat → Prop) (w0 : World) (v1 : Value) (p0 : Tr36) (p1 : Int) (r : Tr36) (H : fRec_check_Cut p0 p1 = some r) (h_v1 : Sl w0 (NX []) Bm v1 p0.un.2.2.2), ca_ 22 #[.agg #[Jint p0.un.1, Jint p0.un.2.1, Jint p0.un.2.2.1, v1], Jint p1] w0 fun e w' => ∃ x : Value, e = .returned (.agg #[Jint r.un.1, Jint r.un.2.1, Jint r.un.2.2.1, x]) ∧ sy Y w0 [] [Ch (x) Bm r.un.2.2.2] w') (Y : Nat → Prop) (w0 : World) (v1 : Value) (p0 : List Tr36) (p1 : Int) (r : List Tr36) (H : DD fRec_check_Cut p0 p1 = some r) (h_v1 : Sl w0 (NX []) Bm v1 p0) :
    ca_ 50 #[v1, Jint p1] w0 fun e w' => ∃ x : Value, e = .returned (x) ∧ sy Y w0 [] [row (x) 36 Bm r] w' := by
 refine enter Tryz.func50 Aa Tryz.ntmps50 Aa fun a W => ?_
 have F := Stw.start Y w0
 obtain ⟨v2, h1, h_v1⟩ := h_v1.ex BK
 unfold DD at H
 refine vc tk 10 W F fun a w W F => ?_
 obtain ⟨o1, G1, K1⟩ := Af H
 refine Ap (fun a w => ∃ x1 : List Tr36, ∃ v3 : Value, some (x1) = some o1 ∧ Fr 22 [] [(4, .slice none 0 0), (5, v3)] a ∧ sy Y w0 [] [row v3 36 Bm x1] w) ?_ ?_
 ·
  have H := G1
  clear G1 K1
  refine vc tk 3 W F fun a w W F => ?_
  refine ls W F Aa (Bz (r := Bm) (l := p0) IU Aa W Aa (Al BK h1 (Ae h_v1))).q fun a w W F => ?_
  refine Bo tk 4 W F fun a w W F => ?_
  have F := F.nilRow 36 Bm
  refine AQ H (fun s a w => ∃ v4 : Value, Fr 22 [] [(1, Jint p1), (4, .slice none 0 0), (5, v4), (8, v1), (9, Jint (p0.length : Int)), (10, Jint s.2)] a ∧ sy Y w0 [] [row v4 36 Bm s.1] w) ⟨(Value.slice none 0 0), W.ra Aa, F⟩ fun s o a w H L2 hR => ?_
  obtain ⟨x2, x3⟩ := s
  obtain ⟨v4, W, F⟩ := hR
  have W : Fr 22 [] [(1, Jint p1), (4, .slice none 0 0), (5, v4), (8, v1), (9, Jint (p0.length : Int)), (10, Jint x3)] a := W
  have F : sy Y w0 [] [row v4 36 Bm x2] w := F
  rw [Cs] at H
  refine vc tk 6 W F fun a w W F => ?_
  refine A1 W Aa H (fun W H => ?_) fun W H => ?_
  ·
   refine EX tk 5 W F fun a w W F => ?_
   obtain ⟨v5, h2, F⟩ := F.exR BK
   refine LW ?_
   obtain ⟨x4, h3, H⟩ := Af H
   obtain ⟨v6, h4, h5⟩ := CS h1 h3
   have h6 : He v6 = [Jint x4.un.1, Jint x4.un.2.1, Jint x4.un.2.2.1, (v6.2.2.2.1)] := congrArg (fun q : Tr36 => ([Jint q.un.1, Jint q.un.2.1, Jint q.un.2.2.1, (v6.2.2.2.1)] : List Value)) h5
   refine ls W F Aa (Au (r := HE) PI W Aa Aa (Ae h_v1) h4).q fun a w W F => ?_
   refine ls W F Aa (Aj (y := Value.agg #[Jint x4.un.1, Jint x4.un.2.1, Jint x4.un.2.2.1, (v6.2.2.2.1)]) (j := 0) (i := x3) (enc := He) W Aa Aa (Ae h_v1) h4 Mp GN (by rw [h6]; rfl)).q fun a w W F => ?_
   refine Bw (cs := (Is)) W F Aa Q0 Aa fun b1 a w W F => ?_
   refine CE 0 W F Aa Aa Aa GN Aa Aa (Ac Aa (Ac Aa (Ac Aa (Ac ((Bf (Ae h_v1) h4 (Ag.snd (Ag.snd (Ag.snd Ag.here))) (congrArg (fun q : Tr36 => q.un.2.2.2) h5)) _ F).one Bn)))) fun w F => ?_
   refine Es tk 6 [0] W F (ai fun a w W F => ?_)
   obtain ⟨x5, h7, H⟩ := Af H
   refine AO (Ml := []) (Zl := []) (β := Value) (rv := fun x => .agg #[Jint x5.un.1, Jint x5.un.2.1, Jint x5.un.2.2.1, x]) (MM := fun x => []) (ZZ := fun x => [Ch x Bm x5.un.2.2.2]) W F aI Aa Aa (fun hL => ih_check_Cut _ w ((v6.2.2.2.1)) x4 p1 _ h7 ((Bf (Ae h_v1) h4 (Ag.snd (Ag.snd (Ag.snd Ag.here))) (congrArg (fun q : Tr36 => q.un.2.2.2) h5)) w F).nx) fun x a w W F => ?_
   obtain ⟨v7, rfl⟩ : ∃ y, y = x := ⟨x, rfl⟩
   have F : sy Y w0 [(b1, [Jint x4.un.1, Jint x4.un.2.1, Jint x4.un.2.2.1, (v6.2.2.2.1)])] [Ch v7 Bm x5.un.2.2.2, row v4 36 HE v5] w := F
   refine GT (z := Value.agg #[Jint 0, Jint 0, Jint 0, .slice none 0 0]) (cs := (Hl x5 v7)) Bm ([x5] : List Tr36) W F Aa PI Q0 Aa Aa Aa (AY Aa Aa Aa CQ) Aa Aa ⟨[Jint x5.un.1, Jint x5.un.2.1, Jint x5.un.2.2.1, v7], _, Aa, (SI.2 ⟨[Jint x5.un.1], [Jint x5.un.2.1, Jint x5.un.2.2.1, v7], Aa, Aa, ⟨[Jint x5.un.2.1], [Jint x5.un.2.2.1, v7], Aa, Aa, ⟨[Jint x5.un.2.2.1], [v7], Aa, Aa, ⟨_, Aa, (F.item (i := 0) Aa)⟩⟩⟩⟩), Aa⟩ fun v8 a w W F => ?_
   have F := F.frontZ (i := 2) Aa Aa
   have F := F.hideR BK h2
   obtain ⟨x6, h8, H⟩ := Af H
   refine DL (r := Bm) (i := 0) W F Aa PI Aa Aa Aa Aa (EB F 1 Aa) h8 Aa fun v9 a w W F => ?_
   have F : sy Y w0 [(b1, [Jint x4.un.1, Jint x4.un.2.1, Jint x4.un.2.2.1, (v6.2.2.2.1)])] [row v9 36 Bm x6, row v8 36 Bm ([x5] : List Tr36), Ch v7 Bm x5.un.2.2.2] w := F
   refine vl tk 2 W F fun a w W F => ?_
   refine Az ?_
   refine vn tk 4 W F fun a w W F => ?_
   refine Ab ?_
   have F := F.sub (M' := []) (Z' := [row v9 36 Bm x6]) nl (sc nl)
   exact ⟨_, H, (v9), W.ra Aa, F⟩
  refine AN ?_
  iterate 2 refine A6 ?_
  refine AP (Ab ?_)
  have H := L2 _ H
  exact ⟨_, (v4), H, W.ra Aa, F⟩
 rintro a w ⟨x1, v3, hj, W, F⟩
 have hj := Ay hj
 subst hj
 have H := K1
 clear G1 K1
 refine vc tk 6 W F fun a w W F => ?_
 refine Ah ?_
 have H := Ay H
 subst H
 refine Av (.inl Aa) W F Aa (Am W Aa) ?_
 exact ⟨(v3), Aa, F⟩
theorem bG : Has Tryz.prog 50 := BM Tryz.func50
def AG (p0 : Bool) : Tr36 := (if p0 = true then Tr36.of (1, 0, 0, ([] : List Tr36)) else Tr36.of (2, 0, 0, ([] : List Tr36)))
theorem Ij (Y : Nat → Prop) (w0 : World)  (p0 : Bool) (r : Tr36) (H : AG p0 = r)  :
    ca_ 51 #[.bool p0] w0 fun e w' => ∃ x : Value, e = .returned (.agg #[Jint r.un.1, Jint r.un.2.1, Jint r.un.2.2.1, x]) ∧ sy Y w0 [] [row (x) 36 Bm r.un.2.2.2] w' := by
 refine enter Tryz.func51 Aa Tryz.ntmps51 Aa fun a W => ?_
 have F := Stw.start Y w0
 unfold AG at H
 refine vc tk 2 W F fun a w W F => ?_
 refine Bw (cs := (Is)) W F Aa Q0 Aa fun b1 a w W F => ?_
 refine Bo tk 8 W F fun a w W F => ?_
 refine BS W Aa (fun hb => ?_) fun hb => ?_
 ·
  have H := BB hb H
  rw [hb] at W
  clear hb
  refine vc tk 2 W F fun a w W F => ?_
  refine ls W F Aa (Cf (v := Value.agg #[Jint 1, Jint 0, Jint 0, .slice none 0 0]) Us W Aa Aa Aa).q fun a w W F => ?_
  refine CE 0 W F Aa Aa Aa GN Aa Aa Aa fun w F => ?_
  refine Bo tk 2 W F fun a w W F => ?_
  refine Ah (Aw ?_)
  subst H
  refine Av (.inl Aa) W F Aa (Cm 0 W Aa Aa GN Aa) ?_
  have F := F.nilRow 36 Bm
  have F := F.sub (M' := []) (Z' := [row (Value.slice none 0 0) 36 Bm ([])]) nl sr
  exact ⟨(Value.slice none 0 0), Aa, F⟩
 have H := BC (by rw [hb]; decide) H
 rw [hb] at W
 clear hb
 refine EX tk 4 W F fun a w W F => ?_
 refine ls W F Aa (Cf (v := Value.agg #[Jint 2, Jint 0, Jint 0, .slice none 0 0]) Us W Aa Aa Aa).q fun a w W F => ?_
 refine CE 0 W F Aa Aa Aa GN Aa Aa Aa fun w F => ?_
 refine Bo tk 2 W F fun a w W F => ?_
 refine Ah ?_
 subst H
 refine Av (.inl Aa) W F Aa (Cm 0 W Aa Aa GN Aa) ?_
 have F := F.nilRow 36 Bm
 have F := F.sub (M' := []) (Z' := [row (Value.slice none 0 0) 36 Bm ([])]) nl sr
 exact ⟨(Value.slice none 0 0), Aa, F⟩
theorem Zh : Has Tryz.prog 51 := BM Tryz.func51
def Ec (p0 : Tr36) (p1 : Int) : Bool := decide (p0.un.1 = p1)
theorem JZ (Y : Nat → Prop) (w0 : World) (v1 : Value) (q_p1 : Nat) (p0 : Tr36) (p1 : Int) (r : Bool) (H : Ec p0 p1 = r) (h_v1 : Sl w0 (NX []) Bm v1 p0.un.2.2.2) (a_q_p1 : At ⟨Y, [], w0⟩ q_p1 0 [Jint p1]) :
    ca_ 85 #[.agg #[Jint p0.un.1, Jint p0.un.2.1, Jint p0.un.2.2.1, v1], pp q_p1] w0 fun e w' => e = .returned (.bool r) ∧ Below w0.heap.size w0 w' := by
 refine enter Tryz.func85 Aa Tryz.ntmps85 Aa fun a W => ?_
 have F := Stw.start Y w0
 obtain ⟨v2, h1, h_v1⟩ := h_v1.ex BK
 unfold Ec at H
 refine vc tk 2 W F fun a w W F => ?_
 refine BQ (cs := (Hl p0 v1)) W F Aa Aa Aa fun b1 a w W F => ?_
 refine Es tk 7 [0] W F (ai fun a w W F => ?_)
 refine ls W F Aa (G0 (y := Jint p1) (j := 0) W Aa (Nat.zero_add _).symm a_q_p1 T3 Aa).q fun a w W F => ?_
 refine Bo tk 4 W F fun a w W F => ?_
 refine Ah ?_
 subst H
 refine Av (.inl Aa) W F Aa (Am W Aa) ?_
 exact ⟨rfl, F.done⟩
theorem bE : Has Tryz.prog 85 := BM Tryz.func85
def Ba (p0 : List Tr36) (p1c0 : Int) : Int → Option (Int ⊕ (Unit ⊕ Int))
  | x1 => (if x1 < (p0.length : Int) then (ix p0 x1).bind fun x2 => (if (Ec x2 p1c0) = true then some (.inr (.inr x1)) else some (.inl (AJ (x1 + 1)))) else some (.inr (.inl ())))
def BA (p0 : List Tr36) (p1c0 : Int) : Option Int := HA (AB (Ba p0 p1c0) 0) fun _ => some (-1)
theorem FS (Y : Nat → Prop) (w0 : World) (v1 : Value) (q_p1c0 : Nat) (p0 : List Tr36) (p1c0 : Int) (r : Int) (H : BA p0 p1c0 = some r) (h_v1 : Sl w0 (NX []) Bm v1 p0) (a_q_p1c0 : At ⟨Y, [], w0⟩ q_p1c0 0 [Jint p1c0]) :
    ca_ 110 #[v1, .func (.func 85) #[] #[pp q_p1c0]] w0 fun e w' => e = .returned (Jint r) ∧ Below w0.heap.size w0 w' := by
 refine enter Tryz.func110 Aa Tryz.ntmps110 Aa fun a W => ?_
 have F := Stw.start Y w0
 obtain ⟨v2, h1, h_v1⟩ := h_v1.ex BK
 unfold BA at H
 refine vc tk 5 W F fun a w W F => ?_
 obtain ⟨o1, G1, K1, L1⟩ := Lh H
 refine Ap (fun a w => some (Sum.inl ()) = some o1 ∧ Fr 19 [] [(4, Jint 0)] a ∧ sy Y w0 [] [] w) ?_ ?_
 ·
  have H := G1
  clear G1 K1
  refine vc tk 3 W F fun a w W F => ?_
  refine ls W F Aa (Bz (r := Bm) (l := p0) IU Aa W Aa (Al BK h1 (Ae h_v1))).q fun a w W F => ?_
  refine Bo tk 4 W F fun a w W F => ?_
  refine AQ H (fun s a w => Fr 19 [] [(0, v1), (1, .func (.func 85) #[] #[pp q_p1c0]), (4, Jint 0), (7, Jint (p0.length : Int)), (8, Jint s)] a ∧ sy Y w0 [] [] w) ⟨W.ra Aa, F⟩ fun s o a w H L2 hR => ?_
  obtain ⟨x1, rfl⟩ : ∃ x, x = s := ⟨s, rfl⟩
  obtain ⟨W, F⟩ := hR
  have W : Fr 19 [] [(0, v1), (1, .func (.func 85) #[] #[pp q_p1c0]), (4, Jint 0), (7, Jint (p0.length : Int)), (8, Jint x1)] a := W
  have F : sy Y w0 [] [] w := F
  rw [Ba] at H
  refine vc tk 6 W F fun a w W F => ?_
  refine A1 W Aa H (fun W H => ?_) fun W H => ?_
  ·
   refine EX tk 15 W F fun a w W F => ?_
   obtain ⟨x2, h2, H⟩ := Af H
   obtain ⟨v3, h3, h4⟩ := CS h1 h2
   have h5 : He v3 = [Jint x2.un.1, Jint x2.un.2.1, Jint x2.un.2.2.1, (v3.2.2.2.1)] := congrArg (fun q : Tr36 => ([Jint q.un.1, Jint q.un.2.1, Jint q.un.2.2.1, (v3.2.2.2.1)] : List Value)) h4
   refine ls W F Aa (Au (r := HE) PI W Aa Aa (Ae h_v1) h3).q fun a w W F => ?_
   refine ls W F Aa (Aj (y := Value.agg #[Jint x2.un.1, Jint x2.un.2.1, Jint x2.un.2.2.1, (v3.2.2.2.1)]) (j := 0) (i := x1) (enc := He) W Aa Aa (Ae h_v1) h3 Mp GN (by rw [h5]; rfl)).q fun a w W F => ?_
   refine ls W F Aa (Ib (ws := [.agg #[Jint x2.un.1, Jint x2.un.2.1, Jint x2.un.2.2.1, (v3.2.2.2.1)], pp q_p1c0]) (v := Value.bool (Ec x2 p1c0)) W bE Aa (fun w F => JZ any w ((v3.2.2.2.1)) q_p1c0 x2 p1c0 _ Aa (Cl (Bf (Ae h_v1) h3 (Ag.snd (Ag.snd (Ag.snd Ag.here))) (congrArg (fun q : Tr36 => q.un.2.2.2) h4)) F) (At.re a_q_p1c0 F))) fun a w W F => ?_
   refine Bo tk 2 W F fun a w W F => ?_
   refine Bi W Aa H (fun W H => ?_) fun W H => ?_
   ·
    refine vc tk 6 W F fun a w W F => ?_
    refine Ah (AC ?_)
    iterate 2 refine Aw ?_
    refine AC (Aw ?_)
    have H := L2 _ H
    have H := L1 _ H
    have H := Ay H
    subst H
    refine Av (.inl Aa) W F Aa (Am W Aa) ?_
    exact ⟨rfl, F.done⟩
   refine AD (Az ?_)
   refine vn tk 4 W F fun a w W F => ?_
   refine Ab ?_
   exact ⟨_, H, W.ra Aa, F⟩
  refine AN ?_
  iterate 2 refine A6 ?_
  refine AP (Ab ?_)
  have H := L2 _ H
  exact ⟨H, W.ra Aa, F⟩
 rintro a w ⟨hj, W, F⟩
 have H := K1 _ hj
 clear hj G1 K1 L1
 refine vc tk 5 W F fun a w W F => ?_
 refine Ah ?_
 have H := Ay H
 subst H
 refine Av (.inl Aa) W F Aa (Am W Aa) ?_
 exact ⟨rfl, F.done⟩
theorem ZQ : Has Tryz.prog 110 := BM Tryz.func110
def Bp (p0 : List Tr36) (p1c0 : Int) : Option Bool := (BA p0 p1c0).bind fun x1 => some (decide (0 ≤ x1))
theorem Fw (Y : Nat → Prop) (w0 : World) (v1 : Value) (q_p1c0 : Nat) (p0 : List Tr36) (p1c0 : Int) (r : Bool) (H : Bp p0 p1c0 = some r) (h_v1 : Sl w0 (NX []) Bm v1 p0) (a_q_p1c0 : At ⟨Y, [], w0⟩ q_p1c0 0 [Jint p1c0]) :
    ca_ 84 #[v1, .func (.func 85) #[] #[pp q_p1c0]] w0 fun e w' => e = .returned (.bool r) ∧ Below w0.heap.size w0 w' := by
 refine enter Tryz.func84 Aa Tryz.ntmps84 Aa fun a W => ?_
 have F := Stw.start Y w0
 obtain ⟨v2, h1, h_v1⟩ := h_v1.ex BK
 unfold Bp at H
 refine vc tk 9 W F fun a w W F => ?_
 obtain ⟨x1, h2, H⟩ := Af H
 refine ls W F Aa (AA (v := Jint x1) W ZQ Aa (fun w F => FS any w (v1) q_p1c0 p0 p1c0 _ h2 (Cl (Al BK h1 (Ae h_v1)) F) (At.re a_q_p1c0 F))) fun a w W F => ?_
 refine Bo tk 4 W F fun a w W F => ?_
 refine Ah ?_
 have H := Ay H
 subst H
 refine Av (.inl Aa) W F Aa (Am W Aa) ?_
 exact ⟨rfl, F.done⟩
theorem b6 : Has Tryz.prog 84 := BM Tryz.func84
def Dx (p0 : Tr36) (p1 : Int) : Bool := decide (p0.un.1 ≠ p1)
theorem J5 (Y : Nat → Prop) (w0 : World) (v1 : Value) (q_p1 : Nat) (p0 : Tr36) (p1 : Int) (r : Bool) (H : Dx p0 p1 = r) (h_v1 : Sl w0 (NX []) Bm v1 p0.un.2.2.2) (a_q_p1 : At ⟨Y, [], w0⟩ q_p1 0 [Jint p1]) :
    ca_ 87 #[.agg #[Jint p0.un.1, Jint p0.un.2.1, Jint p0.un.2.2.1, v1], pp q_p1] w0 fun e w' => e = .returned (.bool r) ∧ Below w0.heap.size w0 w' := by
 refine enter Tryz.func87 Aa Tryz.ntmps87 Aa fun a W => ?_
 have F := Stw.start Y w0
 obtain ⟨v2, h1, h_v1⟩ := h_v1.ex BK
 unfold Dx at H
 refine vc tk 2 W F fun a w W F => ?_
 refine BQ (cs := (Hl p0 v1)) W F Aa Aa Aa fun b1 a w W F => ?_
 refine Es tk 7 [0] W F (ai fun a w W F => ?_)
 refine ls W F Aa (G0 (y := Jint p1) (j := 0) W Aa (Nat.zero_add _).symm a_q_p1 T3 Aa).q fun a w W F => ?_
 refine Bo tk 4 W F fun a w W F => ?_
 refine Ah ?_
 subst H
 refine Av (.inl Aa) W F Aa (Am W Aa) ?_
 exact ⟨rfl, F.done⟩
theorem cH : Has Tryz.prog 87 := BM Tryz.func87
def C5 (p0 : List Tr36) (p1c0 : Int) : (List Tr36 × Int) → Option ((List Tr36 × Int) ⊕ (List Tr36))
  | (x2, x3) => (if x3 < (p0.length : Int) then ((ix p0 x3).bind fun x5 => (if (Dx x5 p1c0) = true then (GP x2 ([x5] : List Tr36)).bind fun x6 => some x6 else some x2)).bind fun x4 => some (.inl (x4, AJ (x3 + 1))) else some (.inr x2))
def Ed (p0 : List Tr36) (p1c0 : Int) : Option (List Tr36) := (AB (C5 p0 p1c0) ([], 0)).bind fun x1 => some x1
theorem Ms (Y : Nat → Prop) (w0 : World) (v1 : Value) (q_p1c0 : Nat) (p0 : List Tr36) (p1c0 : Int) (r : List Tr36) (H : Ed p0 p1c0 = some r) (s_v1 : Sl w0 Y Bm v1 p0) (a_q_p1c0 : At ⟨Y, [], w0⟩ q_p1c0 0 [Jint p1c0]) :
    ca_ 86 #[v1, .func (.func 87) #[] #[pp q_p1c0]] w0 fun e w' => ∃ x : Value, e = .returned (x) ∧ sy Y w0 [] [row (x) 36 Bm r] w' := by
 refine enter Tryz.func86 Aa Tryz.ntmps86 Aa fun a W => ?_
 have F := Stw.start Y w0
 obtain ⟨v2, h1, s_v1⟩ := s_v1.ex BK
 have h_v1 := F.nx s_v1
 unfold Ed at H
 refine vc tk 10 W F fun a w W F => ?_
 obtain ⟨o1, G1, K1⟩ := Af H
 refine Ap (fun a w => ∃ x1 : List Tr36, ∃ v3 : Value, some (x1) = some o1 ∧ Fr 23 [] [(4, .slice none 0 0), (5, v3)] a ∧ sy Y w0 [] [row v3 36 Bm x1] w) ?_ ?_
 ·
  have H := G1
  clear G1 K1
  refine vc tk 3 W F fun a w W F => ?_
  refine ls W F Aa (Bz (r := Bm) (l := p0) IU Aa W Aa (Al BK h1 (Ae h_v1))).q fun a w W F => ?_
  refine Bo tk 4 W F fun a w W F => ?_
  have F := F.nilRow 36 Bm
  refine AQ H (fun s a w => ∃ v4 : Value, Fr 23 [] [(1, .func (.func 87) #[] #[pp q_p1c0]), (4, .slice none 0 0), (5, v4), (8, v1), (9, Jint (p0.length : Int)), (10, Jint s.2)] a ∧ sy Y w0 [] [row v4 36 Bm s.1] w) ⟨(Value.slice none 0 0), W.ra Aa, F⟩ fun s o a w H L2 hR => ?_
  obtain ⟨x2, x3⟩ := s
  obtain ⟨v4, W, F⟩ := hR
  have W : Fr 23 [] [(1, .func (.func 87) #[] #[pp q_p1c0]), (4, .slice none 0 0), (5, v4), (8, v1), (9, Jint (p0.length : Int)), (10, Jint x3)] a := W
  have F : sy Y w0 [] [row v4 36 Bm x2] w := F
  rw [C5] at H
  refine vc tk 6 W F fun a w W F => ?_
  refine A1 W Aa H (fun W H => ?_) fun W H => ?_
  ·
   refine AD (Ab ?_)
   obtain ⟨o3, G3, K3⟩ := Af H
   refine Ap (fun a w => ∃ x4 : List Tr36, ∃ v5 : Value, some (x4) = some o3 ∧ Fr 23 [] [(1, .func (.func 87) #[] #[pp q_p1c0]), (4, .slice none 0 0), (5, v5), (8, v1), (9, Jint (p0.length : Int)), (10, Jint x3)] a ∧ sy Y w0 [] [row v5 36 Bm x4] w) ?_ ?_
   ·
    have H := G3
    clear G3 K3
    refine vc tk 2 W F fun a w W F => ?_
    obtain ⟨v6, h2, F⟩ := F.exR BK
    refine LW ?_
    obtain ⟨x5, h3, H⟩ := Af H
    obtain ⟨v7, h4, h5⟩ := CS h1 h3
    have h6 : He v7 = [Jint x5.un.1, Jint x5.un.2.1, Jint x5.un.2.2.1, (v7.2.2.2.1)] := congrArg (fun q : Tr36 => ([Jint q.un.1, Jint q.un.2.1, Jint q.un.2.2.1, (v7.2.2.2.1)] : List Value)) h5
    refine ls W F Aa (Au (r := HE) PI W Aa Aa (Ae h_v1) h4).q fun a w W F => ?_
    refine ls W F Aa (Aj (y := Value.agg #[Jint x5.un.1, Jint x5.un.2.1, Jint x5.un.2.2.1, (v7.2.2.2.1)]) (j := 0) (i := x3) (enc := He) W Aa Aa (Ae h_v1) h4 Mp GN (by rw [h6]; rfl)).q fun a w W F => ?_
    refine Bw (cs := (Is)) W F Aa Q0 Aa fun b1 a w W F => ?_
    refine CE 0 W F Aa Aa Aa GN Aa Aa (Ac Aa (Ac Aa (Ac Aa (Ac ((Bf (Ae h_v1) h4 (Ag.snd (Ag.snd (Ag.snd Ag.here))) (congrArg (fun q : Tr36 => q.un.2.2.2) h5)) _ F).one Bn)))) fun w F => ?_
    refine Es tk 6 [0] W F (ai fun a w W F => ?_)
    refine ls W F Aa (Ib (ws := [.agg #[Jint x5.un.1, Jint x5.un.2.1, Jint x5.un.2.2.1, (v7.2.2.2.1)], pp q_p1c0]) (v := Value.bool (Dx x5 p1c0)) W cH Aa (fun w F => J5 any w ((v7.2.2.2.1)) q_p1c0 x5 p1c0 _ Aa (Cl (Bf (Ae h_v1) h4 (Ag.snd (Ag.snd (Ag.snd Ag.here))) (congrArg (fun q : Tr36 => q.un.2.2.2) h5)) F) (At.re a_q_p1c0 F))) fun a w W F => ?_
    refine Bo tk 2 W F fun a w W F => ?_
    refine Bi W Aa H (fun W H => ?_) fun W H => ?_
    ·
     refine CT tk 3 [0] W F (ai fun a w W F => ?_)
     refine GT (z := Value.agg #[Jint 0, Jint 0, Jint 0, .slice none 0 0]) (cs := [Jint x5.un.1, Jint x5.un.2.1, Jint x5.un.2.2.1, (v7.2.2.2.1)]) Bm ([x5] : List Tr36) W F Aa PI Q0 Aa Aa Aa (AY Aa Aa Aa CQ) Aa Aa ⟨[Jint x5.un.1, Jint x5.un.2.1, Jint x5.un.2.2.1, (v7.2.2.2.1)], _, Aa, (SI.2 ⟨[Jint x5.un.1], [Jint x5.un.2.1, Jint x5.un.2.2.1, (v7.2.2.2.1)], Aa, Aa, ⟨[Jint x5.un.2.1], [Jint x5.un.2.2.1, (v7.2.2.2.1)], Aa, Aa, ⟨[Jint x5.un.2.2.1], [(v7.2.2.2.1)], Aa, Aa, ⟨_, Aa, (Sl.at_ (F.old s_v1) h4 (Ag.snd (Ag.snd (Ag.snd Ag.here))) (congrArg (fun q : Tr36 => q.un.2.2.2) h5))⟩⟩⟩⟩), Aa⟩ fun v8 a w W F => ?_
     have F := F.frontZ (i := 1) Aa Aa
     have F := F.hideR BK h2
     obtain ⟨x6, h7, H⟩ := Af H
     refine DL (r := Bm) (i := 0) W F Aa PI Aa Aa Aa Aa (EB F 1 Aa) h7 Aa fun v9 a w W F => ?_
     have F : sy Y w0 [(b1, [Jint x5.un.1, Jint x5.un.2.1, Jint x5.un.2.2.1, (v7.2.2.2.1)])] [row v9 36 Bm x6, row v8 36 Bm ([x5] : List Tr36)] w := F
     refine vl tk 2 W F fun a w W F => ?_
     refine Az (Ab ?_)
     have F := F.sub (M' := []) (Z' := [row v9 36 Bm x6]) nl (sc nl)
     exact ⟨_, (v9), H, W.ra Aa, F⟩
    refine AD (Az (Ab ?_))
    have F := F.hideR BK h2
    have F := F.sub (M' := []) (Z' := [row v4 36 Bm x2]) nl sr
    exact ⟨_, (v4), H, W.ra Aa, F⟩
   rintro a w ⟨x4, v5, hj, W, F⟩
   have hj := Ay hj
   subst hj
   have H := K3
   clear G3 K3
   refine vc tk 4 W F fun a w W F => ?_
   refine Ab ?_
   exact ⟨_, H, (v5), W.ra Aa, F⟩
  refine AN ?_
  iterate 2 refine A6 ?_
  refine AP (Ab ?_)
  have H := L2 _ H
  exact ⟨_, (v4), H, W.ra Aa, F⟩
 rintro a w ⟨x1, v3, hj, W, F⟩
 have hj := Ay hj
 subst hj
 have H := K1
 clear G1 K1
 refine vc tk 6 W F fun a w W F => ?_
 refine Ah ?_
 have H := Ay H
 subst H
 refine Av (.inl Aa) W F Aa (Am W Aa) ?_
 exact ⟨(v3), Aa, F⟩
theorem bW : Has Tryz.prog 86 := BM Tryz.func86
def Di (p0 : Int) (p1 : List Tr36) (p2 : Int) (p3 : Int) : Option Tr36 := (Bp p1 p3).bind fun x1 => (if x1 = true then some (Tr36.of (p3, 0, 0, ([] : List Tr36))) else (Ed p1 p2).bind fun x2 => (if (x2.length : Int) = 0 then some (Tr36.of (p2, 0, 0, ([] : List Tr36))) else (if (x2.length : Int) = 1 then (ix x2 0).bind fun x3 => some x3 else some (Tr36.of (p0, 0, 0, x2)))))
theorem HU (Y : Nat → Prop) (w0 : World) (v1 : Value) (p0 : Int) (p1 : List Tr36) (p2 : Int) (p3 : Int) (r : Tr36) (H : Di p0 p1 p2 p3 = some r) (s_v1 : Sl w0 Y Bm v1 p1) :
    ca_ 52 #[Jint p0, v1, Jint p2, Jint p3] w0 fun e w' => ∃ x : Value, e = .returned (.agg #[Jint r.un.1, Jint r.un.2.1, Jint r.un.2.2.1, x]) ∧ sy Y w0 [] [Ch (x) Bm r.un.2.2.2] w' := by
 refine enter Tryz.func52 Aa Tryz.ntmps52 Aa fun a W => ?_
 have F := Stw.start Y w0
 obtain ⟨v2, h1, s_v1⟩ := s_v1.ex BK
 have h_v1 := F.nx s_v1
 unfold Di at H
 refine vc tk 2 W F fun a w W F => ?_
 refine BQ (cs := [Jint p2]) W F Aa Aa Aa fun b1 a w W F => ?_
 refine BQ (cs := [Jint p3]) W F Aa Aa Aa fun b2 a w W F => ?_
 refine Bw (cs := (Is)) W F Aa Q0 Aa fun b3 a w W F => ?_
 refine Bo tk 6 W F fun a w W F => ?_
 refine ls W F Aa (GV (us := []) (vs := [pp b2]) W Aa Aa).q fun a w W F => ?_
 obtain ⟨x1, h2, H⟩ := Af H
 refine ls W F Aa (AA (v := Value.bool x1) W b6 Aa (fun w F => Fw any w (v1) b2 p1 p3 _ h2 (Cl (Al BK h1 (Ae h_v1)) F) (TT F 1 Aa))) fun a w W F => ?_
 refine Bo tk 2 W F fun a w W F => ?_
 refine Bi W Aa H (fun W H => ?_) fun W H => ?_
 ·
  refine CT tk 3 [1] W F (ai fun a w W F => ?_)
  refine ls W F Aa (Cf (v := Value.agg #[Jint p3, Jint 0, Jint 0, .slice none 0 0]) Us W Aa Aa Aa).q fun a w W F => ?_
  refine CE 0 W F Aa Aa Aa GN Aa Aa Aa fun w F => ?_
  refine Bo tk 2 W F fun a w W F => ?_
  refine Ah (Aw ?_)
  have H := Ay H
  subst H
  refine Av (.inl Aa) W F Aa (Cm 0 W Aa Aa GN Aa) ?_
  have F := F.note (Sl.nil (r := Bm))
  have F := F.sub (M' := []) (Z' := [Ch (Value.slice none 0 0) Bm ([])]) nl sr
  exact ⟨(Value.slice none 0 0), Aa, F⟩
 refine EX tk 5 W F fun a w W F => ?_
 refine ls W F Aa (GV (us := []) (vs := [pp b1]) W Aa Aa).q fun a w W F => ?_
 obtain ⟨x2, h3, H⟩ := Af H
 refine AO (Ml := []) (Zl := []) (β := Value) (rv := fun x => x) (MM := fun x => []) (ZZ := fun x => [row x 36 Bm x2]) W F bW Aa Aa (fun hL => Ms _ w (v1) b1 p1 p2 _ h3 (Sl.hide BK h1 (F.old s_v1)) (TT F 2 Aa)) fun x a w W F => ?_
 obtain ⟨v3, rfl⟩ : ∃ y, y = x := ⟨x, rfl⟩
 have F : sy Y w0 [(b3, [Jint 0, Jint 0, Jint 0, .slice none 0 0]), (b2, [Jint p3]), (b1, [Jint p2])] [row v3 36 Bm x2] w := F
 refine Bo tk 7 W F fun a w W F => ?_
 refine ls W F Aa (Bz (r := Bm) (l := x2) IU Aa W Aa (Ai 0 Aa)).q fun a w W F => ?_
 refine Bo tk 9 W F fun a w W F => ?_
 refine BS W Aa (fun hb => ?_) fun hb => ?_
 ·
  have H := BB (B4 hb) H
  rw [hb] at W
  clear hb
  refine CT tk 3 [2] W F (ai fun a w W F => ?_)
  refine ls W F Aa (Cf (v := Value.agg #[Jint p2, Jint 0, Jint 0, .slice none 0 0]) Us W Aa Aa Aa).q fun a w W F => ?_
  refine CE 0 W F Aa Aa Aa GN Aa Aa Aa fun w F => ?_
  refine Bo tk 2 W F fun a w W F => ?_
  refine Ah (AC (Aw ?_))
  have H := Ay H
  subst H
  refine Av (.inl Aa) W F Aa (Cm 0 W Aa Aa GN Aa) ?_
  have F := F.note (Sl.nil (r := Bm))
  have F := F.sub (M' := []) (Z' := [Ch (Value.slice none 0 0) Bm ([])]) nl (sc nl)
  exact ⟨(Value.slice none 0 0), Aa, F⟩
 have H := BC (B1 hb) H
 rw [hb] at W
 clear hb
 refine vc tk 6 W F fun a w W F => ?_
 refine BS W Aa (fun hb => ?_) fun hb => ?_
 ·
  have H := BB (B4 hb) H
  rw [hb] at W
  clear hb
  refine FG ?_
  obtain ⟨v4, h4, F⟩ := F.exR BK
  refine vc tk 2 W F fun a w W F => ?_
  obtain ⟨x3, h5, H⟩ := Af H
  obtain ⟨v5, h6, h7⟩ := CS h4 h5
  have h8 : He v5 = [Jint x3.un.1, Jint x3.un.2.1, Jint x3.un.2.2.1, (v5.2.2.2.1)] := congrArg (fun q : Tr36 => ([Jint q.un.1, Jint q.un.2.1, Jint q.un.2.2.1, (v5.2.2.2.1)] : List Value)) h7
  refine ls W F Aa (Au (r := HE) PI W Aa Aa (Ai 0 Aa) h6).q fun a w W F => ?_
  refine ls W F Aa (Aj (y := Value.agg #[Jint x3.un.1, Jint x3.un.2.1, Jint x3.un.2.2.1, (v5.2.2.2.1)]) (j := 0) (i := 0) (enc := He) W Aa Aa (Ai 0 Aa) h6 Mp GN (by rw [h8]; rfl)).q fun a w W F => ?_
  have F := F.note (F.rowAt (k := 0) Aa h6 (Ag.snd (Ag.snd (Ag.snd Ag.here))) (congrArg (fun q : Tr36 => q.un.2.2.2) h7))
  refine CE 0 W F Aa Aa Aa GN Aa Aa (Ac Aa (Ac Aa (Ac Aa (Ac (F.oneF (k := 0) Aa) Bn)))) fun w F => ?_
  refine Bo tk 2 W F fun a w W F => ?_
  refine Ah (AC (Aw ?_))
  have H := Ay H
  subst H
  refine Av (.inl Aa) W F Aa (Cm 0 W Aa Aa GN Aa) ?_
  have F := F.sub (M' := []) (Z' := [Ch (v5.2.2.2.1) Bm x3.un.2.2.2]) nl (sc nl)
  exact ⟨((v5.2.2.2.1)), Aa, F⟩
 have H := BC (B1 hb) H
 rw [hb] at W
 clear hb
 refine AD (Az ?_)
 refine vn tk 4 W F fun a w W F => ?_
 refine ls W F Aa (Cf (v := Value.agg #[Jint p0, Jint 0, Jint 0, v3]) Us W Aa (AY Aa Aa Aa (AY Aa (GW (F.one (k := 0) Aa)) Aa CQ)) Aa).q fun a w W F => ?_
 refine CE 0 W F Aa Aa Aa GN Aa Aa (Ac Aa (Ac Aa (Ac Aa (Ac (F.one (k := 0) Aa) Bn)))) fun w F => ?_
 refine Bo tk 2 W F fun a w W F => ?_
 refine Ah ?_
 have H := Ay H
 subst H
 refine Av (.inl Aa) W F Aa (Cm 0 W Aa Aa GN Aa) ?_
 have F := F.freeze
 have F := F.sub (M' := []) (Z' := [Ch v3 Bm x2]) nl sr
 exact ⟨(v3), Aa, F⟩
theorem aC : Has Tryz.prog 52 := BM Tryz.func52
abbrev Ll (a0 : Nat) (a1 : Nat) (a2 : Tr36) (a3 : Value) : List (Nat × List Value) := [(a0, [Jint 0, Jint 0, Jint 0, .slice none 0 0]), (a1, [Jint a2.un.1, Jint a2.un.2.1, Jint a2.un.2.2.1, a3])]
abbrev Ye (a0 : Nat) (a1 : Tr36) (a2 : Value) (a3 : Nat) (a4 : Tr36) (a5 : Value) : List (Nat × List Value) := [(a0, [Jint a1.un.1, Jint a1.un.2.1, Jint a1.un.2.2.1, a2]), (a3, [Jint a4.un.1, Jint a4.un.2.1, Jint a4.un.2.2.1, a5])]
def DA (fRec : Tr36 → Int → Option Tr36) (p0 : Tr36) (p1 : Int) : Option Tr36 := ((DD fRec) p0.un.2.2.2 p1).bind fun x1 => HA (if p0.un.1 = 3 then (if p0.un.2.1 = 5 then some (.inr (Tr36.of ((AG (decide (p0.un.2.2.1 = p1))).un.1, (AG (decide (p0.un.2.2.1 = p1))).un.2.1, (AG (decide (p0.un.2.2.1 = p1))).un.2.2.1, (AG (decide (p0.un.2.2.1 = p1))).un.2.2.2))) else some (.inl ())) else (if p0.un.1 = 4 then (if (x1.length : Int) = 1 then (ix x1 0).bind fun x3 => some (decide (x3.un.1 = 1)) else some false).bind fun x2 => (if x2 = true then some (.inr (Tr36.of ((AG false).un.1, (AG false).un.2.1, (AG false).un.2.2.1, (AG false).un.2.2.2))) else (if (x1.length : Int) = 1 then (ix x1 0).bind fun x5 => some (decide (x5.un.1 = 2)) else some false).bind fun x4 => (if x4 = true then some (.inr (Tr36.of ((AG true).un.1, (AG true).un.2.1, (AG true).un.2.2.1, (AG true).un.2.2.2))) else some (.inl ()))) else (if p0.un.1 = 5 then (Di p0.un.1 x1 1 2).bind fun x6 => some (.inr x6) else (if p0.un.1 = 6 then (Di p0.un.1 x1 2 1).bind fun x7 => some (.inr x7) else some (.inl ()))))) fun _ => some (Tr36.of (p0.un.1, p0.un.2.1, p0.un.2.2.1, x1))
def C6 : Nat → Tr36 → Int → Option Tr36
  | 0 => fun _ _ => none
  | n + 1 => DA (C6 n)
def IW (p0 : Tr36) (p1 : Int) : Option Tr36 := FT fun n => C6 n p0 p1
theorem Pr (fRec : Tr36 → Int → Option Tr36) (ih : ∀ (Y : Nat → Prop) (w0 : World) (v1 : Value) (p0 : Tr36) (p1 : Int) (r : Tr36) (H : fRec p0 p1 = some r) (h_v1 : Sl w0 (NX []) Bm v1 p0.un.2.2.2), ca_ 22 #[.agg #[Jint p0.un.1, Jint p0.un.2.1, Jint p0.un.2.2.1, v1], Jint p1] w0 fun e w' => ∃ x : Value, e = .returned (.agg #[Jint r.un.1, Jint r.un.2.1, Jint r.un.2.2.1, x]) ∧ sy Y w0 [] [Ch (x) Bm r.un.2.2.2] w') (Y : Nat → Prop) (w0 : World) (v1 : Value) (p0 : Tr36) (p1 : Int) (r : Tr36) (H : DA fRec p0 p1 = some r) (h_v1 : Sl w0 (NX []) Bm v1 p0.un.2.2.2) :
    ca_ 22 #[.agg #[Jint p0.un.1, Jint p0.un.2.1, Jint p0.un.2.2.1, v1], Jint p1] w0 fun e w' => ∃ x : Value, e = .returned (.agg #[Jint r.un.1, Jint r.un.2.1, Jint r.un.2.2.1, x]) ∧ sy Y w0 [] [Ch (x) Bm r.un.2.2.2] w' := by
 refine enter Tryz.func22 Aa Tryz.ntmps22 Aa fun a W => ?_
 have F := Stw.start Y w0
 obtain ⟨v2, h1, h_v1⟩ := h_v1.ex BK
 unfold DA at H
 refine vc tk 2 W F fun a w W F => ?_
 refine BQ (cs := (Hl p0 v1)) W F Aa Aa Aa fun b1 a w W F => ?_
 refine Bw (cs := (Is)) W F Aa Q0 Aa fun b2 a w W F => ?_
 refine Es tk 7 [1] W F (ai fun a w W F => ?_)
 obtain ⟨x1, h2, H⟩ := Af H
 refine AO (Ml := []) (Zl := []) (β := Value) (rv := fun x => x) (MM := fun x => []) (ZZ := fun x => [row x 36 Bm x1]) W F bG Aa Aa (fun hL => (NL fRec ih) _ w (v1) p0.un.2.2.2 p1 _ h2 ((Al BK h1 (Ae h_v1)) w F).nx) fun x a w W F => ?_
 obtain ⟨v3, rfl⟩ : ∃ y, y = x := ⟨x, rfl⟩
 have F : sy Y w0 (Ll b2 b1 p0 v1) [row v3 36 Bm x1] w := F
 refine vl tk 2 W F fun a w W F => ?_
 refine Ab ?_
 obtain ⟨o1, G1, K1, L1⟩ := Lh H
 refine Ap (fun a w => some (Sum.inl ()) = some o1 ∧ Fr 66 [] [(2, pp b1), (4, pp b2), (5, v3)] a ∧ sy Y w0 (Ll b2 b1 p0 v1) [row v3 36 Bm x1] w) ?_ ?_
 ·
  have H := G1
  clear G1 K1
  refine CT tk 13 [1] W F (ai fun a w W F => ?_)
  refine BS W Aa (fun hb => ?_) fun hb => ?_
  ·
   have H := BB (B4 hb) H
   rw [hb] at W
   clear hb
   refine CT tk 7 [1] W F (ai fun a w W F => ?_)
   refine A1 W Aa H (fun W H => ?_) fun W H => ?_
   ·
    refine CT tk 6 [1] W F (ai fun a w W F => ?_)
    refine AO (Ml := []) (Zl := []) (β := Value) (rv := fun x => .agg #[Jint ((AG (decide (p0.un.2.2.1 = p1))).un.1), Jint ((AG (decide (p0.un.2.2.1 = p1))).un.2.1), Jint ((AG (decide (p0.un.2.2.1 = p1))).un.2.2.1), x]) (MM := fun x => []) (ZZ := fun x => [row x 36 Bm ((AG (decide (p0.un.2.2.1 = p1))).un.2.2.2)]) W F Zh Aa Aa (fun hL => Ij _ w (decide (p0.un.2.2.1 = p1)) _ Aa) fun x a w W F => ?_
    obtain ⟨v4, rfl⟩ : ∃ y, y = x := ⟨x, rfl⟩
    have F : sy Y w0 (Ll b2 b1 p0 v1) [row v4 36 Bm ((AG (decide (p0.un.2.2.1 = p1))).un.2.2.2), row v3 36 Bm x1] w := F
    refine CE 0 W F Aa Aa Aa GN Aa Aa (Ac Aa (Ac Aa (Ac Aa (Ac (F.one (k := 0) Aa) Bn)))) fun w F => ?_
    refine Bo tk 2 W F fun a w W F => ?_
    refine Ah (AC (Aw ?_))
    have H := L1 _ H
    have H := Ay H
    subst H
    refine Av (.inl Aa) W F Aa (Cm 0 W Aa Aa GN Aa) ?_
    have F := F.freeze
    have F := F.sub (M' := []) (Z' := [Ch v4 Bm ((AG (decide (p0.un.2.2.1 = p1))).un.2.2.2)]) nl (sc nl)
    exact ⟨(v4), Aa, F⟩
   refine AD (Az (Ab ?_))
   have F := F.frontM (i := 1) Aa Aa
   have F := F.frontM (i := 1) Aa Aa
   exact ⟨H, W.ra Aa, F⟩
  have H := BC (B1 hb) H
  rw [hb] at W
  clear hb
  refine vc tk 6 W F fun a w W F => ?_
  refine BS W Aa (fun hb => ?_) fun hb => ?_
  ·
   have H := BB (B4 hb) H
   rw [hb] at W
   clear hb
   refine FG ?_
   obtain ⟨o2, G2, K2⟩ := Af H
   refine Ap (fun a w => ∃ x2 : Bool, some (x2) = some o2 ∧ Fr 66 [] [(2, pp b1), (4, pp b2), (5, v3), (33, .bool x2)] a ∧ sy Y w0 (Ll b2 b1 p0 v1) [row v3 36 Bm x1] w) ?_ ?_
   ·
    have H := G2
    clear G2 K2
    obtain ⟨v5, h3, F⟩ := F.exR BK
    refine vc tk 2 W F fun a w W F => ?_
    refine ls W F Aa (Bz (r := Bm) (l := x1) IU Aa W Aa (Al BK h3 (Ai 0 Aa))).q fun a w W F => ?_
    refine vl tk 2 W F fun a w W F => ?_
    rcases bxq (decide ((x1.length : Int) = 1)) with hb | hb
    ·
     have H := BB (B4 hb) H
     rw [hb] at W
     clear hb
     refine Dy W F (Ad W Aa Aa Aa Aa) Aa (As Aa) (Ao W Aa).q fun a w W F => ?_
     obtain ⟨x3, h4, H⟩ := Af H
     obtain ⟨v6, h5, h6⟩ := CS h3 h4
     have h7 : He v6 = [Jint x3.un.1, Jint x3.un.2.1, Jint x3.un.2.2.1, (v6.2.2.2.1)] := congrArg (fun q : Tr36 => ([Jint q.un.1, Jint q.un.2.1, Jint q.un.2.2.1, (v6.2.2.2.1)] : List Value)) h6
     refine Dy W F (Ad W Aa Aa Aa Aa) Aa (As Aa) (Au (r := HE) PI W Aa Aa (Ai 0 Aa) h5).q fun a w W F => ?_
     refine Dy W F (Ad W Aa Aa Aa Aa) Aa (As Aa) (Aq Mi Aa Aa Aa T3 W Aa (H5 v3 + (0 : Int).toNat * 4) Aa).q fun a w W F => ?_
     refine Dy W F (Ad W Aa Aa Aa Aa) Aa (As Aa) (Aj (y := Jint x3.un.1) (j := 0) (i := 0) (enc := He) W Aa Aa (Ai 0 Aa) h5 Mp T3 (by rw [h7]; rfl)).q fun a w W F => ?_
     refine vl tk 3 W F fun a w W F => ?_
     refine Ab ?_
     have F := F.hideR BK h3
     have F := F.frontM (i := 1) Aa Aa
     have F := F.frontM (i := 1) Aa Aa
     exact ⟨_, H, W.ra Aa, F⟩
    have H := BC (B1 hb) H
    rw [hb] at W
    clear hb
    refine vl tk 7 W F fun a w W F => ?_
    refine Ab ?_
    have F := F.hideR BK h3
    have F := F.frontM (i := 1) Aa Aa
    have F := F.frontM (i := 1) Aa Aa
    exact ⟨_, H, W.ra Aa, F⟩
   rintro a w ⟨x2, hj, W, F⟩
   have hj := Ay hj
   subst hj
   have H := K2
   clear G2 K2
   refine Bi W Aa H (fun W H => ?_) fun W H => ?_
   ·
    refine vc tk 2 W F fun a w W F => ?_
    refine AO (Ml := []) (Zl := []) (β := Value) (rv := fun x => .agg #[Jint ((AG false).un.1), Jint ((AG false).un.2.1), Jint ((AG false).un.2.2.1), x]) (MM := fun x => []) (ZZ := fun x => [row x 36 Bm ((AG false).un.2.2.2)]) W F Zh Aa Aa (fun hL => Ij _ w false _ Aa) fun x a w W F => ?_
    obtain ⟨v7, rfl⟩ : ∃ y, y = x := ⟨x, rfl⟩
    have F : sy Y w0 (Ll b2 b1 p0 v1) [row v7 36 Bm ((AG false).un.2.2.2), row v3 36 Bm x1] w := F
    refine CE 0 W F Aa Aa Aa GN Aa Aa (Ac Aa (Ac Aa (Ac Aa (Ac (F.one (k := 0) Aa) Bn)))) fun w F => ?_
    refine Bo tk 2 W F fun a w W F => ?_
    refine Ah (Aw (AC (Aw ?_)))
    have H := L1 _ H
    have H := Ay H
    subst H
    refine Av (.inl Aa) W F Aa (Cm 0 W Aa Aa GN Aa) ?_
    have F := F.freeze
    have F := F.sub (M' := []) (Z' := [Ch v7 Bm ((AG false).un.2.2.2)]) nl (sc nl)
    exact ⟨(v7), Aa, F⟩
   refine AD (Ab ?_)
   obtain ⟨o3, G3, K3⟩ := Af H
   refine Ap (fun a w => ∃ x4 : Bool, some (x4) = some o3 ∧ Fr 66 [] [(2, pp b1), (4, pp b2), (5, v3), (44, .bool x4)] a ∧ sy Y w0 (Ll b2 b1 p0 v1) [row v3 36 Bm x1] w) ?_ ?_
   ·
    have H := G3
    clear G3 K3
    obtain ⟨v8, h8, F⟩ := F.exR BK
    refine vc tk 2 W F fun a w W F => ?_
    refine ls W F Aa (Bz (r := Bm) (l := x1) IU Aa W Aa (Al BK h8 (Ai 0 Aa))).q fun a w W F => ?_
    refine vl tk 2 W F fun a w W F => ?_
    rcases bxq (decide ((x1.length : Int) = 1)) with hb | hb
    ·
     have H := BB (B4 hb) H
     rw [hb] at W
     clear hb
     refine Dy W F (Ad W Aa Aa Aa Aa) Aa (As Aa) (Ao W Aa).q fun a w W F => ?_
     obtain ⟨x5, h9, H⟩ := Af H
     obtain ⟨v9, h10, h11⟩ := CS h8 h9
     have h12 : He v9 = [Jint x5.un.1, Jint x5.un.2.1, Jint x5.un.2.2.1, (v9.2.2.2.1)] := congrArg (fun q : Tr36 => ([Jint q.un.1, Jint q.un.2.1, Jint q.un.2.2.1, (v9.2.2.2.1)] : List Value)) h11
     refine Dy W F (Ad W Aa Aa Aa Aa) Aa (As Aa) (Au (r := HE) PI W Aa Aa (Ai 0 Aa) h10).q fun a w W F => ?_
     refine Dy W F (Ad W Aa Aa Aa Aa) Aa (As Aa) (Aq Mi Aa Aa Aa T3 W Aa (H5 v3 + (0 : Int).toNat * 4) Aa).q fun a w W F => ?_
     refine Dy W F (Ad W Aa Aa Aa Aa) Aa (As Aa) (Aj (y := Jint x5.un.1) (j := 0) (i := 0) (enc := He) W Aa Aa (Ai 0 Aa) h10 Mp T3 (by rw [h12]; rfl)).q fun a w W F => ?_
     refine vl tk 3 W F fun a w W F => ?_
     refine Ab ?_
     have F := F.hideR BK h8
     have F := F.frontM (i := 1) Aa Aa
     have F := F.frontM (i := 1) Aa Aa
     exact ⟨_, H, W.ra Aa, F⟩
    have H := BC (B1 hb) H
    rw [hb] at W
    clear hb
    refine vl tk 7 W F fun a w W F => ?_
    refine Ab ?_
    have F := F.hideR BK h8
    have F := F.frontM (i := 1) Aa Aa
    have F := F.frontM (i := 1) Aa Aa
    exact ⟨_, H, W.ra Aa, F⟩
   rintro a w ⟨x4, hj, W, F⟩
   have hj := Ay hj
   subst hj
   have H := K3
   clear G3 K3
   refine Bi W Aa H (fun W H => ?_) fun W H => ?_
   ·
    refine vc tk 2 W F fun a w W F => ?_
    refine AO (Ml := []) (Zl := []) (β := Value) (rv := fun x => .agg #[Jint ((AG true).un.1), Jint ((AG true).un.2.1), Jint ((AG true).un.2.2.1), x]) (MM := fun x => []) (ZZ := fun x => [row x 36 Bm ((AG true).un.2.2.2)]) W F Zh Aa Aa (fun hL => Ij _ w true _ Aa) fun x a w W F => ?_
    obtain ⟨v10, rfl⟩ : ∃ y, y = x := ⟨x, rfl⟩
    have F : sy Y w0 (Ll b2 b1 p0 v1) [row v10 36 Bm ((AG true).un.2.2.2), row v3 36 Bm x1] w := F
    refine CE 0 W F Aa Aa Aa GN Aa Aa (Ac Aa (Ac Aa (Ac Aa (Ac (F.one (k := 0) Aa) Bn)))) fun w F => ?_
    refine Bo tk 2 W F fun a w W F => ?_
    refine Ah (AC (Aw ?_))
    have H := L1 _ H
    have H := Ay H
    subst H
    refine Av (.inl Aa) W F Aa (Cm 0 W Aa Aa GN Aa) ?_
    have F := F.freeze
    have F := F.sub (M' := []) (Z' := [Ch v10 Bm ((AG true).un.2.2.2)]) nl (sc nl)
    exact ⟨(v10), Aa, F⟩
   refine AD (Az (Ab ?_))
   have F := F.frontM (i := 1) Aa Aa
   have F := F.frontM (i := 1) Aa Aa
   exact ⟨H, W.ra Aa, F⟩
  have H := BC (B1 hb) H
  rw [hb] at W
  clear hb
  refine vc tk 6 W F fun a w W F => ?_
  refine BS W Aa (fun hb => ?_) fun hb => ?_
  ·
   have H := BB (B4 hb) H
   rw [hb] at W
   clear hb
   refine CT tk 5 [1] W F (ai fun a w W F => ?_)
   obtain ⟨x6, h13, H⟩ := Af H
   have F := F.freeze
   refine AO (Ml := []) (Zl := []) (β := Value) (rv := fun x => .agg #[Jint x6.un.1, Jint x6.un.2.1, Jint x6.un.2.2.1, x]) (MM := fun x => []) (ZZ := fun x => [Ch x Bm x6.un.2.2.2]) W F aC Aa Aa (fun hL => HU _ w (v3) p0.un.1 x1 1 2 _ h13 (F.item (i := 0) Aa)) fun x a w W F => ?_
   obtain ⟨v11, rfl⟩ : ∃ y, y = x := ⟨x, rfl⟩
   have F : sy Y w0 (Ll b2 b1 p0 v1) [Ch v11 Bm x6.un.2.2.2, Ch v3 Bm x1] w := F
   refine CE 0 W F Aa Aa Aa GN Aa Aa (Ac Aa (Ac Aa (Ac Aa (Ac (F.oneF (k := 0) Aa) Bn)))) fun w F => ?_
   refine Bo tk 2 W F fun a w W F => ?_
   refine Ah (AC (Aw ?_))
   have H := L1 _ H
   have H := Ay H
   subst H
   refine Av (.inl Aa) W F Aa (Cm 0 W Aa Aa GN Aa) ?_
   have F := F.sub (M' := []) (Z' := [Ch v11 Bm x6.un.2.2.2]) nl (sc nl)
   exact ⟨(v11), Aa, F⟩
  have H := BC (B1 hb) H
  rw [hb] at W
  clear hb
  refine vc tk 6 W F fun a w W F => ?_
  refine BS W Aa (fun hb => ?_) fun hb => ?_
  ·
   have H := BB (B4 hb) H
   rw [hb] at W
   clear hb
   refine CT tk 5 [1] W F (ai fun a w W F => ?_)
   obtain ⟨x7, h14, H⟩ := Af H
   have F := F.freeze
   refine AO (Ml := []) (Zl := []) (β := Value) (rv := fun x => .agg #[Jint x7.un.1, Jint x7.un.2.1, Jint x7.un.2.2.1, x]) (MM := fun x => []) (ZZ := fun x => [Ch x Bm x7.un.2.2.2]) W F aC Aa Aa (fun hL => HU _ w (v3) p0.un.1 x1 2 1 _ h14 (F.item (i := 0) Aa)) fun x a w W F => ?_
   obtain ⟨v12, rfl⟩ : ∃ y, y = x := ⟨x, rfl⟩
   have F : sy Y w0 (Ll b2 b1 p0 v1) [Ch v12 Bm x7.un.2.2.2, Ch v3 Bm x1] w := F
   refine CE 0 W F Aa Aa Aa GN Aa Aa (Ac Aa (Ac Aa (Ac Aa (Ac (F.oneF (k := 0) Aa) Bn)))) fun w F => ?_
   refine Bo tk 2 W F fun a w W F => ?_
   refine Ah (AC (Aw ?_))
   have H := L1 _ H
   have H := Ay H
   subst H
   refine Av (.inl Aa) W F Aa (Cm 0 W Aa Aa GN Aa) ?_
   have F := F.sub (M' := []) (Z' := [Ch v12 Bm x7.un.2.2.2]) nl (sc nl)
   exact ⟨(v12), Aa, F⟩
  have H := BC (B1 hb) H
  rw [hb] at W
  clear hb
  refine AD (Az (Ab ?_))
  have F := F.frontM (i := 1) Aa Aa
  have F := F.frontM (i := 1) Aa Aa
  exact ⟨H, W.ra Aa, F⟩
 rintro a w ⟨hj, W, F⟩
 have H := K1 _ hj
 clear hj G1 K1 L1
 refine CT tk 9 [1, 1, 1] W F (ai (ai (ai fun a w W F => ?_)))
 refine ls W F Aa (Cf (v := Value.agg #[Jint p0.un.1, Jint p0.un.2.1, Jint p0.un.2.2.1, v3]) Us W Aa (AY Aa Aa Aa (AY Aa Aa Aa (AY Aa Aa Aa (AY Aa (GW (F.one (k := 0) Aa)) Aa CQ)))) Aa).q fun a w W F => ?_
 refine CE 0 W F Aa Aa Aa GN Aa Aa (Ac Aa (Ac Aa (Ac Aa (Ac (F.one (k := 0) Aa) Bn)))) fun w F => ?_
 refine Bo tk 2 W F fun a w W F => ?_
 refine Ah ?_
 have H := Ay H
 subst H
 refine Av (.inl Aa) W F Aa (Cm 0 W Aa Aa GN Aa) ?_
 have F := F.freeze
 have F := F.sub (M' := []) (Z' := [Ch v3 Bm x1]) nl sr
 exact ⟨(v3), Aa, F⟩
theorem Q1 : ∀ (n : Nat) (Y : Nat → Prop) (w0 : World) (v1 : Value) (p0 : Tr36) (p1 : Int) (r : Tr36) (H : C6 n p0 p1 = some r) (h_v1 : Sl w0 (NX []) Bm v1 p0.un.2.2.2), ca_ 22 #[.agg #[Jint p0.un.1, Jint p0.un.2.1, Jint p0.un.2.2.1, v1], Jint p1] w0 fun e w' => ∃ x : Value, e = .returned (.agg #[Jint r.un.1, Jint r.un.2.1, Jint r.un.2.2.1, x]) ∧ sy Y w0 [] [Ch (x) Bm r.un.2.2.2] w' := by
  intro n
  induction n with
  | zero => intro Y w0 v1 p0 p1 r H; exact nomatch H
  | succ n ih => intro Y w0 v1 p0 p1 r H h_v1; exact Pr (C6 n) ih Y w0 v1 p0 p1 r H h_v1
theorem R2 (Y : Nat → Prop) (w0 : World) (v1 : Value) (p0 : Tr36) (p1 : Int) (r : Tr36) (H : IW p0 p1 = some r) (h_v1 : Sl w0 (NX []) Bm v1 p0.un.2.2.2) :
    ca_ 22 #[.agg #[Jint p0.un.1, Jint p0.un.2.1, Jint p0.un.2.2.1, v1], Jint p1] w0 fun e w' => ∃ x : Value, e = .returned (.agg #[Jint r.un.1, Jint r.un.2.1, Jint r.un.2.2.1, x]) ∧ sy Y w0 [] [Ch (x) Bm r.un.2.2.2] w' := by
  obtain ⟨n, H⟩ := BP H
  exact Q1 n Y w0 v1 p0 p1 r H h_v1
theorem Km : type_of% Tryz.underlying37 := Tryz.underlying37
theorem UB : Ty Tryz.prog 37 false 1 := ⟨by kernel_rfl, by kernel_rfl⟩
abbrev Ip (a : Int × (Int × Int × Int × (Value × List Tr36)) × Int × Int × (Value × List Tr39)) : List Value := [Jint a.1, Jint a.2.1.1, Jint a.2.1.2.1, Jint a.2.1.2.2.1, a.2.1.2.2.2.1, Jint a.2.2.1, Jint a.2.2.2.1, a.2.2.2.2.1]
theorem Pt : Fv LM Ip := (Fv.pair Fl.int.to (Fv.pair (Fv.pair Fl.int.to (Fv.pair Fl.int.to (Fv.pair Fl.int.to Fv.vsl))) (Fv.pair Fl.int.to (Fv.pair Fl.int.to Fv.vsl))))
theorem Ta : Et Tryz.prog 37 39 8 96 := Et.of Km (by kernel_rfl) (by kernel_rfl) (by kernel_rfl) (by decide)
theorem XD : Has Tryz.prog 18 := BM Tryz.func18
abbrev C7 (a0 : Tr39) (a1 : Value) (a2 : Value) : List Value := [Jint a0.un.1, Jint a0.un.2.1.un.1, Jint a0.un.2.1.un.2.1, Jint a0.un.2.1.un.2.2.1, a1, Jint a0.un.2.2.1, Jint a0.un.2.2.2.1, a2]
abbrev Gt  : List Value := [Jint 0, Jint 0, Jint 0, Jint 0, .slice none 0 0, Jint 0, Jint 0, .slice none 0 0]
abbrev Ks (a0 : Nat) (a1 : Nat) (a2 : Tr39) (a3 : Int) (a4 : Int) (a5 : Int) (a6 : Value) (a7 : Value) : List (Nat × List Value) := [(a0, [Jint 0, Jint 0, Jint 0, Jint 0, .slice none 0 0, Jint 0, Jint 0, .slice none 0 0]), (a1, [Jint a2.un.1, Jint a3, Jint a4, Jint a5, a6, Jint a2.un.2.2.1, Jint a2.un.2.2.2.1, a7])]
abbrev U9 (a0 : Nat) (a1 : Nat) (a2 : Tr39) (a3 : Value) (a4 : Value) : List (Nat × List Value) := [(a0, [Jint 0, Jint 0, Jint 0, Jint 0, .slice none 0 0, Jint 0, Jint 0, .slice none 0 0]), (a1, [Jint a2.un.1, Jint a2.un.2.1.un.1, Jint a2.un.2.1.un.2.1, Jint a2.un.2.1.un.2.2.1, a3, Jint a2.un.2.2.1, Jint a2.un.2.2.2.1, a4])]
abbrev WD (a0 : Tr39) (a1 : Int) (a2 : Int) (a3 : Int) (a4 : Value) (a5 : Value) : List Value := [Jint a0.un.1, Jint a1, Jint a2, Jint a3, a4, Jint a0.un.2.2.1, Jint a0.un.2.2.2.1, a5]
def Dj (fRec : Tr39 → Int → Option Tr39) (p0 : Tr39) (p1 : Int) : (List Tr39 × Int) → Option ((List Tr39 × Int) ⊕ (List Tr39))
  | (x11, x12) => (if x12 < (p0.un.2.2.2.2.length : Int) then (ix p0.un.2.2.2.2 x12).bind fun x13 => (fRec (Tr39.of (x13.un.1, Tr36.of (x13.un.2.1.un.1, x13.un.2.1.un.2.1, x13.un.2.1.un.2.2.1, x13.un.2.1.un.2.2.2), x13.un.2.2.1, x13.un.2.2.2.1, x13.un.2.2.2.2)) p1).bind fun x14 => (GP x11 ([Tr39.of (x14.un.1, Tr36.of (x14.un.2.1.un.1, x14.un.2.1.un.2.1, x14.un.2.1.un.2.2.1, x14.un.2.1.un.2.2.2), x14.un.2.2.1, x14.un.2.2.2.1, x14.un.2.2.2.2)] : List Tr39)).bind fun x15 => some (.inl (x15, AJ (x12 + 1))) else some (.inr x11))
def D5 (fRec : Tr39 → Int → Option Tr39) (p0 : Tr39) (p1 : Int) : Option Tr39 := (if (decide (p0.un.1 = 1) || decide (p0.un.1 = 5)) = true then (IW (Tr36.of (p0.un.2.1.un.1, p0.un.2.1.un.2.1, p0.un.2.1.un.2.2.1, p0.un.2.1.un.2.2.2)) p1).bind fun x5 => some (x5.un.1, x5.un.2.1, x5.un.2.2.1, x5.un.2.2.2) else some (p0.un.2.1.un.1, p0.un.2.1.un.2.1, p0.un.2.1.un.2.2.1, p0.un.2.1.un.2.2.2)).bind fun (x1, x2, x3, x4) => (if (decide (p0.un.1 = 5) && (decide ((p0.un.2.2.2.2.length : Int) = 2) && decide (x1 = 1))) = true then (ix p0.un.2.2.2.2 0).bind fun x6 => (fRec (Tr39.of (x6.un.1, Tr36.of (x6.un.2.1.un.1, x6.un.2.1.un.2.1, x6.un.2.1.un.2.2.1, x6.un.2.1.un.2.2.2), x6.un.2.2.1, x6.un.2.2.2.1, x6.un.2.2.2.2)) p1).bind fun x7 => some (Tr39.of (x7.un.1, Tr36.of (x7.un.2.1.un.1, x7.un.2.1.un.2.1, x7.un.2.1.un.2.2.1, x7.un.2.1.un.2.2.2), x7.un.2.2.1, x7.un.2.2.2.1, x7.un.2.2.2.2)) else (if (decide (p0.un.1 = 5) && (decide ((p0.un.2.2.2.2.length : Int) = 2) && decide (x1 = 2))) = true then (ix p0.un.2.2.2.2 1).bind fun x8 => (fRec (Tr39.of (x8.un.1, Tr36.of (x8.un.2.1.un.1, x8.un.2.1.un.2.1, x8.un.2.1.un.2.2.1, x8.un.2.1.un.2.2.2), x8.un.2.2.1, x8.un.2.2.2.1, x8.un.2.2.2.2)) p1).bind fun x9 => some (Tr39.of (x9.un.1, Tr36.of (x9.un.2.1.un.1, x9.un.2.1.un.2.1, x9.un.2.1.un.2.2.1, x9.un.2.1.un.2.2.2), x9.un.2.2.1, x9.un.2.2.2.1, x9.un.2.2.2.2)) else (AB (Dj fRec p0 p1) ([], 0)).bind fun x10 => some (Tr39.of (p0.un.1, Tr36.of (x1, x2, x3, x4), p0.un.2.2.1, p0.un.2.2.2.1, x10))))
def C3 : Nat → Tr39 → Int → Option Tr39
  | 0 => fun _ _ => none
  | n + 1 => D5 (C3 n)
def Ga (p0 : Tr39) (p1 : Int) : Option Tr39 := FT fun n => C3 n p0 p1
theorem Qy (fRec : Tr39 → Int → Option Tr39) (ih : ∀ (Y : Nat → Prop) (w0 : World) (v1 : Value) (v2 : Value) (p0 : Tr39) (p1 : Int) (r : Tr39) (H : fRec p0 p1 = some r) (s_v1 : Sl w0 Y Bm v1 p0.un.2.1.un.2.2.2) (s_v2 : Sl w0 Y DF v2 p0.un.2.2.2.2), ca_ 18 #[.agg #[Jint p0.un.1, Jint p0.un.2.1.un.1, Jint p0.un.2.1.un.2.1, Jint p0.un.2.1.un.2.2.1, v1, Jint p0.un.2.2.1, Jint p0.un.2.2.2.1, v2], Jint p1] w0 fun e w' => ∃ x : Value × Value, e = .returned (.agg #[Jint r.un.1, Jint r.un.2.1.un.1, Jint r.un.2.1.un.2.1, Jint r.un.2.1.un.2.2.1, x.1, Jint r.un.2.2.1, Jint r.un.2.2.2.1, x.2]) ∧ sy Y w0 [] [Ch (x.1) Bm r.un.2.1.un.2.2.2, row (x.2) 39 DF r.un.2.2.2.2] w') (Y : Nat → Prop) (w0 : World) (v1 : Value) (v2 : Value) (p0 : Tr39) (p1 : Int) (r : Tr39) (H : D5 fRec p0 p1 = some r) (s_v1 : Sl w0 Y Bm v1 p0.un.2.1.un.2.2.2) (s_v2 : Sl w0 Y DF v2 p0.un.2.2.2.2) :
    ca_ 18 #[.agg #[Jint p0.un.1, Jint p0.un.2.1.un.1, Jint p0.un.2.1.un.2.1, Jint p0.un.2.1.un.2.2.1, v1, Jint p0.un.2.2.1, Jint p0.un.2.2.2.1, v2], Jint p1] w0 fun e w' => ∃ x : Value × Value, e = .returned (.agg #[Jint r.un.1, Jint r.un.2.1.un.1, Jint r.un.2.1.un.2.1, Jint r.un.2.1.un.2.2.1, x.1, Jint r.un.2.2.1, Jint r.un.2.2.2.1, x.2]) ∧ sy Y w0 [] [Ch (x.1) Bm r.un.2.1.un.2.2.2, row (x.2) 39 DF r.un.2.2.2.2] w' := by
 refine enter Tryz.func18 Aa Tryz.ntmps18 Aa fun a W => ?_
 have F := Stw.start Y w0
 obtain ⟨v3, h1, s_v1⟩ := s_v1.ex BK
 obtain ⟨v4, h2, s_v2⟩ := s_v2.ex Er
 have h_v1 := F.nx s_v1
 have h_v2 := F.nx s_v2
 unfold D5 at H
 refine vc tk 2 W F fun a w W F => ?_
 refine BQ (cs := (C7 p0 v1 v2)) W F Aa Aa Aa fun b1 a w W F => ?_
 refine Bw (cs := (Gt)) W F Aa Sv Aa fun b2 a w W F => ?_
 refine F6 (Ab ?_)
 obtain ⟨o1, G1, K1⟩ := Af H
 refine Ap (fun a w => ∃ x1 : Int, ∃ x2 : Int, ∃ x3 : Int, ∃ x4 : List Tr36, ∃ v5 : Value, some ((x1, x2, x3, x4)) = some o1 ∧ Fr 80 [] [(1, Jint p1), (2, pp b1), (4, pp b2)] a ∧ sy Y w0 (Ks b2 b1 p0 x1 x2 x3 v5 v2) [Ch v5 Bm x4] w) ?_ ?_
 ·
  have H := G1
  clear G1 K1
  refine Ap (fun a w => Fr 80 [] [(1, Jint p1), (2, pp b1), (4, pp b2), (15, .bool (decide (p0.un.1 = 1) || decide (p0.un.1 = 5)))] a ∧ sy Y w0 (U9 b2 b1 p0 v1 v2) [] w) ?_ ?_
  ·
   refine CT tk 5 [1] W F (ai fun a w W F => ?_)
   rcases bxq (decide (p0.un.1 = 1)) with hb0 | hb0
   ·
    rw [hb0] at W
    refine vl tk 5 W F fun a w W F => ?_
    refine Ab ?_
    exact ⟨W.re ⟨rfl, Aa, Aa, (CL (by try rw [hb0]; all_goals simp only [CM])), trivial⟩, F⟩
   rw [hb0] at W
   refine DU tk 5 [1] W F (ai fun a w W F => ?_)
   refine Ab ?_
   exact ⟨W.re ⟨rfl, Aa, Aa, (CL (by try rw [hb0]; all_goals simp only [CM])), trivial⟩, F⟩
  rintro a w ⟨W, F⟩
  refine Bi W Aa H (fun W H => ?_) fun W H => ?_
  ·
   refine CT tk 4 [1] W F (ai fun a w W F => ?_)
   obtain ⟨x5, h3, H⟩ := Af H
   refine AO (Ml := []) (Zl := []) (β := Value) (rv := fun x => .agg #[Jint x5.un.1, Jint x5.un.2.1, Jint x5.un.2.2.1, x]) (MM := fun x => []) (ZZ := fun x => [Ch x Bm x5.un.2.2.2]) W F aI Aa Aa (fun hL => R2 _ w (v1) (Tr36.of (p0.un.2.1.un.1, p0.un.2.1.un.2.1, p0.un.2.1.un.2.2.1, p0.un.2.1.un.2.2.2)) p1 _ h3 ((Al BK h1 (Ae h_v1)) w F).nx) fun x a w W F => ?_
   obtain ⟨v6, rfl⟩ : ∃ y, y = x := ⟨x, rfl⟩
   have F : sy Y w0 (U9 b2 b1 p0 v1 v2) [Ch v6 Bm x5.un.2.2.2] w := F
   refine ls W F Aa (Aq Ih Aa Aa Aa GN W Aa 1 Aa).q fun a w W F => ?_
   refine CE 1 W F Aa Aa Aa GN Aa Aa (Ac Aa (Ac Aa (Ac Aa (Ac (F.oneF (k := 0) Aa) Bn)))) fun w F => ?_
   refine F6 (Ab ?_)
   have F := F.frontM (i := 1) Aa Aa
   have F := F.frontM (i := 1) Aa Aa
   exact ⟨_, _, _, _, (v6), H, W.ra Aa, F⟩
  refine AD (Ab ?_)
  have F := F.note (Sl.hide BK h1 (F.old s_v1))
  have F := F.frontM (i := 1) Aa Aa
  have F := F.frontM (i := 1) Aa Aa
  exact ⟨_, _, _, _, (v1), H, W.ra Aa, F⟩
 rintro a w ⟨x1, x2, x3, x4, v5, hj, W, F⟩
 have hj := Ay hj
 subst hj
 have H := K1
 clear G1 K1
 refine FG ?_
 refine Ap (fun a w => Fr 80 [] [(1, Jint p1), (2, pp b1), (4, pp b2), (35, .bool (decide (p0.un.1 = 5) && (decide ((p0.un.2.2.2.2.length : Int) = 2) && decide (x1 = 1))))] a ∧ sy Y w0 (Ks b2 b1 p0 x1 x2 x3 v5 v2) [Ch v5 Bm x4] w) ?_ ?_
 ·
  refine CT tk 5 [1] W F (ai fun a w W F => ?_)
  rcases bxq (decide (p0.un.1 = 5)) with hb0 | hb0
  ·
   rw [hb0] at W
   refine DU tk 2 [1] W F (ai fun a w W F => ?_)
   refine Dy W F (Ad W Aa Aa Aa Aa) Aa (As Aa) (Bz (r := DF) (l := p0.un.2.2.2.2) Km Aa W Aa (Al Er h2 (Ae h_v2))).q fun a w W F => ?_
   refine vl tk 3 W F fun a w W F => ?_
   rcases bxq (decide ((p0.un.2.2.2.2.length : Int) = 2)) with hb1 | hb1
   ·
    rw [hb1] at W
    refine DU tk 6 [1] W F (ai fun a w W F => ?_)
    refine Ab ?_
    exact ⟨W.re ⟨rfl, Aa, Aa, (CL (by try rw [hb1]; try rw [hb0]; all_goals simp only [CM])), trivial⟩, F⟩
   rw [hb1] at W
   refine vl tk 6 W F fun a w W F => ?_
   refine Ab ?_
   exact ⟨W.re ⟨rfl, Aa, Aa, (CL (by try rw [hb1]; try rw [hb0]; all_goals simp only [CM])), trivial⟩, F⟩
  rw [hb0] at W
  refine vl tk 12 W F fun a w W F => ?_
  refine Ab ?_
  exact ⟨W.re ⟨rfl, Aa, Aa, (CL (by try rw [hb0]; all_goals simp only [CM])), trivial⟩, F⟩
 rintro a w ⟨W, F⟩
 refine Bi W Aa H (fun W H => ?_) fun W H => ?_
 ·
  refine FG ?_
  obtain ⟨v7, h4, F⟩ := F.exF BK
  refine CT tk 3 [1] W F (ai fun a w W F => ?_)
  obtain ⟨x6, h5, H⟩ := Af H
  obtain ⟨v8, h6, h7⟩ := CS h2 h5
  have h8 : Ip v8 = [Jint x6.un.1, Jint x6.un.2.1.un.1, Jint x6.un.2.1.un.2.1, Jint x6.un.2.1.un.2.2.1, (v8.2.1.2.2.2.1), Jint x6.un.2.2.1, Jint x6.un.2.2.2.1, (v8.2.2.2.2.1)] := congrArg (fun q : Tr39 => ([Jint q.un.1, Jint q.un.2.1.un.1, Jint q.un.2.1.un.2.1, Jint q.un.2.1.un.2.2.1, (v8.2.1.2.2.2.1), Jint q.un.2.2.1, Jint q.un.2.2.2.1, (v8.2.2.2.2.1)] : List Value)) h7
  refine ls W F Aa (Au (r := LM) Ta W Aa Aa (Ae h_v2) h6).q fun a w W F => ?_
  refine ls W F Aa (Aj (y := Value.agg #[Jint x6.un.1, Jint x6.un.2.1.un.1, Jint x6.un.2.1.un.2.1, Jint x6.un.2.1.un.2.2.1, (v8.2.1.2.2.2.1), Jint x6.un.2.2.1, Jint x6.un.2.2.2.1, (v8.2.2.2.2.1)]) (j := 0) (i := 0) (enc := Ip) W Aa Aa (Ae h_v2) h6 Pt I7 (by rw [h8]; rfl)).q fun a w W F => ?_
  refine ls W F Aa (Ao W Aa).q fun a w W F => ?_
  obtain ⟨x7, h9, H⟩ := Af H
  refine AO (Ml := []) (Zl := []) (β := Value × Value) (rv := fun x => .agg #[Jint x7.un.1, Jint x7.un.2.1.un.1, Jint x7.un.2.1.un.2.1, Jint x7.un.2.1.un.2.2.1, x.1, Jint x7.un.2.2.1, Jint x7.un.2.2.2.1, x.2]) (MM := fun x => []) (ZZ := fun x => [Ch x.1 Bm x7.un.2.1.un.2.2.2, row x.2 39 DF x7.un.2.2.2.2]) W F XD Aa Aa (fun hL => ih _ w ((v8.2.1.2.2.2.1)) ((v8.2.2.2.2.1)) (Tr39.of (x6.un.1, Tr36.of (x6.un.2.1.un.1, x6.un.2.1.un.2.1, x6.un.2.1.un.2.2.1, x6.un.2.1.un.2.2.2), x6.un.2.2.1, x6.un.2.2.2.1, x6.un.2.2.2.2)) p1 _ h9 (Sl.at_ (F.old s_v2) h6 (Ag.snd (Ag.fst (Ag.snd (Ag.snd (Ag.snd Ag.here))))) (congrArg (fun q : Tr39 => q.un.2.1.un.2.2.2) h7)) (Sl.at_ (F.old s_v2) h6 (Ag.snd (Ag.snd (Ag.snd (Ag.snd Ag.here)))) (congrArg (fun q : Tr39 => q.un.2.2.2.2) h7))) fun x a w W F => ?_
  obtain ⟨v9, v10⟩ := x
  have F : sy Y w0 (Ks b2 b1 p0 x1 x2 x3 v5 v2) [Ch v9 Bm x7.un.2.1.un.2.2.2, row v10 39 DF x7.un.2.2.2.2, Ch v5 HE v7] w := F
  refine CE 0 W F Aa Aa Aa I7 Aa Aa (Ac Aa (Ac Aa (Ac Aa (Ac Aa (Ac (F.oneF (k := 0) Aa) (Ac Aa (Ac Aa (Ac (F.one (k := 1) Aa) Bn)))))))) fun w F => ?_
  refine Bo tk 2 W F fun a w W F => ?_
  refine Ah (Aw ?_)
  have H := Ay H
  subst H
  refine Av (.inl Aa) W F Aa (Cm 0 W Aa Aa I7 Aa) ?_
  have F := F.frontZ (i := 1) Aa Aa
  have F := F.frontZ (i := 1) Aa Aa
  have F := F.sub (M' := []) (Z' := [Ch v9 Bm x7.un.2.1.un.2.2.2, row v10 39 DF x7.un.2.2.2.2]) nl (sc (sc nl))
  exact ⟨((v9), (v10)), Aa, F⟩
 refine EX tk 3 W F fun a w W F => ?_
 refine Ap (fun a w => Fr 80 [] [(1, Jint p1), (2, pp b1), (4, pp b2), (56, .bool (decide (p0.un.1 = 5) && (decide ((p0.un.2.2.2.2.length : Int) = 2) && decide (x1 = 2))))] a ∧ sy Y w0 (Ks b2 b1 p0 x1 x2 x3 v5 v2) [Ch v5 Bm x4] w) ?_ ?_
 ·
  refine CT tk 5 [1] W F (ai fun a w W F => ?_)
  rcases bxq (decide (p0.un.1 = 5)) with hb0 | hb0
  ·
   rw [hb0] at W
   refine DU tk 2 [1] W F (ai fun a w W F => ?_)
   refine Dy W F (Ad W Aa Aa Aa Aa) Aa (As Aa) (Bz (r := DF) (l := p0.un.2.2.2.2) Km Aa W Aa (Al Er h2 (Ae h_v2))).q fun a w W F => ?_
   refine vl tk 3 W F fun a w W F => ?_
   rcases bxq (decide ((p0.un.2.2.2.2.length : Int) = 2)) with hb1 | hb1
   ·
    rw [hb1] at W
    refine DU tk 6 [1] W F (ai fun a w W F => ?_)
    refine Ab ?_
    exact ⟨W.re ⟨rfl, Aa, Aa, (CL (by try rw [hb1]; try rw [hb0]; all_goals simp only [CM])), trivial⟩, F⟩
   rw [hb1] at W
   refine vl tk 6 W F fun a w W F => ?_
   refine Ab ?_
   exact ⟨W.re ⟨rfl, Aa, Aa, (CL (by try rw [hb1]; try rw [hb0]; all_goals simp only [CM])), trivial⟩, F⟩
  rw [hb0] at W
  refine vl tk 12 W F fun a w W F => ?_
  refine Ab ?_
  exact ⟨W.re ⟨rfl, Aa, Aa, (CL (by try rw [hb0]; all_goals simp only [CM])), trivial⟩, F⟩
 rintro a w ⟨W, F⟩
 refine Bi W Aa H (fun W H => ?_) fun W H => ?_
 ·
  refine FG ?_
  obtain ⟨v11, h10, F⟩ := F.exF BK
  refine CT tk 3 [1] W F (ai fun a w W F => ?_)
  obtain ⟨x8, h11, H⟩ := Af H
  obtain ⟨v12, h12, h13⟩ := CS h2 h11
  have h14 : Ip v12 = [Jint x8.un.1, Jint x8.un.2.1.un.1, Jint x8.un.2.1.un.2.1, Jint x8.un.2.1.un.2.2.1, (v12.2.1.2.2.2.1), Jint x8.un.2.2.1, Jint x8.un.2.2.2.1, (v12.2.2.2.2.1)] := congrArg (fun q : Tr39 => ([Jint q.un.1, Jint q.un.2.1.un.1, Jint q.un.2.1.un.2.1, Jint q.un.2.1.un.2.2.1, (v12.2.1.2.2.2.1), Jint q.un.2.2.1, Jint q.un.2.2.2.1, (v12.2.2.2.2.1)] : List Value)) h13
  refine ls W F Aa (Au (r := LM) Ta W Aa Aa (Ae h_v2) h12).q fun a w W F => ?_
  refine ls W F Aa (Aj (y := Value.agg #[Jint x8.un.1, Jint x8.un.2.1.un.1, Jint x8.un.2.1.un.2.1, Jint x8.un.2.1.un.2.2.1, (v12.2.1.2.2.2.1), Jint x8.un.2.2.1, Jint x8.un.2.2.2.1, (v12.2.2.2.2.1)]) (j := 0) (i := 1) (enc := Ip) W Aa Aa (Ae h_v2) h12 Pt I7 (by rw [h14]; rfl)).q fun a w W F => ?_
  refine ls W F Aa (Ao W Aa).q fun a w W F => ?_
  obtain ⟨x9, h15, H⟩ := Af H
  refine AO (Ml := []) (Zl := []) (β := Value × Value) (rv := fun x => .agg #[Jint x9.un.1, Jint x9.un.2.1.un.1, Jint x9.un.2.1.un.2.1, Jint x9.un.2.1.un.2.2.1, x.1, Jint x9.un.2.2.1, Jint x9.un.2.2.2.1, x.2]) (MM := fun x => []) (ZZ := fun x => [Ch x.1 Bm x9.un.2.1.un.2.2.2, row x.2 39 DF x9.un.2.2.2.2]) W F XD Aa Aa (fun hL => ih _ w ((v12.2.1.2.2.2.1)) ((v12.2.2.2.2.1)) (Tr39.of (x8.un.1, Tr36.of (x8.un.2.1.un.1, x8.un.2.1.un.2.1, x8.un.2.1.un.2.2.1, x8.un.2.1.un.2.2.2), x8.un.2.2.1, x8.un.2.2.2.1, x8.un.2.2.2.2)) p1 _ h15 (Sl.at_ (F.old s_v2) h12 (Ag.snd (Ag.fst (Ag.snd (Ag.snd (Ag.snd Ag.here))))) (congrArg (fun q : Tr39 => q.un.2.1.un.2.2.2) h13)) (Sl.at_ (F.old s_v2) h12 (Ag.snd (Ag.snd (Ag.snd (Ag.snd Ag.here)))) (congrArg (fun q : Tr39 => q.un.2.2.2.2) h13))) fun x a w W F => ?_
  obtain ⟨v13, v14⟩ := x
  have F : sy Y w0 (Ks b2 b1 p0 x1 x2 x3 v5 v2) [Ch v13 Bm x9.un.2.1.un.2.2.2, row v14 39 DF x9.un.2.2.2.2, Ch v5 HE v11] w := F
  refine CE 0 W F Aa Aa Aa I7 Aa Aa (Ac Aa (Ac Aa (Ac Aa (Ac Aa (Ac (F.oneF (k := 0) Aa) (Ac Aa (Ac Aa (Ac (F.one (k := 1) Aa) Bn)))))))) fun w F => ?_
  refine Bo tk 2 W F fun a w W F => ?_
  refine Ah (Aw ?_)
  have H := Ay H
  subst H
  refine Av (.inl Aa) W F Aa (Cm 0 W Aa Aa I7 Aa) ?_
  have F := F.frontZ (i := 1) Aa Aa
  have F := F.frontZ (i := 1) Aa Aa
  have F := F.sub (M' := []) (Z' := [Ch v13 Bm x9.un.2.1.un.2.2.2, row v14 39 DF x9.un.2.2.2.2]) nl (sc (sc nl))
  exact ⟨((v13), (v14)), Aa, F⟩
 refine EX tk 7 W F fun a w W F => ?_
 obtain ⟨o2, G2, K2⟩ := Af H
 refine Ap (fun a w => ∃ x10 : List Tr39, ∃ v15 : Value, some (x10) = some o2 ∧ Fr 80 [] [(2, pp b1), (4, pp b2), (5, v15)] a ∧ sy Y w0 (Ks b2 b1 p0 x1 x2 x3 v5 v2) [row v15 39 DF x10, Ch v5 Bm x4] w) ?_ ?_
 ·
  have H := G2
  clear G2 K2
  refine CT tk 4 [1] W F (ai fun a w W F => ?_)
  refine ls W F Aa (Bz (r := DF) (l := p0.un.2.2.2.2) Km Aa W Aa (Al Er h2 (Ae h_v2))).q fun a w W F => ?_
  refine Bo tk 4 W F fun a w W F => ?_
  have F := F.nilRow 39 DF
  have F := F.frontZ (i := 1) Aa Aa
  have F := F.frontZ (i := 1) Aa Aa
  have F := F.frontM (i := 1) Aa Aa
  have F := F.frontM (i := 1) Aa Aa
  refine AQ H (fun s a w => ∃ v16 : Value, Fr 80 [] [(1, Jint p1), (2, pp b1), (4, pp b2), (5, v16), (64, v2), (65, Jint (p0.un.2.2.2.2.length : Int)), (66, Jint s.2)] a ∧ sy Y w0 (Ks b2 b1 p0 x1 x2 x3 v5 v2) [row v16 39 DF s.1, Ch v5 Bm x4] w) ⟨(Value.slice none 0 0), W.ra Aa, F⟩ fun s o a w H L3 hR => ?_
  obtain ⟨x11, x12⟩ := s
  obtain ⟨v16, W, F⟩ := hR
  have W : Fr 80 [] [(1, Jint p1), (2, pp b1), (4, pp b2), (5, v16), (64, v2), (65, Jint (p0.un.2.2.2.2.length : Int)), (66, Jint x12)] a := W
  have F : sy Y w0 (Ks b2 b1 p0 x1 x2 x3 v5 v2) [row v16 39 DF x11, Ch v5 Bm x4] w := F
  rw [Dj] at H
  refine vc tk 6 W F fun a w W F => ?_
  refine A1 W Aa H (fun W H => ?_) fun W H => ?_
  ·
   refine EX tk 5 W F fun a w W F => ?_
   obtain ⟨v17, h16, F⟩ := F.exR Er
   have F := F.frontZ (i := 1) Aa Aa
   obtain ⟨v18, h17, F⟩ := F.exF BK
   refine LW ?_
   obtain ⟨x13, h18, H⟩ := Af H
   obtain ⟨v19, h19, h20⟩ := CS h2 h18
   have h21 : Ip v19 = [Jint x13.un.1, Jint x13.un.2.1.un.1, Jint x13.un.2.1.un.2.1, Jint x13.un.2.1.un.2.2.1, (v19.2.1.2.2.2.1), Jint x13.un.2.2.1, Jint x13.un.2.2.2.1, (v19.2.2.2.2.1)] := congrArg (fun q : Tr39 => ([Jint q.un.1, Jint q.un.2.1.un.1, Jint q.un.2.1.un.2.1, Jint q.un.2.1.un.2.2.1, (v19.2.1.2.2.2.1), Jint q.un.2.2.1, Jint q.un.2.2.2.1, (v19.2.2.2.2.1)] : List Value)) h20
   refine ls W F Aa (Au (r := LM) Ta W Aa Aa (Ae h_v2) h19).q fun a w W F => ?_
   refine ls W F Aa (Aj (y := Value.agg #[Jint x13.un.1, Jint x13.un.2.1.un.1, Jint x13.un.2.1.un.2.1, Jint x13.un.2.1.un.2.2.1, (v19.2.1.2.2.2.1), Jint x13.un.2.2.1, Jint x13.un.2.2.2.1, (v19.2.2.2.2.1)]) (j := 0) (i := x12) (enc := Ip) W Aa Aa (Ae h_v2) h19 Pt I7 (by rw [h21]; rfl)).q fun a w W F => ?_
   refine Bw (cs := (Gt)) W F Aa Sv Aa fun b3 a w W F => ?_
   refine CE 0 W F Aa Aa Aa I7 Aa Aa (Ac Aa (Ac Aa (Ac Aa (Ac Aa (Ac ((Bf (Ae h_v2) h19 (Ag.snd (Ag.fst (Ag.snd (Ag.snd (Ag.snd Ag.here))))) (congrArg (fun q : Tr39 => q.un.2.1.un.2.2.2) h20)) _ F).one (Ac Aa (Ac Aa (Ac ((Bf (Ae h_v2) h19 (Ag.snd (Ag.snd (Ag.snd (Ag.snd Ag.here)))) (congrArg (fun q : Tr39 => q.un.2.2.2.2) h20)) _ F).one Bn)))))))) fun w F => ?_
   refine Es tk 6 [0] W F (ai fun a w W F => ?_)
   obtain ⟨x14, h22, H⟩ := Af H
   refine AO (Ml := []) (Zl := []) (β := Value × Value) (rv := fun x => .agg #[Jint x14.un.1, Jint x14.un.2.1.un.1, Jint x14.un.2.1.un.2.1, Jint x14.un.2.1.un.2.2.1, x.1, Jint x14.un.2.2.1, Jint x14.un.2.2.2.1, x.2]) (MM := fun x => []) (ZZ := fun x => [Ch x.1 Bm x14.un.2.1.un.2.2.2, row x.2 39 DF x14.un.2.2.2.2]) W F XD Aa Aa (fun hL => ih _ w ((v19.2.1.2.2.2.1)) ((v19.2.2.2.2.1)) (Tr39.of (x13.un.1, Tr36.of (x13.un.2.1.un.1, x13.un.2.1.un.2.1, x13.un.2.1.un.2.2.1, x13.un.2.1.un.2.2.2), x13.un.2.2.1, x13.un.2.2.2.1, x13.un.2.2.2.2)) p1 _ h22 (Sl.at_ (F.old s_v2) h19 (Ag.snd (Ag.fst (Ag.snd (Ag.snd (Ag.snd Ag.here))))) (congrArg (fun q : Tr39 => q.un.2.1.un.2.2.2) h20)) (Sl.at_ (F.old s_v2) h19 (Ag.snd (Ag.snd (Ag.snd (Ag.snd Ag.here)))) (congrArg (fun q : Tr39 => q.un.2.2.2.2) h20))) fun x a w W F => ?_
   obtain ⟨v20, v21⟩ := x
   have F : sy Y w0 [(b3, [Jint x13.un.1, Jint x13.un.2.1.un.1, Jint x13.un.2.1.un.2.1, Jint x13.un.2.1.un.2.2.1, (v19.2.1.2.2.2.1), Jint x13.un.2.2.1, Jint x13.un.2.2.2.1, (v19.2.2.2.2.1)]), (b2, (Gt)), (b1, (WD p0 x1 x2 x3 v5 v2))] [Ch v20 Bm x14.un.2.1.un.2.2.2, row v21 39 DF x14.un.2.2.2.2, Ch v5 HE v18, row v16 39 LM v17] w := F
   have F := F.frontZ (i := 1) Aa Aa
   have F := F.freeze
   refine GT (z := Value.agg #[Jint 0, Jint 0, Jint 0, Jint 0, .slice none 0 0, Jint 0, Jint 0, .slice none 0 0]) (cs := (C7 x14 v20 v21)) DF ([Tr39.of (x14.un.1, Tr36.of (x14.un.2.1.un.1, x14.un.2.1.un.2.1, x14.un.2.1.un.2.2.1, x14.un.2.1.un.2.2.2), x14.un.2.2.1, x14.un.2.2.2.1, x14.un.2.2.2.2)] : List Tr39) W F Aa Ta Sv Aa Aa Aa (AY Aa Aa Aa CQ) Aa Aa ⟨[Jint x14.un.1, Jint x14.un.2.1.un.1, Jint x14.un.2.1.un.2.1, Jint x14.un.2.1.un.2.2.1, v20, Jint x14.un.2.2.1, Jint x14.un.2.2.2.1, v21], _, Aa, (X7.2 ⟨[Jint x14.un.1], [Jint x14.un.2.1.un.1, Jint x14.un.2.1.un.2.1, Jint x14.un.2.1.un.2.2.1, v20, Jint x14.un.2.2.1, Jint x14.un.2.2.2.1, v21], Aa, Aa, ⟨[Jint x14.un.2.1.un.1, Jint x14.un.2.1.un.2.1, Jint x14.un.2.1.un.2.2.1, v20], [Jint x14.un.2.2.1, Jint x14.un.2.2.2.1, v21], Aa, (SI.2 ⟨[Jint x14.un.2.1.un.1], [Jint x14.un.2.1.un.2.1, Jint x14.un.2.1.un.2.2.1, v20], Aa, Aa, ⟨[Jint x14.un.2.1.un.2.1], [Jint x14.un.2.1.un.2.2.1, v20], Aa, Aa, ⟨[Jint x14.un.2.1.un.2.2.1], [v20], Aa, Aa, ⟨_, Aa, (F.item (i := 1) Aa)⟩⟩⟩⟩), ⟨[Jint x14.un.2.2.1], [Jint x14.un.2.2.2.1, v21], Aa, Aa, ⟨[Jint x14.un.2.2.2.1], [v21], Aa, Aa, ⟨_, Aa, (F.item (i := 0) Aa)⟩⟩⟩⟩⟩), Aa⟩ fun v22 a w W F => ?_
   have F := F.frontZ (i := 4) Aa Aa
   have F := F.hideR Er h16
   obtain ⟨x15, h23, H⟩ := Af H
   refine DL (r := DF) (i := 0) W F Aa Ta Aa Aa Aa Aa (EB F 1 Aa) h23 Aa fun v23 a w W F => ?_
   have F : sy Y w0 [(b3, [Jint x13.un.1, Jint x13.un.2.1.un.1, Jint x13.un.2.1.un.2.1, Jint x13.un.2.1.un.2.2.1, (v19.2.1.2.2.2.1), Jint x13.un.2.2.1, Jint x13.un.2.2.2.1, (v19.2.2.2.2.1)]), (b2, (Gt)), (b1, (WD p0 x1 x2 x3 v5 v2))] [row v23 39 DF x15, row v22 39 DF ([Tr39.of (x14.un.1, Tr36.of (x14.un.2.1.un.1, x14.un.2.1.un.2.1, x14.un.2.1.un.2.2.1, x14.un.2.1.un.2.2.2), x14.un.2.2.1, x14.un.2.2.2.1, x14.un.2.2.2.2)] : List Tr39), Ch v21 DF x14.un.2.2.2.2, Ch v20 Bm x14.un.2.1.un.2.2.2, Ch v5 HE v18] w := F
   refine vl tk 2 W F fun a w W F => ?_
   refine Az ?_
   refine vn tk 4 W F fun a w W F => ?_
   refine Ab ?_
   have F := F.frontZ (i := 4) Aa Aa
   have F := F.hideF BK h17
   have F := F.frontZ (i := 1) Aa Aa
   have F := F.frontM (i := 2) Aa Aa
   have F := F.frontM (i := 2) Aa Aa
   have F := F.sub (M' := (Ks b2 b1 p0 x1 x2 x3 v5 v2)) (Z' := [row v23 39 DF x15, Ch v5 Bm x4]) (sc (sc nl)) (sc (sc nl))
   exact ⟨_, H, (v23), W.ra Aa, F⟩
  refine AN ?_
  iterate 2 refine A6 ?_
  refine AP (Ab ?_)
  have F := F.frontZ (i := 1) Aa Aa
  have F := F.frontZ (i := 1) Aa Aa
  have F := F.frontM (i := 1) Aa Aa
  have F := F.frontM (i := 1) Aa Aa
  have H := L3 _ H
  exact ⟨_, (v16), H, W.ra Aa, F⟩
 rintro a w ⟨x10, v15, hj, W, F⟩
 have hj := Ay hj
 subst hj
 have H := K2
 clear G2 K2
 refine vc tk 4 W F fun a w W F => ?_
 refine IV (M' := (Ks b2 b1 p0 x1 x2 x3 v5 v15)) 1 W F Aa Aa Aa UB (F.one (k := 0) Aa) Aa Aa fun w F => ?_
 refine Es tk 5 [1] W F (ai fun a w W F => ?_)
 refine CE 0 W F Aa Aa Aa I7 Aa Aa (Ac Aa (Ac Aa (Ac Aa (Ac Aa (Ac (F.oneF (k := 1) Aa) (Ac Aa (Ac Aa (Ac (F.one (k := 0) Aa) Bn)))))))) fun w F => ?_
 refine Bo tk 2 W F fun a w W F => ?_
 refine Ah ?_
 have H := Ay H
 subst H
 refine Av (.inl Aa) W F Aa (Cm 0 W Aa Aa I7 Aa) ?_
 have F := F.frontZ (i := 1) Aa Aa
 have F := F.sub (M' := []) (Z' := [Ch v5 Bm x4, row v15 39 DF x10]) nl sr
 exact ⟨((v5), (v15)), Aa, F⟩
theorem Sd : ∀ (n : Nat) (Y : Nat → Prop) (w0 : World) (v1 : Value) (v2 : Value) (p0 : Tr39) (p1 : Int) (r : Tr39) (H : C3 n p0 p1 = some r) (s_v1 : Sl w0 Y Bm v1 p0.un.2.1.un.2.2.2) (s_v2 : Sl w0 Y DF v2 p0.un.2.2.2.2), ca_ 18 #[.agg #[Jint p0.un.1, Jint p0.un.2.1.un.1, Jint p0.un.2.1.un.2.1, Jint p0.un.2.1.un.2.2.1, v1, Jint p0.un.2.2.1, Jint p0.un.2.2.2.1, v2], Jint p1] w0 fun e w' => ∃ x : Value × Value, e = .returned (.agg #[Jint r.un.1, Jint r.un.2.1.un.1, Jint r.un.2.1.un.2.1, Jint r.un.2.1.un.2.2.1, x.1, Jint r.un.2.2.1, Jint r.un.2.2.2.1, x.2]) ∧ sy Y w0 [] [Ch (x.1) Bm r.un.2.1.un.2.2.2, row (x.2) 39 DF r.un.2.2.2.2] w' := by
  intro n
  induction n with
  | zero => intro Y w0 v1 v2 p0 p1 r H; exact nomatch H
  | succ n ih => intro Y w0 v1 v2 p0 p1 r H s_v1 s_v2; exact Qy (C3 n) ih Y w0 v1 v2 p0 p1 r H s_v1 s_v2
theorem KR (Y : Nat → Prop) (w0 : World) (v1 : Value) (v2 : Value) (p0 : Tr39) (p1 : Int) (r : Tr39) (H : Ga p0 p1 = some r) (s_v1 : Sl w0 Y Bm v1 p0.un.2.1.un.2.2.2) (s_v2 : Sl w0 Y DF v2 p0.un.2.2.2.2) :
    ca_ 18 #[.agg #[Jint p0.un.1, Jint p0.un.2.1.un.1, Jint p0.un.2.1.un.2.1, Jint p0.un.2.1.un.2.2.1, v1, Jint p0.un.2.2.1, Jint p0.un.2.2.2.1, v2], Jint p1] w0 fun e w' => ∃ x : Value × Value, e = .returned (.agg #[Jint r.un.1, Jint r.un.2.1.un.1, Jint r.un.2.1.un.2.1, Jint r.un.2.1.un.2.2.1, x.1, Jint r.un.2.2.1, Jint r.un.2.2.2.1, x.2]) ∧ sy Y w0 [] [Ch (x.1) Bm r.un.2.1.un.2.2.2, row (x.2) 39 DF r.un.2.2.2.2] w' := by
  obtain ⟨n, H⟩ := BP H
  exact Sd n Y w0 v1 v2 p0 p1 r H s_v1 s_v2
theorem MO : Tryz.prog.follows .mixedOrders = true := by kernel_rfl
def EP (p0 : Int) : lb_ := (if p0 = 0 then ([115, 114, 99] : lb_) else (if p0 = 1 then ([100, 115, 116] : lb_) else (if p0 = 2 then ([107, 105, 110, 100] : lb_) else (if p0 = 3 then ([116, 97, 103] : lb_) else (if p0 = 4 then ([112, 111, 114, 116] : lb_) else (if p0 = 5 then ([115, 119, 105, 116, 99, 104] : lb_) else ([63] : lb_)))))))
theorem Mq (Y : Nat → Prop) (w0 : World)  (p0 : Int) (r : lb_) (H : EP p0 = r)  :
    ca_ 106 #[Jint p0] w0 fun e w' => e = .returned (.string (bs r)) ∧ Below w0.heap.size w0 w' := by
 refine enter Tryz.func106 Aa Tryz.ntmps106 Aa fun a W => ?_
 have F := Stw.start Y w0
 unfold EP at H
 refine vc tk 2 W F fun a w W F => ?_
 refine ls W F Aa (Bj (v := Value.string (bs ([] : lb_))) W Aa).q fun a w W F => ?_
 refine Bo tk 15 W F fun a w W F => ?_
 refine BS W Aa (fun hb => ?_) fun hb => ?_
 ·
  have H := BB (B4 hb) H
  rw [hb] at W
  clear hb
  refine vc tk 2 W F fun a w W F => ?_
  refine ls W F Aa (Bj (v := Value.string (bs ([115, 114, 99] : lb_))) W Aa).q fun a w W F => ?_
  refine Bo tk 2 W F fun a w W F => ?_
  refine Ah (AC (Aw ?_))
  subst H
  refine Av (.inl Aa) W F Aa (Am W Aa) ?_
  exact ⟨rfl, F.done⟩
 have H := BC (B1 hb) H
 rw [hb] at W
 clear hb
 refine vc tk 6 W F fun a w W F => ?_
 refine BS W Aa (fun hb => ?_) fun hb => ?_
 ·
  have H := BB (B4 hb) H
  rw [hb] at W
  clear hb
  refine vc tk 2 W F fun a w W F => ?_
  refine ls W F Aa (Bj (v := Value.string (bs ([100, 115, 116] : lb_))) W Aa).q fun a w W F => ?_
  refine Bo tk 2 W F fun a w W F => ?_
  refine Ah (AC (Aw ?_))
  subst H
  refine Av (.inl Aa) W F Aa (Am W Aa) ?_
  exact ⟨rfl, F.done⟩
 have H := BC (B1 hb) H
 rw [hb] at W
 clear hb
 refine vc tk 6 W F fun a w W F => ?_
 refine BS W Aa (fun hb => ?_) fun hb => ?_
 ·
  have H := BB (B4 hb) H
  rw [hb] at W
  clear hb
  refine vc tk 2 W F fun a w W F => ?_
  refine ls W F Aa (Bj (v := Value.string (bs ([107, 105, 110, 100] : lb_))) W Aa).q fun a w W F => ?_
  refine Bo tk 2 W F fun a w W F => ?_
  refine Ah (AC (Aw ?_))
  subst H
  refine Av (.inl Aa) W F Aa (Am W Aa) ?_
  exact ⟨rfl, F.done⟩
 have H := BC (B1 hb) H
 rw [hb] at W
 clear hb
 refine vc tk 6 W F fun a w W F => ?_
 refine BS W Aa (fun hb => ?_) fun hb => ?_
 ·
  have H := BB (B4 hb) H
  rw [hb] at W
  clear hb
  refine vc tk 2 W F fun a w W F => ?_
  refine ls W F Aa (Bj (v := Value.string (bs ([116, 97, 103] : lb_))) W Aa).q fun a w W F => ?_
  refine Bo tk 2 W F fun a w W F => ?_
  refine Ah (AC (Aw ?_))
  subst H
  refine Av (.inl Aa) W F Aa (Am W Aa) ?_
  exact ⟨rfl, F.done⟩
 have H := BC (B1 hb) H
 rw [hb] at W
 clear hb
 refine vc tk 6 W F fun a w W F => ?_
 refine BS W Aa (fun hb => ?_) fun hb => ?_
 ·
  have H := BB (B4 hb) H
  rw [hb] at W
  clear hb
  refine vc tk 2 W F fun a w W F => ?_
  refine ls W F Aa (Bj (v := Value.string (bs ([112, 111, 114, 116] : lb_))) W Aa).q fun a w W F => ?_
  refine Bo tk 2 W F fun a w W F => ?_
  refine Ah (AC (Aw ?_))
  subst H
  refine Av (.inl Aa) W F Aa (Am W Aa) ?_
  exact ⟨rfl, F.done⟩
 have H := BC (B1 hb) H
 rw [hb] at W
 clear hb
 refine vc tk 6 W F fun a w W F => ?_
 refine BS W Aa (fun hb => ?_) fun hb => ?_
 ·
  have H := BB (B4 hb) H
  rw [hb] at W
  clear hb
  refine vc tk 2 W F fun a w W F => ?_
  refine ls W F Aa (Bj (v := Value.string (bs ([115, 119, 105, 116, 99, 104] : lb_))) W Aa).q fun a w W F => ?_
  refine Bo tk 2 W F fun a w W F => ?_
  refine Ah (AC (Aw ?_))
  subst H
  refine Av (.inl Aa) W F Aa (Am W Aa) ?_
  exact ⟨rfl, F.done⟩
 have H := BC (B1 hb) H
 rw [hb] at W
 clear hb
 refine AD (Az ?_)
 refine vn tk 2 W F fun a w W F => ?_
 refine ls W F Aa (Bj (v := Value.string (bs ([63] : lb_))) W Aa).q fun a w W F => ?_
 refine Bo tk 2 W F fun a w W F => ?_
 refine Ah ?_
 subst H
 refine Av (.inl Aa) W F Aa (Am W Aa) ?_
 exact ⟨rfl, F.done⟩
end
end Go.Proofs.YtgoifghhcekahaaGreatDoor
