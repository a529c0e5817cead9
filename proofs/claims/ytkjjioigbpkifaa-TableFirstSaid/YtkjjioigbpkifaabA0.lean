/- The functions of layer 11, DP. Conditions: none. -/
import Derived.Test.YtkjjioigbpkifaaRows
import Derived.Test.YtkjjioigbpkifaabOT
import Derived.Test.YtkjjioigbpkifaabQT
import Derived.Test.YtkjjioigbpkifaabOD
import Derived.Test.YtkjjioigbpkifaabOC
import Derived.Test.YtkjjioigbpkifaabOM
import Derived.Test.YtkjjioigbpkifaabXC
import Derived.Test.YtkjjioigbpkifaabOX
namespace Go.Proofs.Ytkjjioigbpkifaa
open Go Go.RowKit
set_option linter.unusedVariables false
set_option linter.unusedSimpArgs false
set_option maxRecDepth 20000
theorem Ee : type_of% Try.underlying22 := Try.underlying22
theorem Iw : type_of% Try.underlying38 := Try.underlying38
theorem Cp : type_of% Try.underlying40 := Try.underlying40
abbrev Lo : Rp (Int × Int × Int × Int) := (Rp.pair (Rp.int .i64) (Rp.pair (Rp.int .i64) (Rp.pair (Rp.int .i64) (Rp.int .i64))))
abbrev Lk : Rp (Int × (Int × Int × Int × Int) × (Int × Int × Int × Int)) := (Rp.pair (Rp.int .i64) (Rp.pair Lo Lo))
abbrev BB : Rp (Int × Int × Int) := (Rp.pair (Rp.int .i64) (Rp.pair (Rp.int .i64) (Rp.int .i64)))
abbrev A4 : Rp (Int × (Int × (Int × Int × Int × Int) × (Int × Int × Int × Int)) × (List (Int × Int × Int))) := (Rp.pair (Rp.int .i64) (Rp.pair Lk (Rp.slice BB)))
abbrev Cz : Rp (Int × (Int × (Int × Int × Int × Int) × (Int × Int × Int × Int)) × (Value × List (Int × Int × Int))) := (Rp.pair (Rp.int .i64) (Rp.pair Lk (Rp.vsl BB)))
abbrev LK (p : Int × (Int × (Int × Int × Int × Int) × (Int × Int × Int × Int)) × (Value × List (Int × Int × Int))) : Int × (Int × (Int × Int × Int × Int) × (Int × Int × Int × Int)) × (List (Int × Int × Int)) := (p.1, p.2.1, p.2.2.2)
theorem Bz : Ex A4 Cz LK := (Ex.pair Ex.rfl' (Ex.pair Ex.rfl' Ex.sliceF))
def Mz (a : Int × Int × Int × Int) : List Value := [.int .i64 a.1, .int .i64 a.2.1, .int .i64 a.2.2.1, .int .i64 a.2.2.2]
theorem Md : Fl Lo Mz := (Fl.pair Fl.int (Fl.pair Fl.int (Fl.pair Fl.int Fl.int)))
def Mn (a : Int × (Int × Int × Int × Int) × (Int × Int × Int × Int)) : List Value := [.int .i64 a.1, .int .i64 a.2.1.1, .int .i64 a.2.1.2.1, .int .i64 a.2.1.2.2.1, .int .i64 a.2.1.2.2.2, .int .i64 a.2.2.1, .int .i64 a.2.2.2.1, .int .i64 a.2.2.2.2.1, .int .i64 a.2.2.2.2.2]
theorem Ma : Fl Lk Mn := (Fl.pair Fl.int (Fl.pair Md Md))
abbrev B9 (a : Int × (Int × (Int × Int × Int × Int) × (Int × Int × Int × Int)) × (Value × List (Int × Int × Int))) : List Value := [.int .i64 a.1, .int .i64 a.2.1.1, .int .i64 a.2.1.2.1.1, .int .i64 a.2.1.2.1.2.1, .int .i64 a.2.1.2.1.2.2.1, .int .i64 a.2.1.2.1.2.2.2, .int .i64 a.2.1.2.2.1, .int .i64 a.2.1.2.2.2.1, .int .i64 a.2.1.2.2.2.2.1, .int .i64 a.2.1.2.2.2.2.2, a.2.2.1]
theorem DZ : FA Cz B9 := (FA.pair Fl.int.to (FA.pair Ma.to FA.vsl))
theorem EQ : Et Try.prog 22 40 11 104 := Et.of Ee (by kernel_rfl) (by kernel_rfl) (by kernel_rfl) (by decide)
theorem Ib : Ty Try.prog 38 false 1 := ⟨by kernel_rfl, by kernel_rfl⟩
noncomputable def Dx (p0 : List (Int × (Int × (Int × Int × Int × Int) × (Int × Int × Int × Int)) × (List (Int × Int × Int)))) : Int → Option (Int ⊕ (Unit ⊕ Bool))
  | x1 => (if x1 < (p0.length : Int) then (ix p0 x1).bind fun x2 => (if 10 < (x2.2.2.length : Int) then some (.inr (.inr false)) else some (.inl (C3 (x1 + 1)))) else some (.inr (.inl ())))
noncomputable def Fd (p0 : List (Int × (Int × (Int × Int × Int × Int) × (Int × Int × Int × Int)) × (List (Int × Int × Int)))) : Option Bool := FC (BG (Dx p0) 0) fun _ => some (decide ((p0.length : Int) ≤ 20))
theorem In (Y : Nat → Prop) (w0 : World) (v1 : Value) (p0 : List (Int × (Int × (Int × Int × Int × Int) × (Int × Int × Int × Int)) × (List (Int × Int × Int)))) (r : Bool) (H : Fd p0 = some r) (h_v1 : Sl w0 (NX []) A4 v1 p0) :
    Calls Try.prog 8 #[v1] w0 fun e w' => e = .returned (.bool r) ∧ Below w0.heap.size w0 w' := by
 refine enter Try.func8 Aa Try.ntmps8 Aa fun a F => ?_
 have W := Stw.start Y w0
 obtain ⟨v2, h1, h_v1⟩ := h_v1.ex Bz
 unfold Fd at H
 refine Ak (Ae ?_)
 refine ls F W Aa (Af F Aa).q fun a w F W => ?_
 refine Ag (Ad ?_)
 obtain ⟨o1, G1, K1, L1⟩ := Ia H
 refine AJ (fun a w => some (Sum.inl ()) = some o1 ∧ Fr 20 [] [(0, v1), (2, .bool false)] a ∧ Stw ⟨Y, [], w0⟩ [] [] w) ?_ ?_
 ·
  have H := G1
  clear G1 K1
  refine Ak (Ae ?_)
  refine ls F W Aa (Af F Aa).q fun a w F W => ?_
  refine Ag (Ad (AA ?_))
  refine BW H (fun s a w => Fr 20 [] [(0, v1), (2, .bool false), (3, .int .i64 s)] a ∧ Stw ⟨Y, [], w0⟩ [] [] w) ⟨F.re ⟨rfl, Aa, Aa, trivial⟩, W⟩ fun s o a w H L2 hR => ?_
  obtain ⟨x1, rfl⟩ : ∃ x, x = s := ⟨s, rfl⟩
  obtain ⟨F, W⟩ := hR
  have F : Fr 20 [] [(0, v1), (2, .bool false), (3, .int .i64 x1)] a := F
  have W : Stw ⟨Y, [], w0⟩ [] [] w := W
  rw [Dx] at H
  refine Ak (Ak (Ae ?_))
  iterate 2 refine ls F W Aa (Ai F Aa).q fun a w F W => ?_
  refine ls F W Aa (Cl (r := A4) (l := p0) Ee Aa F Aa (Bk Bz h1 (Ax h_v1))).q fun a w F W => ?_
  refine ls F W Aa (BO F Aa Aa).q fun a w F W => ?_
  refine Ag (Ad ?_)
  refine Az F Aa (fun hb => ?_) fun hb => ?_
  ·
   have H := AL (Bd hb) H
   rw [hb] at F
   clear hb
   refine Ay (Ad (Ak (AA (Ak (Ae ?_)))))
   iterate 2 refine ls F W Aa (Ai F Aa).q fun a w F W => ?_
   obtain ⟨x2, h2, H⟩ := Aq H
   obtain ⟨v3, h3, h4⟩ := Cr h1 h2
   have h5 : B9 v3 = [.int .i64 x2.1, .int .i64 x2.2.1.1, .int .i64 x2.2.1.2.1.1, .int .i64 x2.2.1.2.1.2.1, .int .i64 x2.2.1.2.1.2.2.1, .int .i64 x2.2.1.2.1.2.2.2, .int .i64 x2.2.1.2.2.1, .int .i64 x2.2.1.2.2.2.1, .int .i64 x2.2.1.2.2.2.2.1, .int .i64 x2.2.1.2.2.2.2.2, (v3.2.2.1)] := congrArg (fun q : Int × (Int × (Int × Int × Int × Int) × (Int × Int × Int × Int)) × (List (Int × Int × Int)) => ([.int .i64 q.1, .int .i64 q.2.1.1, .int .i64 q.2.1.2.1.1, .int .i64 q.2.1.2.1.2.1, .int .i64 q.2.1.2.1.2.2.1, .int .i64 q.2.1.2.1.2.2.2, .int .i64 q.2.1.2.2.1, .int .i64 q.2.1.2.2.2.1, .int .i64 q.2.1.2.2.2.2.1, .int .i64 q.2.1.2.2.2.2.2, (v3.2.2.1)] : List Value)) h4
   refine ls F W Aa (Bo (r := Cz) EQ F Aa Aa (Ax h_v1) h3).q fun a w F W => ?_
   refine ls F W Aa (Al Cp Aa Aa Aa Ib F Aa (Ei v1 + (x1).toNat * 11 + 10) Aa).q fun a w F W => ?_
   refine ls F W Aa (A9 (y := (v3.2.2.1)) (j := 10) (i := x1) (enc := B9) F Aa Aa (Ax h_v1) h3 DZ Ib (by rw [h5]; rfl)).q fun a w F W => ?_
   refine ls F W Aa (Cl (r := BB) (l := x2.2.2) Iw Aa F Aa (ED (Ax h_v1) h3 (BR.snd (BR.snd BR.here)) (congrArg (fun q : Int × (Int × (Int × Int × Int × Int) × (Int × Int × Int × Int)) × (List (Int × Int × Int)) => q.2.2) h4))).q fun a w F W => ?_
   refine ls F W Aa (Fw F Aa Aa).q fun a w F W => ?_
   refine Ag (Ad ?_)
   refine Az F Aa (fun hb => ?_) fun hb => ?_
   ·
    have H := AL (Bd hb) H
    rw [hb] at F
    clear hb
    refine Ak (Ae ?_)
    refine ls F W Aa (Af F Aa).q fun a w F W => ?_
    refine Ag (Ad (Aw (AM ?_)))
    iterate 2 refine AB ?_
    refine AM (AB ?_)
    have H := L2 _ H
    have H := L1 _ H
    have H := AO H
    subst H
    refine AF (.inl Aa) F W Aa (Av F Aa) ?_
    exact ⟨rfl, W.done⟩
   have H := AK (Be hb) H
   rw [hb] at F
   clear hb
   refine Ay (AV (Ad (Ae ?_)))
   refine ls F W Aa (Ai F Aa).q fun a w F W => ?_
   refine ls F W Aa (Cg F Aa Aa Aa).q fun a w F W => ?_
   refine ls F W Aa (Af F Aa).q fun a w F W => ?_
   refine Ag (Ad ?_)
   exact ⟨_, H, F.re ⟨rfl, Aa, Aa, trivial⟩, W⟩
  have H := AK (Be hb) H
  rw [hb] at F
  clear hb
  refine BV ?_
  iterate 2 refine Cd ?_
  refine BU (Ad ?_)
  have H := L2 _ H
  exact ⟨H, F.re ⟨rfl, Aa, trivial⟩, W⟩
 rintro a w ⟨hj, F, W⟩
 have H := K1 _ hj
 clear hj G1 K1 L1
 refine Ak (Ae ?_)
 refine ls F W Aa (Ai F Aa).q fun a w F W => ?_
 refine ls F W Aa (Cl (r := A4) (l := p0) Ee Aa F Aa (Bk Bz h1 (Ax h_v1))).q fun a w F W => ?_
 refine ls F W Aa (GH F Aa Aa).q fun a w F W => ?_
 refine ls F W Aa (Af F Aa).q fun a w F W => ?_
 refine Ag (Ad (Aw ?_))
 have H := AO H
 subst H
 refine AF (.inl Aa) F W Aa (Av F Aa) ?_
 exact ⟨rfl, W.done⟩
theorem CJ : type_of% Try.underlying37 := Try.underlying37
theorem H8 : Has Try.prog 8 := ⟨fun args w => An Try.func8 rfl (by decide) args w⟩
theorem KH : (Try.prog.info? 37).bind (·.zero) = some (.agg #[.int .i64 0, .int .i64 0, .int .i64 0, .int .i64 0, .int .i64 0, .int .i64 0, .int .i64 0, .int .i64 0, .int .i64 0]) := by kernel_rfl
theorem LP : Bt Try.prog 37 [.int .i64 0, .int .i64 0, .int .i64 0, .int .i64 0, .int .i64 0, .int .i64 0, .int .i64 0, .int .i64 0, .int .i64 0] [(0, 1), (1, 4), (5, 4)] := ⟨⟨.agg #[.int .i64 0, .int .i64 0, .int .i64 0, .int .i64 0, .int .i64 0, .int .i64 0, .int .i64 0, .int .i64 0, .int .i64 0], by kernel_rfl, rfl⟩, ⟨_, CJ, fun w => by kernel_rfl⟩⟩
theorem El : Ty Try.prog 37 true 9 := ⟨by kernel_rfl, by kernel_rfl⟩
def Ac  : (Int × (Int × Int × Int × Int) × (Int × Int × Int × Int)) := ((-1), (0, 0, 0, 0), (0, 0, 0, 0))
theorem GJ (Y : Nat → Prop) (w0 : World)   (r : (Int × (Int × Int × Int × Int) × (Int × Int × Int × Int))) (H : Ac  = r)  :
    Calls Try.prog 28 #[] w0 fun e w' => e = .returned (.agg #[.int .i64 r.1, .int .i64 r.2.1.1, .int .i64 r.2.1.2.1, .int .i64 r.2.1.2.2.1, .int .i64 r.2.1.2.2.2, .int .i64 r.2.2.1, .int .i64 r.2.2.2.1, .int .i64 r.2.2.2.2.1, .int .i64 r.2.2.2.2.2]) ∧ Below w0.heap.size w0 w' := by
 refine enter Try.func28 Aa Try.ntmps28 Aa fun a F => ?_
 have W := Stw.start Y w0
 unfold Ac at H
 refine Ak (Ae ?_)
 refine Cf (cs := [.int .i64 0, .int .i64 0, .int .i64 0, .int .i64 0, .int .i64 0, .int .i64 0, .int .i64 0, .int .i64 0, .int .i64 0]) F W Aa KH Aa fun b1 a w F W => ?_
 refine Ag (Ad (Ak (Ae ?_)))
 refine ls F W Aa (DS (v := Value.agg #[.int .i64 (-1), .int .i64 0, .int .i64 0, .int .i64 0, .int .i64 0, .int .i64 0, .int .i64 0, .int .i64 0, .int .i64 0]) LP F Aa Aa Aa).q fun a w F W => ?_
 refine BM (vs := [.int .i64 (-1), .int .i64 0, .int .i64 0, .int .i64 0, .int .i64 0, .int .i64 0, .int .i64 0, .int .i64 0, .int .i64 0]) (M' := [(b1, [.int .i64 (-1), .int .i64 0, .int .i64 0, .int .i64 0, .int .i64 0, .int .i64 0, .int .i64 0, .int .i64 0, .int .i64 0])]) 0 F W Aa Aa Aa El Aa Aa Aa Aa Aa fun w W => ?_
 refine Ag (Ad (Aw ?_))
 subst H
 refine AF (.inl Aa) F W Aa (Ew 0 F Aa Aa El Aa) ?_
 exact ⟨rfl, W.done⟩
theorem Fy : type_of% Try.underlying42 := Try.underlying42
theorem DE : type_of% Try.underlying61 := Try.underlying61
theorem Mf : Has Try.prog 28 := ⟨fun args w => An Try.func28 rfl (by decide) args w⟩
theorem Mc : Bt Try.prog 61 [.int .i64 0, .int .i64 0, .int .i64 0] [(0, 1), (1, 1), (2, 1)] := ⟨⟨.agg #[.int .i64 0, .int .i64 0, .int .i64 0], by kernel_rfl, rfl⟩, ⟨_, DE, fun w => by kernel_rfl⟩⟩
theorem Lb : (Try.prog.info? 61).bind (·.zero) = some (.agg #[.int .i64 0, .int .i64 0, .int .i64 0]) := by kernel_rfl
def My (a : Int × Int × Int) : List Value := [.int .i64 a.1, .int .i64 a.2.1, .int .i64 a.2.2]
theorem KK : Fl BB My := (Fl.pair Fl.int (Fl.pair Fl.int Fl.int))
theorem Ks : Et Try.prog 38 61 3 24 := Et.of Iw (by kernel_rfl) (by kernel_rfl) (by kernel_rfl) (by decide)
theorem Mg : Bt Try.prog 40 [.int .i64 0, .int .i64 0, .int .i64 0, .int .i64 0, .int .i64 0, .int .i64 0, .int .i64 0, .int .i64 0, .int .i64 0, .int .i64 0, .slice none 0 0] [(0, 1), (1, 9), (10, 1)] := ⟨⟨.agg #[.int .i64 0, .int .i64 0, .int .i64 0, .int .i64 0, .int .i64 0, .int .i64 0, .int .i64 0, .int .i64 0, .int .i64 0, .int .i64 0, .slice none 0 0], by kernel_rfl, rfl⟩, ⟨_, Cp, fun w => by kernel_rfl⟩⟩
theorem Jk : (Try.prog.info? 40).bind (·.zero) = some (.agg #[.int .i64 0, .int .i64 0, .int .i64 0, .int .i64 0, .int .i64 0, .int .i64 0, .int .i64 0, .int .i64 0, .int .i64 0, .int .i64 0, .slice none 0 0]) := by kernel_rfl
theorem C6 : Ty Try.prog 40 true 11 := ⟨by kernel_rfl, by kernel_rfl⟩
theorem MO : Try.prog.follows .mixedOrders = true := by kernel_rfl
theorem L9 : Bt Try.prog 42 [.int .i64 0, .int .i64 0, .int .i64 0, .int .i64 0, .int .i64 0, .int .i64 0, .int .i64 0, .int .i64 0, .int .i64 0, .int .i64 0, .int .i64 0, .slice none 0 0, .bool false] [(0, 1), (1, 11), (12, 1)] := ⟨⟨.agg #[.int .i64 0, .int .i64 0, .int .i64 0, .int .i64 0, .int .i64 0, .int .i64 0, .int .i64 0, .int .i64 0, .int .i64 0, .int .i64 0, .int .i64 0, .slice none 0 0, .bool false], by kernel_rfl, rfl⟩, ⟨_, Fy, fun w => by kernel_rfl⟩⟩
noncomputable def DX (p0 : Int) : Option Int := (if p0 = 0 then some true else (if p0 = 1 then some true else some (decide (p0 = 3)))).bind fun x1 => (if x1 = true then some 8 else (if p0 = 2 then some 4 else some 0))
theorem Hw (Y : Nat → Prop) (w0 : World)  (p0 : Int) (r : Int) (H : DX p0 = some r)  :
    Calls Try.prog 83 #[.int .i64 p0] w0 fun e w' => e = .returned (.int .i64 r) ∧ Below w0.heap.size w0 w' := by
 refine enter Try.func83 Aa Try.ntmps83 Aa fun a F => ?_
 have W := Stw.start Y w0
 unfold DX at H
 refine Ak (Ae ?_)
 refine ls F W Aa (Af F Aa).q fun a w F W => ?_
 refine Ag (Ad (Ak (Ak (Ae ?_))))
 refine ls F W Aa (Ai F Aa).q fun a w F W => ?_
 refine Ag (Ad (AA ?_))
 obtain ⟨o1, G1, K1⟩ := Aq H
 refine AJ (fun a w => ∃ x1 : Bool, some (x1) = some o1 ∧ Fr 10 [] [(2, .int .i64 0), (3, .int .i64 p0), (4, .bool x1)] a ∧ Stw ⟨Y, [], w0⟩ [] [] w) ?_ ?_
 ·
  have H := G1
  clear G1 K1
  refine Ak (Ae ?_)
  refine ls F W Aa (BP F Aa Aa).q fun a w F W => ?_
  refine ls F W Aa (Af F Aa).q fun a w F W => ?_
  refine Ag (Ad ?_)
  refine Az F Aa (fun hb => ?_) fun hb => ?_
  ·
   have H := AL (Bd hb) H
   rw [hb] at F
   clear hb
   refine Ay (Ad ?_)
   exact ⟨_, H, F.re ⟨rfl, Aa, Aa, trivial⟩, W⟩
  have H := AK (Be hb) H
  rw [hb] at F
  clear hb
  refine Ak (Ae ?_)
  refine ls F W Aa (BP F Aa Aa).q fun a w F W => ?_
  refine ls F W Aa (Af F Aa).q fun a w F W => ?_
  refine Ag (Ad ?_)
  refine Az F Aa (fun hb => ?_) fun hb => ?_
  ·
   have H := AL (Bd hb) H
   rw [hb] at F
   clear hb
   refine Ay (Ad ?_)
   exact ⟨_, H, F.re ⟨rfl, Aa, Aa, trivial⟩, W⟩
  have H := AK (Be hb) H
  rw [hb] at F
  clear hb
  refine Ae ?_
  refine ls F W Aa (BP F Aa Aa).q fun a w F W => ?_
  refine ls F W Aa (Af F Aa).q fun a w F W => ?_
  refine Ag (Ad ?_)
  exact ⟨_, H, F.re ⟨rfl, Aa, Aa, trivial⟩, W⟩
 rintro a w ⟨x1, hj, F, W⟩
 have hj := AO hj
 subst hj
 have H := K1
 clear G1 K1
 refine Az F Aa (fun hb => ?_) fun hb => ?_
 ·
  have H := AL hb H
  rw [hb] at F
  clear hb
  refine Ak (Ae ?_)
  refine ls F W Aa (Af F Aa).q fun a w F W => ?_
  refine Ag (Ad (Aw (AM (AB ?_))))
  have H := AO H
  subst H
  refine AF (.inl Aa) F W Aa (Av F Aa) ?_
  exact ⟨rfl, W.done⟩
 have H := AK (by rw [hb]; decide) H
 rw [hb] at F
 clear hb
 refine Ak (Ae ?_)
 refine ls F W Aa (BP F Aa Aa).q fun a w F W => ?_
 refine ls F W Aa (Af F Aa).q fun a w F W => ?_
 refine Ag (Ad ?_)
 refine Az F Aa (fun hb => ?_) fun hb => ?_
 ·
  have H := AL (Bd hb) H
  rw [hb] at F
  clear hb
  refine Ak (Ae ?_)
  refine ls F W Aa (Af F Aa).q fun a w F W => ?_
  refine Ag (Ad (Aw (AM (AB ?_))))
  have H := AO H
  subst H
  refine AF (.inl Aa) F W Aa (Av F Aa) ?_
  exact ⟨rfl, W.done⟩
 have H := AK (Be hb) H
 rw [hb] at F
 clear hb
 refine Ay (AV (Ad (Ak (Ae ?_))))
 refine ls F W Aa (Af F Aa).q fun a w F W => ?_
 refine Ag (Ad (Aw ?_))
 have H := AO H
 subst H
 refine AF (.inl Aa) F W Aa (Av F Aa) ?_
 exact ⟨rfl, W.done⟩
theorem Mp : Has Try.prog 83 := ⟨fun args w => An Try.func83 rfl (by decide) args w⟩
noncomputable def Cx (p0 : Int) : Option Int := (DX p0).bind fun x1 => (Li (J7 .i64 1 x1) x1).bind fun x2 => some (C3 (x2 - 1))
theorem Dz (Y : Nat → Prop) (w0 : World)  (p0 : Int) (r : Int) (H : Cx p0 = some r)  :
    Calls Try.prog 73 #[.int .i64 p0] w0 fun e w' => e = .returned (.int .i64 r) ∧ Below w0.heap.size w0 w' := by
 refine enter Try.func73 Aa Try.ntmps73 Aa fun a F => ?_
 have W := Stw.start Y w0
 unfold Cx at H
 refine Ak (Ae ?_)
 refine ls F W Aa (Af F Aa).q fun a w F W => ?_
 refine Ag (Ad (Ak (Ae ?_)))
 refine ls F W Aa (Ai F Aa).q fun a w F W => ?_
 obtain ⟨x1, h1, H⟩ := Aq H
 refine ls F W Aa (AW (v := Value.int .i64 x1) F Mp Aa (fun w W => Hw any w p0 _ h1)) fun a w F W => ?_
 obtain ⟨x2, h2, H⟩ := Aq H
 refine ls F W Aa (KS (Ii h2).2 (K9 F Aa Aa (Ii h2).1)).q fun a w F W => ?_
 refine ls F W Aa (Kf F Aa Aa Aa).q fun a w F W => ?_
 refine ls F W Aa (Af F Aa).q fun a w F W => ?_
 refine Ag (Ad (Aw ?_))
 have H := AO H
 subst H
 refine AF (.inl Aa) F W Aa (Av F Aa) ?_
 exact ⟨rfl, W.done⟩
theorem LD : type_of% Try.underlying23 := Try.underlying23
theorem KN : Has Try.prog 73 := ⟨fun args w => An Try.func73 rfl (by decide) args w⟩
theorem Gu : Ty Try.prog 23 true 4 := ⟨by kernel_rfl, by kernel_rfl⟩
theorem Ep : Ar Try.prog 23 4 3 1 := ⟨LD, by kernel_rfl⟩
theorem T3 : Ty Try.prog 3 false 1 := ⟨by kernel_rfl, by kernel_rfl⟩
noncomputable def FG (p0 : Int) (p1 : Int) : Option (Int × (Int × Int × Int × Int) × (Int × Int × Int × Int)) := (if p0 < 0 then some true else (if 4 ≤ p0 then some true else (if p1 < 0 then some true else (Cx p0).bind fun x2 => some (decide (x2 < p1))))).bind fun x1 => (if x1 = true then some Ac else (ix ([Ac.2.1.1, Ac.2.1.2.1, Ac.2.1.2.2.1, Ac.2.1.2.2.2] : List Int) p0).bind fun x3 => (Cx p0).bind fun x4 => (ix ([Ac.2.2.1, Ac.2.2.2.1, Ac.2.2.2.2.1, Ac.2.2.2.2.2] : List Int) p0).bind fun x5 => some (Ac.1, ((if p0 = 0 then p1 else Ac.2.1.1), (if p0 = 1 then p1 else Ac.2.1.2.1), (if p0 = 2 then p1 else Ac.2.1.2.2.1), (if p0 = 3 then p1 else Ac.2.1.2.2.2)), ((if p0 = 0 then x4 else Ac.2.2.1), (if p0 = 1 then x4 else Ac.2.2.2.1), (if p0 = 2 then x4 else Ac.2.2.2.2.1), (if p0 = 3 then x4 else Ac.2.2.2.2.2))))
theorem II (Y : Nat → Prop) (w0 : World)  (p0 : Int) (p1 : Int) (r : (Int × (Int × Int × Int × Int) × (Int × Int × Int × Int))) (H : FG p0 p1 = some r)  :
    Calls Try.prog 53 #[.int .i64 p0, .int .i64 p1] w0 fun e w' => e = .returned (.agg #[.int .i64 r.1, .int .i64 r.2.1.1, .int .i64 r.2.1.2.1, .int .i64 r.2.1.2.2.1, .int .i64 r.2.1.2.2.2, .int .i64 r.2.2.1, .int .i64 r.2.2.2.1, .int .i64 r.2.2.2.2.1, .int .i64 r.2.2.2.2.2]) ∧ Below w0.heap.size w0 w' := by
 refine enter Try.func53 Aa Try.ntmps53 Aa fun a F => ?_
 have W := Stw.start Y w0
 unfold FG at H
 refine Ak (Ae ?_)
 refine Cf (cs := [.int .i64 0, .int .i64 0, .int .i64 0, .int .i64 0, .int .i64 0, .int .i64 0, .int .i64 0, .int .i64 0, .int .i64 0]) F W Aa KH Aa fun b1 a w F W => ?_
 refine Ag (Ad (Ak (Ae ?_)))
 refine ls F W Aa (AW (v := Value.agg #[.int .i64 Ac.1, .int .i64 Ac.2.1.1, .int .i64 Ac.2.1.2.1, .int .i64 Ac.2.1.2.2.1, .int .i64 Ac.2.1.2.2.2, .int .i64 Ac.2.2.1, .int .i64 Ac.2.2.2.1, .int .i64 Ac.2.2.2.2.1, .int .i64 Ac.2.2.2.2.2]) F Mf Aa (fun w W => GJ any w _ Aa)) fun a w F W => ?_
 refine Cf (cs := [.int .i64 0, .int .i64 0, .int .i64 0, .int .i64 0, .int .i64 0, .int .i64 0, .int .i64 0, .int .i64 0, .int .i64 0]) F W Aa KH Aa fun b2 a w F W => ?_
 refine BM (vs := [.int .i64 Ac.1, .int .i64 Ac.2.1.1, .int .i64 Ac.2.1.2.1, .int .i64 Ac.2.1.2.2.1, .int .i64 Ac.2.1.2.2.2, .int .i64 Ac.2.2.1, .int .i64 Ac.2.2.2.1, .int .i64 Ac.2.2.2.2.1, .int .i64 Ac.2.2.2.2.2]) (M' := [(b2, [.int .i64 Ac.1, .int .i64 Ac.2.1.1, .int .i64 Ac.2.1.2.1, .int .i64 Ac.2.1.2.2.1, .int .i64 Ac.2.1.2.2.2, .int .i64 Ac.2.2.1, .int .i64 Ac.2.2.2.1, .int .i64 Ac.2.2.2.2.1, .int .i64 Ac.2.2.2.2.2]), (b1, [.int .i64 0, .int .i64 0, .int .i64 0, .int .i64 0, .int .i64 0, .int .i64 0, .int .i64 0, .int .i64 0, .int .i64 0])]) 0 F W Aa Aa Aa El Aa Aa Aa Aa Aa fun w W => ?_
 refine Ag (Ad (Ak ?_))
 obtain ⟨o1, G1, K1⟩ := Aq H
 refine AJ (fun a w => ∃ x1 : Bool, some (x1) = some o1 ∧ Fr 34 [] [(0, .int .i64 p0), (1, .int .i64 p1), (4, .pointer (some ⟨b1, 0, none⟩)), (5, .pointer (some ⟨b2, 0, none⟩)), (22, .bool x1)] a ∧ Stw ⟨Y, [], w0⟩ [(b2, [.int .i64 Ac.1, .int .i64 Ac.2.1.1, .int .i64 Ac.2.1.2.1, .int .i64 Ac.2.1.2.2.1, .int .i64 Ac.2.1.2.2.2, .int .i64 Ac.2.2.1, .int .i64 Ac.2.2.2.1, .int .i64 Ac.2.2.2.2.1, .int .i64 Ac.2.2.2.2.2]), (b1, [.int .i64 0, .int .i64 0, .int .i64 0, .int .i64 0, .int .i64 0, .int .i64 0, .int .i64 0, .int .i64 0, .int .i64 0])] [] w) ?_ ?_
 ·
  have H := G1
  clear G1 K1
  refine Ae ?_
  refine ls F W Aa (Ai F Aa).q fun a w F W => ?_
  refine ls F W Aa (BO F Aa Aa).q fun a w F W => ?_
  refine ls F W Aa (Ai F Aa).q fun a w F W => ?_
  rcases Bool.eq_false_or_eq_true (decide (p0 < 0)) with hb | hb
  ·
   have H := AL (Bd hb) H
   rw [hb] at F
   clear hb
   iterate 2 refine Cw F Aa Aa Aa Aa Aa Aa Aa fun a F => ?_
   refine ls F W Aa (Au F Aa Aa Aa).q fun a w F W => ?_
   refine ls F W Aa (Ai F Aa).q fun a w F W => ?_
   iterate 2 refine Cw F Aa Aa Aa Aa Aa Aa Aa fun a F => ?_
   refine ls F W Aa (Au F Aa Aa Aa).q fun a w F W => ?_
   refine ls F W Aa (Ai F Aa).q fun a w F W => ?_
   iterate 4 refine Cw F Aa Aa Aa Aa Aa Aa Aa fun a F => ?_
   refine ls F W Aa (Au F Aa Aa Aa).q fun a w F W => ?_
   refine Ag (Ad ?_)
   have W := W.frontM (i := 1) Aa Aa
   have W := W.frontM (i := 1) Aa Aa
   exact ⟨_, H, F.re ⟨rfl, Aa, Aa, Aa, Aa, trivial⟩, W⟩
  have H := AK (Be hb) H
  rw [hb] at F
  clear hb
  refine AE F W (Aj F Aa Aa Aa Aa) Aa (Ao Aa) (Ai F Aa).q fun a w F W => ?_
  refine AE F W (Aj F Aa Aa Aa Aa) Aa (Ao Aa) (D3 F Aa Aa).q fun a w F W => ?_
  refine ls F W Aa (Ap F Aa Aa Aa).q fun a w F W => ?_
  refine ls F W Aa (Ai F Aa).q fun a w F W => ?_
  rcases Bool.eq_false_or_eq_true (decide (4 ≤ p0)) with hb | hb
  ·
   have H := AL (Bd hb) H
   rw [hb] at F
   clear hb
   iterate 2 refine Cw F Aa Aa Aa Aa Aa Aa Aa fun a F => ?_
   refine ls F W Aa (Au F Aa Aa Aa).q fun a w F W => ?_
   refine ls F W Aa (Ai F Aa).q fun a w F W => ?_
   iterate 4 refine Cw F Aa Aa Aa Aa Aa Aa Aa fun a F => ?_
   refine ls F W Aa (Au F Aa Aa Aa).q fun a w F W => ?_
   refine Ag (Ad ?_)
   have W := W.frontM (i := 1) Aa Aa
   have W := W.frontM (i := 1) Aa Aa
   exact ⟨_, H, F.re ⟨rfl, Aa, Aa, Aa, Aa, trivial⟩, W⟩
  have H := AK (Be hb) H
  rw [hb] at F
  clear hb
  refine AE F W (Aj F Aa Aa Aa Aa) Aa (Ao Aa) (Ai F Aa).q fun a w F W => ?_
  refine AE F W (Aj F Aa Aa Aa Aa) Aa (Ao Aa) (BO F Aa Aa).q fun a w F W => ?_
  refine ls F W Aa (Ap F Aa Aa Aa).q fun a w F W => ?_
  refine ls F W Aa (Ai F Aa).q fun a w F W => ?_
  rcases Bool.eq_false_or_eq_true (decide (p1 < 0)) with hb | hb
  ·
   have H := AL (Bd hb) H
   rw [hb] at F
   clear hb
   iterate 4 refine Cw F Aa Aa Aa Aa Aa Aa Aa fun a F => ?_
   refine ls F W Aa (Au F Aa Aa Aa).q fun a w F W => ?_
   refine Ag (Ad ?_)
   have W := W.frontM (i := 1) Aa Aa
   have W := W.frontM (i := 1) Aa Aa
   exact ⟨_, H, F.re ⟨rfl, Aa, Aa, Aa, Aa, trivial⟩, W⟩
  have H := AK (Be hb) H
  rw [hb] at F
  clear hb
  iterate 2 refine AE F W (Aj F Aa Aa Aa Aa) Aa (Ao Aa) (Ai F Aa).q fun a w F W => ?_
  refine Gs (Aj F Aa Aa Aa Aa) ?_
  obtain ⟨x2, h1, H⟩ := Aq H
  refine ls F W Aa (AW (v := Value.int .i64 x2) F KN Aa (fun w W => Dz any w p0 _ h1)) fun a w F W => ?_
  refine AE F W (Aj F Aa Aa Aa Aa) Aa (Ao Aa) (Fw F Aa Aa).q fun a w F W => ?_
  refine ls F W Aa (Ap F Aa Aa Aa).q fun a w F W => ?_
  refine Ag (Ad ?_)
  have W := W.frontM (i := 1) Aa Aa
  have W := W.frontM (i := 1) Aa Aa
  exact ⟨_, H, F.re ⟨rfl, Aa, Aa, Aa, Aa, trivial⟩, W⟩
 rintro a w ⟨x1, hj, F, W⟩
 have hj := AO hj
 subst hj
 have H := K1
 clear G1 K1
 refine Az F Aa (fun hb => ?_) fun hb => ?_
 ·
  have H := AL hb H
  rw [hb] at F
  clear hb
  refine Ak (Ae ?_)
  refine ls F W Aa (As (v := Value.agg #[.int .i64 Ac.1, .int .i64 Ac.2.1.1, .int .i64 Ac.2.1.2.1, .int .i64 Ac.2.1.2.2.1, .int .i64 Ac.2.1.2.2.2, .int .i64 Ac.2.2.1, .int .i64 Ac.2.2.2.1, .int .i64 Ac.2.2.2.2.1, .int .i64 Ac.2.2.2.2.2]) 0 F Aa Aa El Aa).q fun a w F W => ?_
  refine BM (vs := [.int .i64 Ac.1, .int .i64 Ac.2.1.1, .int .i64 Ac.2.1.2.1, .int .i64 Ac.2.1.2.2.1, .int .i64 Ac.2.1.2.2.2, .int .i64 Ac.2.2.1, .int .i64 Ac.2.2.2.1, .int .i64 Ac.2.2.2.2.1, .int .i64 Ac.2.2.2.2.2]) (M' := [(b2, [.int .i64 Ac.1, .int .i64 Ac.2.1.1, .int .i64 Ac.2.1.2.1, .int .i64 Ac.2.1.2.2.1, .int .i64 Ac.2.1.2.2.2, .int .i64 Ac.2.2.1, .int .i64 Ac.2.2.2.1, .int .i64 Ac.2.2.2.2.1, .int .i64 Ac.2.2.2.2.2]), (b1, [.int .i64 Ac.1, .int .i64 Ac.2.1.1, .int .i64 Ac.2.1.2.1, .int .i64 Ac.2.1.2.2.1, .int .i64 Ac.2.1.2.2.2, .int .i64 Ac.2.2.1, .int .i64 Ac.2.2.2.1, .int .i64 Ac.2.2.2.2.1, .int .i64 Ac.2.2.2.2.2])]) 1 F W Aa Aa Aa El Aa Aa Aa Aa Aa fun w W => ?_
  refine Ag (Ad (Aw (AB ?_)))
  have H := AO H
  subst H
  refine AF (.inl Aa) F W Aa (Ew 1 F Aa Aa El Aa) ?_
  exact ⟨rfl, W.done⟩
 have H := AK (by rw [hb]; decide) H
 rw [hb] at F
 clear hb
 refine Ay (Ad (Ak ?_))
 refine FQ [(true, 0), (true, 1), (true, 2), (true, 3), (true, 5), (true, 6), (true, 8), (false, 4), (false, 7), (true, 9), (false, 10)] (CN ⟨Y, [], w0⟩ [] []) (fun ch a d v w h => by cases d <;> exact h) MO (by kernel_rfl) W (fun w W => ⟨_, _, W, AH, AH⟩) fun w W => ?_
 iterate 4 refine DL (R := []) F Aa Aa (yC fun M Z hN hZ => Ai F Aa) Aa Aa fun a F => ?_
 refine DL (R := []) F Aa Aa (yC fun M Z hN hZ => Al CJ Aa Aa Aa Gu F Aa 1 Aa) Aa Aa fun a F => ?_
 obtain ⟨x3, h2, H⟩ := Aq H
 refine DL (R := []) F Aa Aa (yC fun M Z hN hZ => Bq (1 + (p0).toNat * 1) Ep F Aa Aa Aa h2 Aa) Aa Aa fun a F => ?_
 refine DL (R := []) F Aa Aa (yC fun M Z hN hZ => Al CJ Aa Aa Aa Gu F Aa 5 Aa) Aa Aa fun a F => ?_
 refine ER Aa ?_
 obtain ⟨x4, h3, H⟩ := Aq H
 refine ls F W Aa (AW (v := Value.int .i64 x4) F KN Aa (fun w W => Dz any w p0 _ h3)) fun a w F W => ?_
 refine B8 (N2 := []) (NZ2 := []) (N3 := []) (NZ3 := []) W Aa Aa AH AH ?_
 refine ER Aa ?_
 refine D8 (o := 1) (m := 4) (i := p0) (l := ([Ac.2.1.1, Ac.2.1.2.1, Ac.2.1.2.2.1, Ac.2.1.2.2.2] : List Int)) (x := x3) (cs := [.int .i64 Ac.1, .int .i64 Ac.2.1.1, .int .i64 Ac.2.1.2.1, .int .i64 Ac.2.1.2.2.1, .int .i64 Ac.2.1.2.2.2, .int .i64 Ac.2.2.1, .int .i64 Ac.2.2.2.1, .int .i64 Ac.2.2.2.2.1, .int .i64 Ac.2.2.2.2.2]) (cs' := [.int .i64 Ac.1, .int .i64 (if p0 = 0 then p1 else Ac.2.1.1), .int .i64 (if p0 = 1 then p1 else Ac.2.1.2.1), .int .i64 (if p0 = 2 then p1 else Ac.2.1.2.2.1), .int .i64 (if p0 = 3 then p1 else Ac.2.1.2.2.2), .int .i64 Ac.2.2.1, .int .i64 Ac.2.2.2.1, .int .i64 Ac.2.2.2.2.1, .int .i64 Ac.2.2.2.2.2]) 0 F W Aa Aa Aa T3 Aa Aa Aa Aa h2 (by intro k hk hn; rw [hk]; match k, hn with | 0, _ => rfl | 1, _ => rfl | 2, _ => rfl | 3, _ => rfl | (z + 4), h => exact absurd h (by omega)) fun w W => ?_
 have W : Stw ⟨Y, [], w0⟩ [(b2, [.int .i64 Ac.1, .int .i64 (if p0 = 0 then p1 else Ac.2.1.1), .int .i64 (if p0 = 1 then p1 else Ac.2.1.2.1), .int .i64 (if p0 = 2 then p1 else Ac.2.1.2.2.1), .int .i64 (if p0 = 3 then p1 else Ac.2.1.2.2.2), .int .i64 Ac.2.2.1, .int .i64 Ac.2.2.2.1, .int .i64 Ac.2.2.2.2.1, .int .i64 Ac.2.2.2.2.2]), (b1, [.int .i64 0, .int .i64 0, .int .i64 0, .int .i64 0, .int .i64 0, .int .i64 0, .int .i64 0, .int .i64 0, .int .i64 0])] [] w := W
 refine B8 (N2 := []) (NZ2 := []) (N3 := []) (NZ3 := []) W Aa Aa AH AH ?_
 obtain ⟨x5, h4, H⟩ := Aq H
 refine DL (R := []) F Aa Aa (yC fun M Z hN hZ => Bq (5 + (p0).toNat * 1) Ep F Aa Aa Aa h4 Aa) Aa Aa fun a F => ?_
 refine ER Aa ?_
 refine D8 (o := 5) (m := 4) (i := p0) (l := ([Ac.2.2.1, Ac.2.2.2.1, Ac.2.2.2.2.1, Ac.2.2.2.2.2] : List Int)) (x := x5) (cs := [.int .i64 Ac.1, .int .i64 (if p0 = 0 then p1 else Ac.2.1.1), .int .i64 (if p0 = 1 then p1 else Ac.2.1.2.1), .int .i64 (if p0 = 2 then p1 else Ac.2.1.2.2.1), .int .i64 (if p0 = 3 then p1 else Ac.2.1.2.2.2), .int .i64 Ac.2.2.1, .int .i64 Ac.2.2.2.1, .int .i64 Ac.2.2.2.2.1, .int .i64 Ac.2.2.2.2.2]) (cs' := [.int .i64 Ac.1, .int .i64 (if p0 = 0 then p1 else Ac.2.1.1), .int .i64 (if p0 = 1 then p1 else Ac.2.1.2.1), .int .i64 (if p0 = 2 then p1 else Ac.2.1.2.2.1), .int .i64 (if p0 = 3 then p1 else Ac.2.1.2.2.2), .int .i64 (if p0 = 0 then x4 else Ac.2.2.1), .int .i64 (if p0 = 1 then x4 else Ac.2.2.2.1), .int .i64 (if p0 = 2 then x4 else Ac.2.2.2.2.1), .int .i64 (if p0 = 3 then x4 else Ac.2.2.2.2.2)]) 0 F W Aa Aa Aa T3 Aa Aa Aa Aa h4 (by intro k hk hn; rw [hk]; match k, hn with | 0, _ => rfl | 1, _ => rfl | 2, _ => rfl | 3, _ => rfl | (z + 4), h => exact absurd h (by omega)) fun w W => ?_
 have W : Stw ⟨Y, [], w0⟩ [(b2, [.int .i64 Ac.1, .int .i64 (if p0 = 0 then p1 else Ac.2.1.1), .int .i64 (if p0 = 1 then p1 else Ac.2.1.2.1), .int .i64 (if p0 = 2 then p1 else Ac.2.1.2.2.1), .int .i64 (if p0 = 3 then p1 else Ac.2.1.2.2.2), .int .i64 (if p0 = 0 then x4 else Ac.2.2.1), .int .i64 (if p0 = 1 then x4 else Ac.2.2.2.1), .int .i64 (if p0 = 2 then x4 else Ac.2.2.2.2.1), .int .i64 (if p0 = 3 then x4 else Ac.2.2.2.2.2)]), (b1, [.int .i64 0, .int .i64 0, .int .i64 0, .int .i64 0, .int .i64 0, .int .i64 0, .int .i64 0, .int .i64 0, .int .i64 0])] [] w := W
 refine B8 (N2 := []) (NZ2 := []) (N3 := []) (NZ3 := []) W Aa Aa AH AH ?_
 refine G0 (Ad (Ak (Ae ?_)))
 refine ls F W Aa (As (v := Value.agg #[.int .i64 Ac.1, .int .i64 (if p0 = 0 then p1 else Ac.2.1.1), .int .i64 (if p0 = 1 then p1 else Ac.2.1.2.1), .int .i64 (if p0 = 2 then p1 else Ac.2.1.2.2.1), .int .i64 (if p0 = 3 then p1 else Ac.2.1.2.2.2), .int .i64 (if p0 = 0 then x4 else Ac.2.2.1), .int .i64 (if p0 = 1 then x4 else Ac.2.2.2.1), .int .i64 (if p0 = 2 then x4 else Ac.2.2.2.2.1), .int .i64 (if p0 = 3 then x4 else Ac.2.2.2.2.2)]) 0 F Aa Aa El Aa).q fun a w F W => ?_
 refine BM (vs := [.int .i64 Ac.1, .int .i64 (if p0 = 0 then p1 else Ac.2.1.1), .int .i64 (if p0 = 1 then p1 else Ac.2.1.2.1), .int .i64 (if p0 = 2 then p1 else Ac.2.1.2.2.1), .int .i64 (if p0 = 3 then p1 else Ac.2.1.2.2.2), .int .i64 (if p0 = 0 then x4 else Ac.2.2.1), .int .i64 (if p0 = 1 then x4 else Ac.2.2.2.1), .int .i64 (if p0 = 2 then x4 else Ac.2.2.2.2.1), .int .i64 (if p0 = 3 then x4 else Ac.2.2.2.2.2)]) (M' := [(b2, [.int .i64 Ac.1, .int .i64 (if p0 = 0 then p1 else Ac.2.1.1), .int .i64 (if p0 = 1 then p1 else Ac.2.1.2.1), .int .i64 (if p0 = 2 then p1 else Ac.2.1.2.2.1), .int .i64 (if p0 = 3 then p1 else Ac.2.1.2.2.2), .int .i64 (if p0 = 0 then x4 else Ac.2.2.1), .int .i64 (if p0 = 1 then x4 else Ac.2.2.2.1), .int .i64 (if p0 = 2 then x4 else Ac.2.2.2.2.1), .int .i64 (if p0 = 3 then x4 else Ac.2.2.2.2.2)]), (b1, [.int .i64 Ac.1, .int .i64 (if p0 = 0 then p1 else Ac.2.1.1), .int .i64 (if p0 = 1 then p1 else Ac.2.1.2.1), .int .i64 (if p0 = 2 then p1 else Ac.2.1.2.2.1), .int .i64 (if p0 = 3 then p1 else Ac.2.1.2.2.2), .int .i64 (if p0 = 0 then x4 else Ac.2.2.1), .int .i64 (if p0 = 1 then x4 else Ac.2.2.2.1), .int .i64 (if p0 = 2 then x4 else Ac.2.2.2.2.1), .int .i64 (if p0 = 3 then x4 else Ac.2.2.2.2.2)])]) 1 F W Aa Aa Aa El Aa Aa Aa Aa Aa fun w W => ?_
 refine Ag (Ad (Aw ?_))
 have H := AO H
 subst H
 refine AF (.inl Aa) F W Aa (Ew 1 F Aa Aa El Aa) ?_
 exact ⟨rfl, W.done⟩
theorem MT : Has Try.prog 53 := ⟨fun args w => An Try.func53 rfl (by decide) args w⟩
noncomputable def EM (p0 : Int) (p1 : Int) (p2 : Int) (p3 : Int) : Option (Int × (Int × (Int × Int × Int × Int) × (Int × Int × Int × Int)) × (List (Int × Int × Int))) := (FG p0 p1).bind fun x1 => some (p2, x1, ([(2, 0, p3)] : List (Int × Int × Int)))
theorem HU (Y : Nat → Prop) (w0 : World)  (p0 : Int) (p1 : Int) (p2 : Int) (p3 : Int) (r : (Int × (Int × (Int × Int × Int × Int) × (Int × Int × Int × Int)) × (List (Int × Int × Int)))) (H : EM p0 p1 p2 p3 = some r)  :
    Calls Try.prog 29 #[.int .i64 p0, .int .i64 p1, .int .i64 p2, .int .i64 p3] w0 fun e w' => ∃ x : Value, e = .returned (.agg #[.int .i64 r.1, .int .i64 r.2.1.1, .int .i64 r.2.1.2.1.1, .int .i64 r.2.1.2.1.2.1, .int .i64 r.2.1.2.1.2.2.1, .int .i64 r.2.1.2.1.2.2.2, .int .i64 r.2.1.2.2.1, .int .i64 r.2.1.2.2.2.1, .int .i64 r.2.1.2.2.2.2.1, .int .i64 r.2.1.2.2.2.2.2, x]) ∧ Stw ⟨Y, [], w0⟩ [] [row (x) 61 BB r.2.2] w' := by
 refine enter Try.func29 Aa Try.ntmps29 Aa fun a F => ?_
 have W := Stw.start Y w0
 unfold EM at H
 refine Ak (Ae ?_)
 refine Cf (cs := [.int .i64 0, .int .i64 0, .int .i64 0, .int .i64 0, .int .i64 0, .int .i64 0, .int .i64 0, .int .i64 0, .int .i64 0, .int .i64 0, .slice none 0 0]) F W Aa Jk Aa fun b1 a w F W => ?_
 refine Ag (Ad (Ak (Ae ?_)))
 iterate 3 refine ls F W Aa (Ai F Aa).q fun a w F W => ?_
 obtain ⟨x1, h1, H⟩ := Aq H
 refine ls F W Aa (AW (v := Value.agg #[.int .i64 x1.1, .int .i64 x1.2.1.1, .int .i64 x1.2.1.2.1, .int .i64 x1.2.1.2.2.1, .int .i64 x1.2.1.2.2.2, .int .i64 x1.2.2.1, .int .i64 x1.2.2.2.1, .int .i64 x1.2.2.2.2.1, .int .i64 x1.2.2.2.2.2]) F MT Aa (fun w W => II any w p0 p1 _ h1)) fun a w F W => ?_
 refine ls F W Aa (Ai F Aa).q fun a w F W => ?_
 refine ls F W Aa (DS (v := Value.agg #[.int .i64 2, .int .i64 0, .int .i64 p3]) Mc F Aa Aa Aa).q fun a w F W => ?_
 refine HM (z := Value.agg #[.int .i64 0, .int .i64 0, .int .i64 0]) (cs := [.int .i64 2, .int .i64 0, .int .i64 p3]) BB ([(2, 0, p3)] : List (Int × Int × Int)) F W Aa Ks Lb Aa Aa Aa Aa Aa Aa (KK.repL _ _ ([(2, 0, p3)] : List (Int × Int × Int))) fun v1 a w F W => ?_
 refine ls F W Aa (DS (v := Value.agg #[.int .i64 p2, .int .i64 x1.1, .int .i64 x1.2.1.1, .int .i64 x1.2.1.2.1, .int .i64 x1.2.1.2.2.1, .int .i64 x1.2.1.2.2.2, .int .i64 x1.2.2.1, .int .i64 x1.2.2.2.1, .int .i64 x1.2.2.2.2.1, .int .i64 x1.2.2.2.2.2, v1]) Mg F Aa (Ch Aa Aa Aa (Ch Aa Aa Aa (Ch Aa (E3 (W.one (k := 0) Aa)) Aa E5))) Aa).q fun a w F W => ?_
 refine BM (vs := [.int .i64 p2, .int .i64 x1.1, .int .i64 x1.2.1.1, .int .i64 x1.2.1.2.1, .int .i64 x1.2.1.2.2.1, .int .i64 x1.2.1.2.2.2, .int .i64 x1.2.2.1, .int .i64 x1.2.2.2.1, .int .i64 x1.2.2.2.2.1, .int .i64 x1.2.2.2.2.2, v1]) (M' := [(b1, [.int .i64 p2, .int .i64 x1.1, .int .i64 x1.2.1.1, .int .i64 x1.2.1.2.1, .int .i64 x1.2.1.2.2.1, .int .i64 x1.2.1.2.2.2, .int .i64 x1.2.2.1, .int .i64 x1.2.2.2.1, .int .i64 x1.2.2.2.2.1, .int .i64 x1.2.2.2.2.2, v1])]) 0 F W Aa Aa Aa C6 Aa Aa Aa (Am Aa (Am Aa (Am Aa (Am Aa (Am Aa (Am Aa (Am Aa (Am Aa (Am Aa (Am Aa (Am (W.one (k := 0) Aa) CW))))))))))) Aa fun w W => ?_
 refine Ag (Ad (Aw ?_))
 have H := AO H
 subst H
 refine AF (.inl Aa) F W Aa (Ew 0 F Aa Aa C6 Aa) ?_
 have W := W.sub (M' := []) (Z' := [row v1 61 BB ([(2, 0, p3)] : List (Int × Int × Int))]) (List.nil_sublist _) (List.Sublist.refl _)
 exact ⟨(v1), Aa, W⟩
theorem KT : type_of% Try.underlying35 := Try.underlying35
theorem MD : Has Try.prog 29 := ⟨fun args w => An Try.func29 rfl (by decide) args w⟩
theorem LR : (Try.prog.info? 42).bind (·.zero) = some (.agg #[.int .i64 0, .int .i64 0, .int .i64 0, .int .i64 0, .int .i64 0, .int .i64 0, .int .i64 0, .int .i64 0, .int .i64 0, .int .i64 0, .int .i64 0, .slice none 0 0, .bool false]) := by kernel_rfl
abbrev Ke : Rp (Int × (Int × (Int × (Int × Int × Int × Int) × (Int × Int × Int × Int)) × (List (Int × Int × Int))) × Bool) := (Rp.pair (Rp.int .i64) (Rp.pair A4 Rp.bool))
theorem LY : Et Try.prog 35 42 13 120 := Et.of KT (by kernel_rfl) (by kernel_rfl) (by kernel_rfl) (by decide)
abbrev KC : Rp (Int × (Int × (Int × (Int × Int × Int × Int) × (Int × Int × Int × Int)) × (Value × List (Int × Int × Int))) × Bool) := (Rp.pair (Rp.int .i64) (Rp.pair Cz Rp.bool))
abbrev Lx (p : Int × (Int × (Int × (Int × Int × Int × Int) × (Int × Int × Int × Int)) × (Value × List (Int × Int × Int))) × Bool) : Int × (Int × (Int × (Int × Int × Int × Int) × (Int × Int × Int × Int)) × (List (Int × Int × Int))) × Bool := (p.1, (p.2.1.1, p.2.1.2.1, p.2.1.2.2.2), p.2.2)
theorem Kk : Ex Ke KC Lx := (Ex.pair Ex.rfl' (Ex.pair (Ex.pair Ex.rfl' (Ex.pair Ex.rfl' Ex.sliceF)) Ex.rfl'))
noncomputable def Bv (p0 : List (Int × Int × Int)) : Option (List (Int × Int × Int)) := (Jj ([] : List (Int × Int × Int)) p0).bind fun x1 => some x1
theorem DO (Y : Nat → Prop) (w0 : World) (v1 : Value) (p0 : List (Int × Int × Int)) (r : (List (Int × Int × Int))) (H : Bv p0 = some r) (s_v1 : Sl w0 Y BB v1 p0) :
    Calls Try.prog 78 #[v1] w0 fun e w' => ∃ x : Value, e = .returned (x) ∧ Stw ⟨Y, [], w0⟩ [] [row (x) 61 BB r] w' := by
 refine enter Try.func78 Aa Try.ntmps78 Aa fun a F => ?_
 have W := Stw.start Y w0
 have h_v1 := W.nx s_v1
 unfold Bv at H
 refine Ak (Ae ?_)
 refine ls F W Aa (Af F Aa).q fun a w F W => ?_
 refine Ag (Ad (Ak (Ak (Ae ?_))))
 refine ls F W Aa (Ai F Aa).q fun a w F W => ?_
 refine ls F W Aa (JR (r := BB) Iw F Aa (Ax h_v1)).q fun a w F W => ?_
 refine Ag (Ad ?_)
 rcases Ji (Ax h_v1) W with ⟨hb, hl⟩ | hb
 ·
  rw [hl] at H
  change some ([] : List (Int × Int × Int)) = _ at H
  rw [hb] at F
  refine JB F Aa ?_
  refine Ak (Ae ?_)
  refine ls F W Aa (Af F Aa).q fun a w F W => ?_
  refine Ag (Ad (Aw (AB ?_)))
  have H := AO H
  subst H
  refine AF (.inl Aa) F W Aa (Av F Aa) ?_
  have W := W.nilRow 61 BB
  exact ⟨(Value.slice none 0 0), Aa, W⟩
 rw [hb] at F
 refine JL F Aa ?_
 refine Ay (Ad (Ak (Ae ?_)))
 refine HM (z := Value.agg #[.int .i64 0, .int .i64 0, .int .i64 0]) (cs := []) BB ([] : List (Int × Int × Int)) F W Aa Ks Lb Aa Aa Aa Aa Aa Aa (KK.repL _ _ ([] : List (Int × Int × Int))) fun v2 a w F W => ?_
 refine ls F W Aa (Ai F Aa).q fun a w F W => ?_
 obtain ⟨x1, h1, H⟩ := Aq H
 refine Id (r := BB) (i := 0) F W Aa Ks Aa Aa Aa Aa (Fi W s_v1) h1 Aa fun v3 a w F W => ?_
 have W : Stw ⟨Y, [], w0⟩ [] [row v3 61 BB x1] w := W
 refine ls F W Aa (Af F Aa).q fun a w F W => ?_
 refine Ag (Ad (Aw ?_))
 have H := AO H
 subst H
 refine AF (.inl Aa) F W Aa (Av F Aa) ?_
 exact ⟨(v3), Aa, W⟩
theorem Mr : Has Try.prog 78 := ⟨fun args w => An Try.func78 rfl (by decide) args w⟩
noncomputable def BZ (p0 : Int × (Int × (Int × Int × Int × Int) × (Int × Int × Int × Int)) × (List (Int × Int × Int))) : Option (Int × (Int × (Int × Int × Int × Int) × (Int × Int × Int × Int)) × (List (Int × Int × Int))) := (Bv p0.2.2).bind fun x1 => some (p0.1, p0.2.1, x1)
theorem CH (Y : Nat → Prop) (w0 : World) (v1 : Value) (p0 : Int × (Int × (Int × Int × Int × Int) × (Int × Int × Int × Int)) × (List (Int × Int × Int))) (r : (Int × (Int × (Int × Int × Int × Int) × (Int × Int × Int × Int)) × (List (Int × Int × Int)))) (H : BZ p0 = some r) (s_v1 : Sl w0 Y BB v1 p0.2.2) :
    Calls Try.prog 59 #[.agg #[.int .i64 p0.1, .int .i64 p0.2.1.1, .int .i64 p0.2.1.2.1.1, .int .i64 p0.2.1.2.1.2.1, .int .i64 p0.2.1.2.1.2.2.1, .int .i64 p0.2.1.2.1.2.2.2, .int .i64 p0.2.1.2.2.1, .int .i64 p0.2.1.2.2.2.1, .int .i64 p0.2.1.2.2.2.2.1, .int .i64 p0.2.1.2.2.2.2.2, v1]] w0 fun e w' => ∃ x : Value, e = .returned (.agg #[.int .i64 r.1, .int .i64 r.2.1.1, .int .i64 r.2.1.2.1.1, .int .i64 r.2.1.2.1.2.1, .int .i64 r.2.1.2.1.2.2.1, .int .i64 r.2.1.2.1.2.2.2, .int .i64 r.2.1.2.2.1, .int .i64 r.2.1.2.2.2.1, .int .i64 r.2.1.2.2.2.2.1, .int .i64 r.2.1.2.2.2.2.2, x]) ∧ Stw ⟨Y, [], w0⟩ [] [row (x) 61 BB r.2.2] w' := by
 refine enter Try.func59 Aa Try.ntmps59 Aa fun a F => ?_
 have W := Stw.start Y w0
 have h_v1 := W.nx s_v1
 unfold BZ at H
 refine Ak (Ae ?_)
 refine B1 (cs := [.int .i64 p0.1, .int .i64 p0.2.1.1, .int .i64 p0.2.1.2.1.1, .int .i64 p0.2.1.2.1.2.1, .int .i64 p0.2.1.2.1.2.2.1, .int .i64 p0.2.1.2.1.2.2.2, .int .i64 p0.2.1.2.2.1, .int .i64 p0.2.1.2.2.2.1, .int .i64 p0.2.1.2.2.2.2.1, .int .i64 p0.2.1.2.2.2.2.2, v1]) F W Aa Aa Aa fun b1 a w F W => ?_
 refine Cf (cs := [.int .i64 0, .int .i64 0, .int .i64 0, .int .i64 0, .int .i64 0, .int .i64 0, .int .i64 0, .int .i64 0, .int .i64 0, .int .i64 0, .slice none 0 0]) F W Aa Jk Aa fun b2 a w F W => ?_
 refine Ag (Ad (Ak (Ae ?_)))
 refine ls F W Aa (Al Cp Aa Aa Aa Ib F Aa 10 Aa).q fun a w F W => ?_
 refine ls F W Aa (As (v := v1) 1 F Aa Aa Ib Aa).q fun a w F W => ?_
 obtain ⟨x1, h1, H⟩ := Aq H
 refine BH (Ml := []) (Zl := []) (M := [(b2, [.int .i64 0, .int .i64 0, .int .i64 0, .int .i64 0, .int .i64 0, .int .i64 0, .int .i64 0, .int .i64 0, .int .i64 0, .int .i64 0, .slice none 0 0]), (b1, [.int .i64 p0.1, .int .i64 p0.2.1.1, .int .i64 p0.2.1.2.1.1, .int .i64 p0.2.1.2.1.2.1, .int .i64 p0.2.1.2.1.2.2.1, .int .i64 p0.2.1.2.1.2.2.2, .int .i64 p0.2.1.2.2.1, .int .i64 p0.2.1.2.2.2.1, .int .i64 p0.2.1.2.2.2.2.1, .int .i64 p0.2.1.2.2.2.2.2, v1])]) (Z := []) (β := Value) (rv := fun x => x) (MM := fun x => []) (ZZ := fun x => [row x 61 BB x1]) F W Mr Aa Aa (fun hL => DO _ w (v1) p0.2.2 _ h1 (W.old s_v1)) fun x a w F W => ?_
 obtain ⟨v2, rfl⟩ : ∃ y, y = x := ⟨x, rfl⟩
 have W : Stw ⟨Y, [], w0⟩ [(b2, [.int .i64 0, .int .i64 0, .int .i64 0, .int .i64 0, .int .i64 0, .int .i64 0, .int .i64 0, .int .i64 0, .int .i64 0, .int .i64 0, .slice none 0 0]), (b1, [.int .i64 p0.1, .int .i64 p0.2.1.1, .int .i64 p0.2.1.2.1.1, .int .i64 p0.2.1.2.1.2.1, .int .i64 p0.2.1.2.1.2.2.1, .int .i64 p0.2.1.2.1.2.2.2, .int .i64 p0.2.1.2.2.1, .int .i64 p0.2.1.2.2.2.1, .int .i64 p0.2.1.2.2.2.2.1, .int .i64 p0.2.1.2.2.2.2.2, v1])] [row v2 61 BB x1] w := W
 refine ls F W Aa (Al Cp Aa Aa Aa Ib F Aa 10 Aa).q fun a w F W => ?_
 refine JV (M' := [(b2, [.int .i64 0, .int .i64 0, .int .i64 0, .int .i64 0, .int .i64 0, .int .i64 0, .int .i64 0, .int .i64 0, .int .i64 0, .int .i64 0, .slice none 0 0]), (b1, [.int .i64 p0.1, .int .i64 p0.2.1.1, .int .i64 p0.2.1.2.1.1, .int .i64 p0.2.1.2.1.2.1, .int .i64 p0.2.1.2.1.2.2.1, .int .i64 p0.2.1.2.1.2.2.2, .int .i64 p0.2.1.2.2.1, .int .i64 p0.2.1.2.2.2.1, .int .i64 p0.2.1.2.2.2.2.1, .int .i64 p0.2.1.2.2.2.2.2, v2])]) 1 F W Aa Aa Aa Ib (W.one (k := 0) Aa) Aa Aa fun w W => ?_
 refine Ag (Ad (Ak (Ae ?_)))
 refine ls F W Aa (As (v := Value.agg #[.int .i64 p0.1, .int .i64 p0.2.1.1, .int .i64 p0.2.1.2.1.1, .int .i64 p0.2.1.2.1.2.1, .int .i64 p0.2.1.2.1.2.2.1, .int .i64 p0.2.1.2.1.2.2.2, .int .i64 p0.2.1.2.2.1, .int .i64 p0.2.1.2.2.2.1, .int .i64 p0.2.1.2.2.2.2.1, .int .i64 p0.2.1.2.2.2.2.2, v2]) 1 F Aa Aa C6 Aa).q fun a w F W => ?_
 refine BM (vs := [.int .i64 p0.1, .int .i64 p0.2.1.1, .int .i64 p0.2.1.2.1.1, .int .i64 p0.2.1.2.1.2.1, .int .i64 p0.2.1.2.1.2.2.1, .int .i64 p0.2.1.2.1.2.2.2, .int .i64 p0.2.1.2.2.1, .int .i64 p0.2.1.2.2.2.1, .int .i64 p0.2.1.2.2.2.2.1, .int .i64 p0.2.1.2.2.2.2.2, v2]) (M' := [(b2, [.int .i64 p0.1, .int .i64 p0.2.1.1, .int .i64 p0.2.1.2.1.1, .int .i64 p0.2.1.2.1.2.1, .int .i64 p0.2.1.2.1.2.2.1, .int .i64 p0.2.1.2.1.2.2.2, .int .i64 p0.2.1.2.2.1, .int .i64 p0.2.1.2.2.2.1, .int .i64 p0.2.1.2.2.2.2.1, .int .i64 p0.2.1.2.2.2.2.2, v2]), (b1, [.int .i64 p0.1, .int .i64 p0.2.1.1, .int .i64 p0.2.1.2.1.1, .int .i64 p0.2.1.2.1.2.1, .int .i64 p0.2.1.2.1.2.2.1, .int .i64 p0.2.1.2.1.2.2.2, .int .i64 p0.2.1.2.2.1, .int .i64 p0.2.1.2.2.2.1, .int .i64 p0.2.1.2.2.2.2.1, .int .i64 p0.2.1.2.2.2.2.2, v2])]) 0 F W Aa Aa Aa C6 Aa Aa Aa (Am Aa (Am Aa (Am Aa (Am Aa (Am Aa (Am Aa (Am Aa (Am Aa (Am Aa (Am Aa (Am (W.one (k := 0) Aa) CW))))))))))) Aa fun w W => ?_
 refine Ag (Ad (Aw ?_))
 have H := AO H
 subst H
 refine AF (.inl Aa) F W Aa (Ew 0 F Aa Aa C6 Aa) ?_
 have W := W.sub (M' := []) (Z' := [row v2 61 BB x1]) (List.nil_sublist _) (List.Sublist.refl _)
 exact ⟨(v2), Aa, W⟩
theorem Lg : Has Try.prog 59 := ⟨fun args w => An Try.func59 rfl (by decide) args w⟩
noncomputable def Dp (p0 : List (Int × (Int × (Int × Int × Int × Int) × (Int × Int × Int × Int)) × (List (Int × Int × Int)))) (x1 : List (Int × (Int × (Int × Int × Int × Int) × (Int × Int × Int × Int)) × (List (Int × Int × Int)))) : ((List (Int × (Int × (Int × Int × Int × Int) × (Int × Int × Int × Int)) × (List (Int × Int × Int)))) × Int) → Option (((List (Int × (Int × (Int × Int × Int × Int) × (Int × Int × Int × Int)) × (List (Int × Int × Int)))) × Int) ⊕ (List (Int × (Int × (Int × Int × Int × Int) × (Int × Int × Int × Int)) × (List (Int × Int × Int)))))
  | (x3, x4) => (if x4 < ((GE x1 0 (min p0.length x1.length) p0).length : Int) then (ix x3 x4).bind fun x5 => (BZ x5).bind fun x6 => (ix x3 x4).bind fun x7 => some (.inl ((Dn x3 x4 x6), C3 (x4 + 1))) else some (.inr x3))
noncomputable def CG (p0 : List (Int × (Int × (Int × Int × Int × Int) × (Int × Int × Int × Int)) × (List (Int × Int × Int)))) : Option (List (Int × (Int × (Int × Int × Int × Int) × (Int × Int × Int × Int)) × (List (Int × Int × Int)))) := (mk (p0.length : Int) ((0, (0, (0, 0, 0, 0), (0, 0, 0, 0)), []) : Int × (Int × (Int × Int × Int × Int) × (Int × Int × Int × Int)) × (List (Int × Int × Int)))).bind fun x1 => (BG (Dp p0 x1) (GE x1 0 (min p0.length x1.length) p0, 0)).bind fun x2 => some x2
theorem EH (Y : Nat → Prop) (w0 : World) (v1 : Value) (p0 : List (Int × (Int × (Int × Int × Int × Int) × (Int × Int × Int × Int)) × (List (Int × Int × Int)))) (r : (List (Int × (Int × (Int × Int × Int × Int) × (Int × Int × Int × Int)) × (List (Int × Int × Int))))) (H : CG p0 = some r) (s_v1 : Sl w0 Y A4 v1 p0) :
    Calls Try.prog 40 #[v1] w0 fun e w' => ∃ x : {x : Value // GN x (((p0.length : Int)).toNat)}, e = .returned (x.1) ∧ Stw ⟨Y, [], w0⟩ [] [row (x.1) 40 A4 r] w' := by
 refine enter Try.func40 Aa Try.ntmps40 Aa fun a F => ?_
 have W := Stw.start Y w0
 obtain ⟨v2, h1, s_v1⟩ := s_v1.ex Bz
 have h_v1 := W.nx s_v1
 unfold CG at H
 refine Ak (Ae ?_)
 refine ls F W Aa (Af F Aa).q fun a w F W => ?_
 refine Ag (Ad (Ak (Ae ?_)))
 refine ls F W Aa (Ai F Aa).q fun a w F W => ?_
 refine ls F W Aa (Cl (r := A4) (l := p0) Ee Aa F Aa (Bk Bz h1 (Ax h_v1))).q fun a w F W => ?_
 obtain ⟨x1, h2, H⟩ := Aq H
 refine JY (r := A4) ((0, (0, (0, 0, 0, 0), (0, 0, 0, 0)), []) : Int × (Int × (Int × Int × Int × Int) × (Int × Int × Int × Int)) × (List (Int × Int × Int))) F W Aa EQ Jk Aa Aa (fun w A => ⟨[Value.int .i64 0], [Value.int .i64 0, Value.int .i64 0, Value.int .i64 0, Value.int .i64 0, Value.int .i64 0, Value.int .i64 0, Value.int .i64 0, Value.int .i64 0, Value.int .i64 0, Value.slice none 0 0], Aa, Aa, ⟨[Value.int .i64 0, Value.int .i64 0, Value.int .i64 0, Value.int .i64 0, Value.int .i64 0, Value.int .i64 0, Value.int .i64 0, Value.int .i64 0, Value.int .i64 0], [Value.slice none 0 0], Aa, ⟨[Value.int .i64 0], [Value.int .i64 0, Value.int .i64 0, Value.int .i64 0, Value.int .i64 0, Value.int .i64 0, Value.int .i64 0, Value.int .i64 0, Value.int .i64 0], Aa, Aa, ⟨[Value.int .i64 0, Value.int .i64 0, Value.int .i64 0, Value.int .i64 0], [Value.int .i64 0, Value.int .i64 0, Value.int .i64 0, Value.int .i64 0], Aa, ⟨[Value.int .i64 0], [Value.int .i64 0, Value.int .i64 0, Value.int .i64 0], Aa, Aa, ⟨[Value.int .i64 0], [Value.int .i64 0, Value.int .i64 0], Aa, Aa, ⟨[Value.int .i64 0], [Value.int .i64 0], Aa, Aa, Aa⟩⟩⟩, ⟨[Value.int .i64 0], [Value.int .i64 0, Value.int .i64 0, Value.int .i64 0], Aa, Aa, ⟨[Value.int .i64 0], [Value.int .i64 0, Value.int .i64 0], Aa, Aa, ⟨[Value.int .i64 0], [Value.int .i64 0], Aa, Aa, Aa⟩⟩⟩⟩⟩, ⟨_, Aa, Sl.nil⟩⟩⟩) h2 Aa fun v3 h3 a w F W => ?_
 refine ls F W Aa (Af F Aa).q fun a w F W => ?_
 refine Ag (Ad (Ak (Ae ?_)))
 iterate 2 refine ls F W Aa (Ai F Aa).q fun a w F W => ?_
 refine Ku (r := A4) (k := 0) F W Aa EQ Aa Aa Aa Aa (F5.hide Bz h1 (Fi W s_v1)) fun a w F W => ?_
 have W : Stw ⟨Y, [], w0⟩ [] [row v3 40 A4 (GE x1 0 (min p0.length x1.length) p0)] w := W
 refine Ag (Ad ?_)
 obtain ⟨o1, G1, K1⟩ := Aq H
 refine AJ (fun a w => ∃ x2 : List (Int × (Int × (Int × Int × Int × Int) × (Int × Int × Int × Int)) × (List (Int × Int × Int))), some (x2) = some o1 ∧ Fr 26 [] [(2, .slice none 0 0), (3, v3)] a ∧ Stw ⟨Y, [], w0⟩ [] [row v3 40 A4 x2] w) ?_ ?_
 ·
  have H := G1
  clear G1 K1
  refine Ak (Ae ?_)
  refine ls F W Aa (Ai F Aa).q fun a w F W => ?_
  refine ls F W Aa (Cl (r := A4) (l := GE x1 0 (min p0.length x1.length) p0) Ee Aa F Aa (A6 0 Aa)).q fun a w F W => ?_
  refine ls F W Aa (Ai F Aa).q fun a w F W => ?_
  refine Ag (Ad (AA ?_))
  refine BW H (fun s a w => Fr 26 [] [(2, .slice none 0 0), (3, v3), (12, v3), (13, .int .i64 ((GE x1 0 (min p0.length x1.length) p0).length : Int)), (14, .int .i64 s.2)] a ∧ Stw ⟨Y, [], w0⟩ [] [row v3 40 A4 s.1] w) ⟨F.re ⟨rfl, Aa, Aa, Aa, Aa, trivial⟩, W⟩ fun s o a w H L2 hR => ?_
  obtain ⟨x3, x4⟩ := s
  obtain ⟨F, W⟩ := hR
  have F : Fr 26 [] [(2, .slice none 0 0), (3, v3), (12, v3), (13, .int .i64 ((GE x1 0 (min p0.length x1.length) p0).length : Int)), (14, .int .i64 x4)] a := F
  have W : Stw ⟨Y, [], w0⟩ [] [row v3 40 A4 x3] w := W
  rw [Dp] at H
  refine Ak (Ae ?_)
  refine ls F W Aa (BO F Aa Aa).q fun a w F W => ?_
  refine Ag (Ad (Ak ?_))
  refine Az F Aa (fun hb => ?_) fun hb => ?_
  ·
   have H := AL (Bd hb) H
   rw [hb] at F
   clear hb
   refine Ay (Ad (Ak (AA (Ak ?_))))
   obtain ⟨v4, h4, W⟩ := W.exR Bz
   refine Ae ?_
   refine ls F W Aa (Ai F Aa).q fun a w F W => ?_
   obtain ⟨x5, h5, H⟩ := Aq H
   obtain ⟨v5, h6, h7⟩ := Cr h4 h5
   have h8 : B9 v5 = [.int .i64 x5.1, .int .i64 x5.2.1.1, .int .i64 x5.2.1.2.1.1, .int .i64 x5.2.1.2.1.2.1, .int .i64 x5.2.1.2.1.2.2.1, .int .i64 x5.2.1.2.1.2.2.2, .int .i64 x5.2.1.2.2.1, .int .i64 x5.2.1.2.2.2.1, .int .i64 x5.2.1.2.2.2.2.1, .int .i64 x5.2.1.2.2.2.2.2, (v5.2.2.1)] := congrArg (fun q : Int × (Int × (Int × Int × Int × Int) × (Int × Int × Int × Int)) × (List (Int × Int × Int)) => ([.int .i64 q.1, .int .i64 q.2.1.1, .int .i64 q.2.1.2.1.1, .int .i64 q.2.1.2.1.2.1, .int .i64 q.2.1.2.1.2.2.1, .int .i64 q.2.1.2.1.2.2.2, .int .i64 q.2.1.2.2.1, .int .i64 q.2.1.2.2.2.1, .int .i64 q.2.1.2.2.2.2.1, .int .i64 q.2.1.2.2.2.2.2, (v5.2.2.1)] : List Value)) h7
   refine ls F W Aa (Bo (r := Cz) EQ F Aa Aa (A6 0 Aa) h6).q fun a w F W => ?_
   refine ls F W Aa (A9 (y := Value.agg #[.int .i64 x5.1, .int .i64 x5.2.1.1, .int .i64 x5.2.1.2.1.1, .int .i64 x5.2.1.2.1.2.1, .int .i64 x5.2.1.2.1.2.2.1, .int .i64 x5.2.1.2.1.2.2.2, .int .i64 x5.2.1.2.2.1, .int .i64 x5.2.1.2.2.2.1, .int .i64 x5.2.1.2.2.2.2.1, .int .i64 x5.2.1.2.2.2.2.2, (v5.2.2.1)]) (j := 0) (i := x4) (enc := B9) F Aa Aa (A6 0 Aa) h6 DZ C6 (by rw [h8]; rfl)).q fun a w F W => ?_
   have W := W.note (W.rowAt (k := 0) Aa h6 (BR.snd (BR.snd BR.here)) (congrArg (fun q : Int × (Int × (Int × Int × Int × Int) × (Int × Int × Int × Int)) × (List (Int × Int × Int)) => q.2.2) h7))
   refine Cf (cs := [.int .i64 0, .int .i64 0, .int .i64 0, .int .i64 0, .int .i64 0, .int .i64 0, .int .i64 0, .int .i64 0, .int .i64 0, .int .i64 0, .slice none 0 0]) F W Aa Jk Aa fun b1 a w F W => ?_
   refine ls F W Aa (Af F Aa).q fun a w F W => ?_
   refine BM (vs := [.int .i64 x5.1, .int .i64 x5.2.1.1, .int .i64 x5.2.1.2.1.1, .int .i64 x5.2.1.2.1.2.1, .int .i64 x5.2.1.2.1.2.2.1, .int .i64 x5.2.1.2.1.2.2.2, .int .i64 x5.2.1.2.2.1, .int .i64 x5.2.1.2.2.2.1, .int .i64 x5.2.1.2.2.2.2.1, .int .i64 x5.2.1.2.2.2.2.2, (v5.2.2.1)]) (M' := [(b1, [.int .i64 x5.1, .int .i64 x5.2.1.1, .int .i64 x5.2.1.2.1.1, .int .i64 x5.2.1.2.1.2.1, .int .i64 x5.2.1.2.1.2.2.1, .int .i64 x5.2.1.2.1.2.2.2, .int .i64 x5.2.1.2.2.1, .int .i64 x5.2.1.2.2.2.1, .int .i64 x5.2.1.2.2.2.2.1, .int .i64 x5.2.1.2.2.2.2.2, (v5.2.2.1)])]) 0 F W Aa Aa Aa C6 Aa Aa Aa (Am Aa (Am Aa (Am Aa (Am Aa (Am Aa (Am Aa (Am Aa (Am Aa (Am Aa (Am Aa (Am (W.oneF (k := 0) Aa) CW))))))))))) Aa fun w W => ?_
   refine Ag (Ad (Ae ?_))
   iterate 2 refine ls F W Aa (Ai F Aa).q fun a w F W => ?_
   refine ls F W Aa (As (v := Value.agg #[.int .i64 x5.1, .int .i64 x5.2.1.1, .int .i64 x5.2.1.2.1.1, .int .i64 x5.2.1.2.1.2.1, .int .i64 x5.2.1.2.1.2.2.1, .int .i64 x5.2.1.2.1.2.2.2, .int .i64 x5.2.1.2.2.1, .int .i64 x5.2.1.2.2.2.1, .int .i64 x5.2.1.2.2.2.2.1, .int .i64 x5.2.1.2.2.2.2.2, (v5.2.2.1)]) 0 F Aa Aa C6 Aa).q fun a w F W => ?_
   obtain ⟨x6, h9, H⟩ := Aq H
   refine BH (Ml := []) (Zl := []) (M := [(b1, [.int .i64 x5.1, .int .i64 x5.2.1.1, .int .i64 x5.2.1.2.1.1, .int .i64 x5.2.1.2.1.2.1, .int .i64 x5.2.1.2.1.2.2.1, .int .i64 x5.2.1.2.1.2.2.2, .int .i64 x5.2.1.2.2.1, .int .i64 x5.2.1.2.2.2.1, .int .i64 x5.2.1.2.2.2.2.1, .int .i64 x5.2.1.2.2.2.2.2, (v5.2.2.1)])]) (Z := [BX (v5.2.2.1) BB x5.2.2, row v3 40 Cz v4]) (β := Value) (rv := fun x => .agg #[.int .i64 x6.1, .int .i64 x6.2.1.1, .int .i64 x6.2.1.2.1.1, .int .i64 x6.2.1.2.1.2.1, .int .i64 x6.2.1.2.1.2.2.1, .int .i64 x6.2.1.2.1.2.2.2, .int .i64 x6.2.1.2.2.1, .int .i64 x6.2.1.2.2.2.1, .int .i64 x6.2.1.2.2.2.2.1, .int .i64 x6.2.1.2.2.2.2.2, x]) (MM := fun x => []) (ZZ := fun x => [row x 61 BB x6.2.2]) F W Lg Aa Aa (fun hL => CH _ w ((v5.2.2.1)) x5 _ h9 (W.item (i := 0) Aa)) fun x a w F W => ?_
   obtain ⟨v6, rfl⟩ : ∃ y, y = x := ⟨x, rfl⟩
   have W : Stw ⟨Y, [], w0⟩ [(b1, [.int .i64 x5.1, .int .i64 x5.2.1.1, .int .i64 x5.2.1.2.1.1, .int .i64 x5.2.1.2.1.2.1, .int .i64 x5.2.1.2.1.2.2.1, .int .i64 x5.2.1.2.1.2.2.2, .int .i64 x5.2.1.2.2.1, .int .i64 x5.2.1.2.2.2.1, .int .i64 x5.2.1.2.2.2.2.1, .int .i64 x5.2.1.2.2.2.2.2, (v5.2.2.1)])] [row v6 61 BB x6.2.2, BX (v5.2.2.1) BB x5.2.2, row v3 40 Cz v4] w := W
   obtain ⟨x7, h10, H⟩ := Aq H
   obtain ⟨v7, h11, h12⟩ := Cr h4 h10
   have h13 : B9 v7 = [.int .i64 x7.1, .int .i64 x7.2.1.1, .int .i64 x7.2.1.2.1.1, .int .i64 x7.2.1.2.1.2.1, .int .i64 x7.2.1.2.1.2.2.1, .int .i64 x7.2.1.2.1.2.2.2, .int .i64 x7.2.1.2.2.1, .int .i64 x7.2.1.2.2.2.1, .int .i64 x7.2.1.2.2.2.2.1, .int .i64 x7.2.1.2.2.2.2.2, (v7.2.2.1)] := congrArg (fun q : Int × (Int × (Int × Int × Int × Int) × (Int × Int × Int × Int)) × (List (Int × Int × Int)) => ([.int .i64 q.1, .int .i64 q.2.1.1, .int .i64 q.2.1.2.1.1, .int .i64 q.2.1.2.1.2.1, .int .i64 q.2.1.2.1.2.2.1, .int .i64 q.2.1.2.1.2.2.2, .int .i64 q.2.1.2.2.1, .int .i64 q.2.1.2.2.2.1, .int .i64 q.2.1.2.2.2.2.1, .int .i64 q.2.1.2.2.2.2.2, (v7.2.2.1)] : List Value)) h12
   refine ls F W Aa (Bo (r := Cz) EQ F Aa Aa (A6 2 Aa) h11).q fun a w F W => ?_
   have W := W.freeze
   have W := W.frontZ (i := 2) Aa Aa
   have W := W.hideR Bz h4
   refine EK (r := A4) (i := x4) (j := 0) (vs := [.int .i64 x6.1, .int .i64 x6.2.1.1, .int .i64 x6.2.1.2.1.1, .int .i64 x6.2.1.2.1.2.1, .int .i64 x6.2.1.2.1.2.2.1, .int .i64 x6.2.1.2.1.2.2.2, .int .i64 x6.2.1.2.2.1, .int .i64 x6.2.1.2.2.2.1, .int .i64 x6.2.1.2.2.2.2.1, .int .i64 x6.2.1.2.2.2.2.2, v6]) (x' := x6) F W rfl rfl rfl (k := 0) rfl rfl h10 C6 rfl rfl rfl (Am rfl (Am rfl (Am rfl (Am rfl (Am rfl (Am rfl (Am rfl (Am rfl (Am rfl (Am rfl (Am (W.oneF (k := 1) rfl) CW))))))))))) (fun A cs hA hc => by obtain ⟨z, hz, hc⟩ := Bz.to hc; have e1 := DZ hc; have e2 : B9 z = [.int .i64 x7.1, .int .i64 x7.2.1.1, .int .i64 x7.2.1.2.1.1, .int .i64 x7.2.1.2.1.2.1, .int .i64 x7.2.1.2.1.2.2.1, .int .i64 x7.2.1.2.1.2.2.2, .int .i64 x7.2.1.2.2.1, .int .i64 x7.2.1.2.2.2.1, .int .i64 x7.2.1.2.2.2.2.1, .int .i64 x7.2.1.2.2.2.2.2, (z.2.2.1)] := (congrArg (fun q : Int × (Int × (Int × Int × Int × Int) × (Int × Int × Int × Int)) × (List (Int × Int × Int)) => ([.int .i64 q.1, .int .i64 q.2.1.1, .int .i64 q.2.1.2.1.1, .int .i64 q.2.1.2.1.2.1, .int .i64 q.2.1.2.1.2.2.1, .int .i64 q.2.1.2.1.2.2.2, .int .i64 q.2.1.2.2.1, .int .i64 q.2.1.2.2.2.1, .int .i64 q.2.1.2.2.2.2.1, .int .i64 q.2.1.2.2.2.2.2, (z.2.2.1)] : List Value)) hz); rw [e1, e2]; exact ⟨[Value.int .i64 x6.1], [Value.int .i64 x6.2.1.1, Value.int .i64 x6.2.1.2.1.1, Value.int .i64 x6.2.1.2.1.2.1, Value.int .i64 x6.2.1.2.1.2.2.1, Value.int .i64 x6.2.1.2.1.2.2.2, Value.int .i64 x6.2.1.2.2.1, Value.int .i64 x6.2.1.2.2.2.1, Value.int .i64 x6.2.1.2.2.2.2.1, Value.int .i64 x6.2.1.2.2.2.2.2, v6], rfl, rfl, ⟨[Value.int .i64 x6.2.1.1, Value.int .i64 x6.2.1.2.1.1, Value.int .i64 x6.2.1.2.1.2.1, Value.int .i64 x6.2.1.2.1.2.2.1, Value.int .i64 x6.2.1.2.1.2.2.2, Value.int .i64 x6.2.1.2.2.1, Value.int .i64 x6.2.1.2.2.2.1, Value.int .i64 x6.2.1.2.2.2.2.1, Value.int .i64 x6.2.1.2.2.2.2.2], [v6], rfl, ⟨[Value.int .i64 x6.2.1.1], [Value.int .i64 x6.2.1.2.1.1, Value.int .i64 x6.2.1.2.1.2.1, Value.int .i64 x6.2.1.2.1.2.2.1, Value.int .i64 x6.2.1.2.1.2.2.2, Value.int .i64 x6.2.1.2.2.1, Value.int .i64 x6.2.1.2.2.2.1, Value.int .i64 x6.2.1.2.2.2.2.1, Value.int .i64 x6.2.1.2.2.2.2.2], rfl, rfl, ⟨[Value.int .i64 x6.2.1.2.1.1, Value.int .i64 x6.2.1.2.1.2.1, Value.int .i64 x6.2.1.2.1.2.2.1, Value.int .i64 x6.2.1.2.1.2.2.2], [Value.int .i64 x6.2.1.2.2.1, Value.int .i64 x6.2.1.2.2.2.1, Value.int .i64 x6.2.1.2.2.2.2.1, Value.int .i64 x6.2.1.2.2.2.2.2], rfl, ⟨[Value.int .i64 x6.2.1.2.1.1], [Value.int .i64 x6.2.1.2.1.2.1, Value.int .i64 x6.2.1.2.1.2.2.1, Value.int .i64 x6.2.1.2.1.2.2.2], rfl, rfl, ⟨[Value.int .i64 x6.2.1.2.1.2.1], [Value.int .i64 x6.2.1.2.1.2.2.1, Value.int .i64 x6.2.1.2.1.2.2.2], rfl, rfl, ⟨[Value.int .i64 x6.2.1.2.1.2.2.1], [Value.int .i64 x6.2.1.2.1.2.2.2], rfl, rfl, rfl⟩⟩⟩, ⟨[Value.int .i64 x6.2.1.2.2.1], [Value.int .i64 x6.2.1.2.2.2.1, Value.int .i64 x6.2.1.2.2.2.2.1, Value.int .i64 x6.2.1.2.2.2.2.2], rfl, rfl, ⟨[Value.int .i64 x6.2.1.2.2.2.1], [Value.int .i64 x6.2.1.2.2.2.2.1, Value.int .i64 x6.2.1.2.2.2.2.2], rfl, rfl, ⟨[Value.int .i64 x6.2.1.2.2.2.2.1], [Value.int .i64 x6.2.1.2.2.2.2.2], rfl, rfl, rfl⟩⟩⟩⟩⟩, ⟨_, rfl, (Sl.stab (W.item (i := 1) rfl) (fun b hb _ => ⟨hA b hb, rfl⟩))⟩⟩⟩) fun w W => ?_
   refine Ag (AV (Ad (Ae ?_)))
   refine ls F W Aa (Cg F Aa Aa Aa).q fun a w F W => ?_
   refine ls F W Aa (Ai F Aa).q fun a w F W => ?_
   refine Ag (Ad ?_)
   have W := W.sub (M' := []) (Z' := [row v3 40 A4 (Dn x3 x4 x6)]) (List.nil_sublist _) (List.Sublist.cons_cons _ (List.nil_sublist _))
   exact ⟨_, H, F.re ⟨rfl, Aa, Aa, Aa, Aa, trivial⟩, W⟩
  have H := AK (Be hb) H
  rw [hb] at F
  clear hb
  refine BV ?_
  iterate 2 refine Cd ?_
  refine BU (Ad ?_)
  have H := L2 _ H
  exact ⟨_, H, F.re ⟨rfl, Aa, trivial⟩, W⟩
 rintro a w ⟨x2, hj, F, W⟩
 have hj := AO hj
 subst hj
 have H := K1
 clear G1 K1
 refine Ak (Ae ?_)
 refine ls F W Aa (Ai F Aa).q fun a w F W => ?_
 refine ls F W Aa (Af F Aa).q fun a w F W => ?_
 refine Ag (Ad (Aw ?_))
 have H := AO H
 subst H
 refine AF (.inl Aa) F W Aa (Av F Aa) ?_
 exact ⟨⟨v3, h3⟩, Aa, W⟩
theorem LL : Has Try.prog 40 := ⟨fun args w => An Try.func40 rfl (by decide) args w⟩
abbrev Kl (a : Int × (Int × (Int × (Int × Int × Int × Int) × (Int × Int × Int × Int)) × (Value × List (Int × Int × Int))) × Bool) : List Value := [.int .i64 a.1, .int .i64 a.2.1.1, .int .i64 a.2.1.2.1.1, .int .i64 a.2.1.2.1.2.1.1, .int .i64 a.2.1.2.1.2.1.2.1, .int .i64 a.2.1.2.1.2.1.2.2.1, .int .i64 a.2.1.2.1.2.1.2.2.2, .int .i64 a.2.1.2.1.2.2.1, .int .i64 a.2.1.2.1.2.2.2.1, .int .i64 a.2.1.2.1.2.2.2.2.1, .int .i64 a.2.1.2.1.2.2.2.2.2, a.2.1.2.2.1, .bool a.2.2]
theorem LH : FA KC Kl := (FA.pair Fl.int.to (FA.pair (FA.pair Fl.int.to (FA.pair Ma.to FA.vsl)) Fl.bool.to))
theorem Ln : Ty Try.prog 42 true 13 := ⟨by kernel_rfl, by kernel_rfl⟩
noncomputable def DD (p0 : Int × (Int × Int × Int × Int) × (Int × Int × Int × Int)) : Int → Option (Int ⊕ (Unit ⊕ Bool))
  | x1 => (if x1 < 4 then (ix ([p0.2.2.1, p0.2.2.2.1, p0.2.2.2.2.1, p0.2.2.2.2.2] : List Int) x1).bind fun x2 => (if x2 < 0 then some true else (Cx x1).bind fun x4 => (if x4 < x2 then some true else (ix ([p0.2.1.1, p0.2.1.2.1, p0.2.1.2.2.1, p0.2.1.2.2.2] : List Int) x1).bind fun x5 => (if x5 < 0 then some true else (ix ([p0.2.1.1, p0.2.1.2.1, p0.2.1.2.2.1, p0.2.1.2.2.2] : List Int) x1).bind fun x6 => some (decide ((GX .i64 x6 x2) ≠ 0))))).bind fun x3 => (if x3 = true then some (.inr (.inr false)) else some (.inl (C3 (x1 + 1)))) else some (.inr (.inl ())))
noncomputable def D0 (p0 : Int × (Int × Int × Int × Int) × (Int × Int × Int × Int)) : Option Bool := (if (decide (p0.1 ≠ (-1)) && (decide (p0.1 < 0) || decide (8 ≤ p0.1))) = true then some false else FC (BG (DD p0) 0) fun _ => some true)
theorem Ht (Y : Nat → Prop) (w0 : World)  (p0 : Int × (Int × Int × Int × Int) × (Int × Int × Int × Int)) (r : Bool) (H : D0 p0 = some r)  :
    Calls Try.prog 54 #[.agg #[.int .i64 p0.1, .int .i64 p0.2.1.1, .int .i64 p0.2.1.2.1, .int .i64 p0.2.1.2.2.1, .int .i64 p0.2.1.2.2.2, .int .i64 p0.2.2.1, .int .i64 p0.2.2.2.1, .int .i64 p0.2.2.2.2.1, .int .i64 p0.2.2.2.2.2]] w0 fun e w' => e = .returned (.bool r) ∧ Below w0.heap.size w0 w' := by
 refine enter Try.func54 Aa Try.ntmps54 Aa fun a F => ?_
 have W := Stw.start Y w0
 unfold D0 at H
 refine Ak (Ae ?_)
 refine B1 (cs := [.int .i64 p0.1, .int .i64 p0.2.1.1, .int .i64 p0.2.1.2.1, .int .i64 p0.2.1.2.2.1, .int .i64 p0.2.1.2.2.2, .int .i64 p0.2.2.1, .int .i64 p0.2.2.2.1, .int .i64 p0.2.2.2.2.1, .int .i64 p0.2.2.2.2.2]) F W Aa Aa Aa fun b1 a w F W => ?_
 refine ls F W Aa (Af F Aa).q fun a w F W => ?_
 refine Ag (Ad (Ak ?_))
 refine AJ (fun a w => Fr 49 [] [(1, .pointer (some ⟨b1, 0, none⟩)), (2, .bool false), (17, .bool (decide (p0.1 ≠ (-1)) && (decide (p0.1 < 0) || decide (8 ≤ p0.1))))] a ∧ Stw ⟨Y, [], w0⟩ [(b1, [.int .i64 p0.1, .int .i64 p0.2.1.1, .int .i64 p0.2.1.2.1, .int .i64 p0.2.1.2.2.1, .int .i64 p0.2.1.2.2.2, .int .i64 p0.2.2.1, .int .i64 p0.2.2.2.1, .int .i64 p0.2.2.2.2.1, .int .i64 p0.2.2.2.2.2])] [] w) ?_ ?_
 ·
  refine Ae ?_
  refine ls F W Aa (Al CJ Aa Aa Aa T3 F Aa 0 Aa).q fun a w F W => ?_
  refine ls F W Aa (As (v := Value.int .i64 p0.1) 0 F Aa Aa T3 Aa).q fun a w F W => ?_
  refine ls F W Aa (F9 F Aa Aa).q fun a w F W => ?_
  refine ls F W Aa (Ai F Aa).q fun a w F W => ?_
  rcases Bool.eq_false_or_eq_true (decide (p0.1 ≠ (-1))) with hb0 | hb0
  ·
   rw [hb0] at F
   refine AE F W (Aj F Aa Aa Aa Aa) Aa (Ao Aa) (Al CJ Aa Aa Aa T3 F Aa 0 Aa).q fun a w F W => ?_
   refine AE F W (Aj F Aa Aa Aa Aa) Aa (Ao Aa) (As (v := Value.int .i64 p0.1) 0 F Aa Aa T3 Aa).q fun a w F W => ?_
   refine AE F W (Aj F Aa Aa Aa Aa) Aa (Ao Aa) (BO F Aa Aa).q fun a w F W => ?_
   refine AE F W (Aj F Aa Aa Aa Aa) Aa (Ao Aa) (Ai F Aa).q fun a w F W => ?_
   rcases Bool.eq_false_or_eq_true (decide (p0.1 < 0)) with hb1 | hb1
   ·
    rw [hb1] at F
    iterate 3 refine Cw F Aa Aa Aa Aa Aa Aa Aa fun a F => ?_
    refine AE F W (Aj F Aa Aa Aa Aa) Aa (Ao Aa) (Au F Aa Aa Aa).q fun a w F W => ?_
    refine ls F W Aa (Au F Aa Aa Aa).q fun a w F W => ?_
    refine Ag (Ad ?_)
    exact ⟨F.re ⟨rfl, Aa, (by show some (Value.bool true) = some (Value.bool (decide (p0.1 ≠ (-1)) && (decide (p0.1 < 0) || decide (8 ≤ p0.1)))); try rw [hb0]; try rw [hb1]; all_goals simp only [Bool.not_true, Bool.not_false, Bool.true_and, Bool.false_and, Bool.true_or, Bool.false_or, Bool.and_true, Bool.or_false, cond_true, cond_false]), trivial⟩, W⟩
   rw [hb1] at F
   refine AE F W (Aj F Aa Aa Aa Aa) Aa (Ao Aa) (Al CJ Aa Aa Aa T3 F Aa 0 Aa).q fun a w F W => ?_
   refine AE F W (Aj F Aa Aa Aa Aa) Aa (Ao Aa) (As (v := Value.int .i64 p0.1) 0 F Aa Aa T3 Aa).q fun a w F W => ?_
   refine AE F W (Aj F Aa Aa Aa Aa) Aa (Ao Aa) (D3 F Aa Aa).q fun a w F W => ?_
   refine AE F W (Aj F Aa Aa Aa Aa) Aa (Ao Aa) (Ap F Aa Aa Aa).q fun a w F W => ?_
   refine ls F W Aa (Au F Aa Aa Aa).q fun a w F W => ?_
   refine Ag (Ad ?_)
   exact ⟨F.re ⟨rfl, Aa, (by show some (Value.bool (decide (8 ≤ p0.1))) = some (Value.bool (decide (p0.1 ≠ (-1)) && (decide (p0.1 < 0) || decide (8 ≤ p0.1)))); try rw [hb0]; try rw [hb1]; all_goals simp only [Bool.not_true, Bool.not_false, Bool.true_and, Bool.false_and, Bool.true_or, Bool.false_or, Bool.and_true, Bool.or_false, cond_true, cond_false]), trivial⟩, W⟩
  rw [hb0] at F
  iterate 4 refine Cw F Aa Aa Aa Aa Aa Aa Aa fun a F => ?_
  iterate 3 refine ML F Aa Aa Aa Aa Aa Aa fun a F => ?_
  refine Cw F Aa Aa Aa Aa Aa Aa Aa fun a F => ?_
  refine ls F W Aa (Ap F Aa Aa Aa).q fun a w F W => ?_
  refine Ag (Ad ?_)
  exact ⟨F.re ⟨rfl, Aa, (by show some (Value.bool false) = some (Value.bool (decide (p0.1 ≠ (-1)) && (decide (p0.1 < 0) || decide (8 ≤ p0.1)))); try rw [hb0]; all_goals simp only [Bool.not_true, Bool.not_false, Bool.true_and, Bool.false_and, Bool.true_or, Bool.false_or, Bool.and_true, Bool.or_false, cond_true, cond_false]), trivial⟩, W⟩
 rintro a w ⟨F, W⟩
 refine Az F Aa (fun hb => ?_) fun hb => ?_
 ·
  have H := AL hb H
  rw [hb] at F
  clear hb
  refine Ak (Ae ?_)
  refine ls F W Aa (Af F Aa).q fun a w F W => ?_
  refine Ag (Ad (Aw (AB ?_)))
  have H := AO H
  subst H
  refine AF (.inl Aa) F W Aa (Av F Aa) ?_
  exact ⟨rfl, W.done⟩
 have H := AK (by rw [hb]; decide) H
 rw [hb] at F
 clear hb
 refine Ay (Ad ?_)
 obtain ⟨o1, G1, K1, L1⟩ := Ia H
 refine AJ (fun a w => some (Sum.inl ()) = some o1 ∧ Fr 49 [] [(2, .bool false)] a ∧ Stw ⟨Y, [], w0⟩ [(b1, [.int .i64 p0.1, .int .i64 p0.2.1.1, .int .i64 p0.2.1.2.1, .int .i64 p0.2.1.2.2.1, .int .i64 p0.2.1.2.2.2, .int .i64 p0.2.2.1, .int .i64 p0.2.2.2.1, .int .i64 p0.2.2.2.2.1, .int .i64 p0.2.2.2.2.2])] [] w) ?_ ?_
 ·
  have H := G1
  clear G1 K1
  refine Ak (Ae ?_)
  refine ls F W Aa (Al CJ Aa Aa Aa Gu F Aa 5 Aa).q fun a w F W => ?_
  refine ls F W Aa (As (v := Value.agg #[.int .i64 p0.2.2.1, .int .i64 p0.2.2.2.1, .int .i64 p0.2.2.2.2.1, .int .i64 p0.2.2.2.2.2]) 0 F Aa Aa Gu Aa).q fun a w F W => ?_
  refine ls F W Aa (Ai F Aa).q fun a w F W => ?_
  refine Ag (Ad (AA ?_))
  refine BW H (fun s a w => Fr 49 [] [(1, .pointer (some ⟨b1, 0, none⟩)), (2, .bool false), (19, .agg #[.int .i64 p0.2.2.1, .int .i64 p0.2.2.2.1, .int .i64 p0.2.2.2.2.1, .int .i64 p0.2.2.2.2.2]), (20, .int .i64 s)] a ∧ Stw ⟨Y, [], w0⟩ [(b1, [.int .i64 p0.1, .int .i64 p0.2.1.1, .int .i64 p0.2.1.2.1, .int .i64 p0.2.1.2.2.1, .int .i64 p0.2.1.2.2.2, .int .i64 p0.2.2.1, .int .i64 p0.2.2.2.1, .int .i64 p0.2.2.2.2.1, .int .i64 p0.2.2.2.2.2])] [] w) ⟨F.re ⟨rfl, Aa, Aa, Aa, trivial⟩, W⟩ fun s o a w H L2 hR => ?_
  obtain ⟨x1, rfl⟩ : ∃ x, x = s := ⟨s, rfl⟩
  obtain ⟨F, W⟩ := hR
  have F : Fr 49 [] [(1, .pointer (some ⟨b1, 0, none⟩)), (2, .bool false), (19, .agg #[.int .i64 p0.2.2.1, .int .i64 p0.2.2.2.1, .int .i64 p0.2.2.2.2.1, .int .i64 p0.2.2.2.2.2]), (20, .int .i64 x1)] a := F
  have W : Stw ⟨Y, [], w0⟩ [(b1, [.int .i64 p0.1, .int .i64 p0.2.1.1, .int .i64 p0.2.1.2.1, .int .i64 p0.2.1.2.2.1, .int .i64 p0.2.1.2.2.2, .int .i64 p0.2.2.1, .int .i64 p0.2.2.2.1, .int .i64 p0.2.2.2.2.1, .int .i64 p0.2.2.2.2.2])] [] w := W
  rw [DD] at H
  refine Ak (Ae ?_)
  refine ls F W Aa (BO F Aa Aa).q fun a w F W => ?_
  refine Ag (Ad (Ak ?_))
  refine Az F Aa (fun hb => ?_) fun hb => ?_
  ·
   have H := AL (Bd hb) H
   rw [hb] at F
   clear hb
   refine Ay (Ad (Ak (AA (Ak (Ae ?_)))))
   refine ls F W Aa (Ai F Aa).q fun a w F W => ?_
   obtain ⟨x2, h1, H⟩ := Aq H
   refine ls F W Aa (Ix (enc := Value.int .i64) (cs := [.int .i64 p0.2.2.1, .int .i64 p0.2.2.2.1, .int .i64 p0.2.2.2.2.1, .int .i64 p0.2.2.2.2.2]) Ep T3 F Aa Aa Aa Aa h1).q fun a w F W => ?_
   iterate 2 refine ls F W Aa (Af F Aa).q fun a w F W => ?_
   refine Ag (Ad ?_)
   obtain ⟨o3, G3, K3⟩ := Aq H
   refine AJ (fun a w => ∃ x3 : Bool, some (x3) = some o3 ∧ Fr 49 [] [(1, .pointer (some ⟨b1, 0, none⟩)), (2, .bool false), (19, .agg #[.int .i64 p0.2.2.1, .int .i64 p0.2.2.2.1, .int .i64 p0.2.2.2.2.1, .int .i64 p0.2.2.2.2.2]), (20, .int .i64 x1), (47, .bool x3)] a ∧ Stw ⟨Y, [], w0⟩ [(b1, [.int .i64 p0.1, .int .i64 p0.2.1.1, .int .i64 p0.2.1.2.1, .int .i64 p0.2.1.2.2.1, .int .i64 p0.2.1.2.2.2, .int .i64 p0.2.2.1, .int .i64 p0.2.2.2.1, .int .i64 p0.2.2.2.2.1, .int .i64 p0.2.2.2.2.2])] [] w) ?_ ?_
   ·
    have H := G3
    clear G3 K3
    refine Ae ?_
    refine ls F W Aa (Ai F Aa).q fun a w F W => ?_
    refine ls F W Aa (BO F Aa Aa).q fun a w F W => ?_
    refine ls F W Aa (Ai F Aa).q fun a w F W => ?_
    rcases Bool.eq_false_or_eq_true (decide (x2 < 0)) with hb | hb
    ·
     have H := AL (Bd hb) H
     rw [hb] at F
     clear hb
     iterate 4 refine Cw F Aa Aa Aa Aa Aa Aa Aa fun a F => ?_
     refine ls F W Aa (Au F Aa Aa Aa).q fun a w F W => ?_
     refine ls F W Aa (Ai F Aa).q fun a w F W => ?_
     iterate 5 refine Cw F Aa Aa Aa Aa Aa Aa Aa fun a F => ?_
     refine ls F W Aa (Au F Aa Aa Aa).q fun a w F W => ?_
     refine ls F W Aa (Ai F Aa).q fun a w F W => ?_
     iterate 7 refine Cw F Aa Aa Aa Aa Aa Aa Aa fun a F => ?_
     refine ls F W Aa (Au F Aa Aa Aa).q fun a w F W => ?_
     refine Ag (Ad ?_)
     exact ⟨_, H, F.re ⟨rfl, Aa, Aa, Aa, Aa, trivial⟩, W⟩
    have H := AK (Be hb) H
    rw [hb] at F
    clear hb
    iterate 2 refine AE F W (Aj F Aa Aa Aa Aa) Aa (Ao Aa) (Ai F Aa).q fun a w F W => ?_
    refine Gs (Aj F Aa Aa Aa Aa) ?_
    obtain ⟨x4, h2, H⟩ := Aq H
    refine ls F W Aa (AW (v := Value.int .i64 x4) F KN Aa (fun w W => Dz any w x1 _ h2)) fun a w F W => ?_
    refine AE F W (Aj F Aa Aa Aa Aa) Aa (Ao Aa) (Fw F Aa Aa).q fun a w F W => ?_
    refine ls F W Aa (Ap F Aa Aa Aa).q fun a w F W => ?_
    refine ls F W Aa (Ai F Aa).q fun a w F W => ?_
    rcases Bool.eq_false_or_eq_true (decide (x4 < x2)) with hb | hb
    ·
     have H := AL (Bd hb) H
     rw [hb] at F
     clear hb
     iterate 5 refine Cw F Aa Aa Aa Aa Aa Aa Aa fun a F => ?_
     refine ls F W Aa (Au F Aa Aa Aa).q fun a w F W => ?_
     refine ls F W Aa (Ai F Aa).q fun a w F W => ?_
     iterate 7 refine Cw F Aa Aa Aa Aa Aa Aa Aa fun a F => ?_
     refine ls F W Aa (Au F Aa Aa Aa).q fun a w F W => ?_
     refine Ag (Ad ?_)
     exact ⟨_, H, F.re ⟨rfl, Aa, Aa, Aa, Aa, trivial⟩, W⟩
    have H := AK (Be hb) H
    rw [hb] at F
    clear hb
    refine AE F W (Aj F Aa Aa Aa Aa) Aa (Ao Aa) (Ai F Aa).q fun a w F W => ?_
    refine AE F W (Aj F Aa Aa Aa Aa) Aa (Ao Aa) (Al CJ Aa Aa Aa Gu F Aa 1 Aa).q fun a w F W => ?_
    obtain ⟨x5, h3, H⟩ := Aq H
    refine AE F W (Aj F Aa Aa Aa Aa) Aa (Ao Aa) (Bq (1 + (x1).toNat * 1) Ep F Aa Aa Aa h3 Aa).q fun a w F W => ?_
    refine AE F W (Aj F Aa Aa Aa Aa) Aa (Ao Aa) (As (v := Value.int .i64 x5) 0 F Aa Aa T3 (Cc (base := 1) (m := 4) (l := [p0.2.1.1, p0.2.1.2.1, p0.2.1.2.2.1, p0.2.1.2.2.2]) (enc := Value.int .i64) Aa h3)).q fun a w F W => ?_
    refine AE F W (Aj F Aa Aa Aa Aa) Aa (Ao Aa) (BO F Aa Aa).q fun a w F W => ?_
    refine ls F W Aa (Ap F Aa Aa Aa).q fun a w F W => ?_
    refine ls F W Aa (Ai F Aa).q fun a w F W => ?_
    rcases Bool.eq_false_or_eq_true (decide (x5 < 0)) with hb | hb
    ·
     have H := AL (Bd hb) H
     rw [hb] at F
     clear hb
     iterate 7 refine Cw F Aa Aa Aa Aa Aa Aa Aa fun a F => ?_
     refine ls F W Aa (Au F Aa Aa Aa).q fun a w F W => ?_
     refine Ag (Ad ?_)
     exact ⟨_, H, F.re ⟨rfl, Aa, Aa, Aa, Aa, trivial⟩, W⟩
    have H := AK (Be hb) H
    rw [hb] at F
    clear hb
    refine AE F W (Aj F Aa Aa Aa Aa) Aa (Ao Aa) (Ai F Aa).q fun a w F W => ?_
    refine AE F W (Aj F Aa Aa Aa Aa) Aa (Ao Aa) (Al CJ Aa Aa Aa Gu F Aa 1 Aa).q fun a w F W => ?_
    obtain ⟨x6, h4, H⟩ := Aq H
    refine AE F W (Aj F Aa Aa Aa Aa) Aa (Ao Aa) (Bq (1 + (x1).toNat * 1) Ep F Aa Aa Aa h4 Aa).q fun a w F W => ?_
    refine AE F W (Aj F Aa Aa Aa Aa) Aa (Ao Aa) (As (v := Value.int .i64 x6) 0 F Aa Aa T3 (Cc (base := 1) (m := 4) (l := [p0.2.1.1, p0.2.1.2.1, p0.2.1.2.2.1, p0.2.1.2.2.2]) (enc := Value.int .i64) Aa h4)).q fun a w F W => ?_
    refine AE F W (Aj F Aa Aa Aa Aa) Aa (Ao Aa) (Ai F Aa).q fun a w F W => ?_
    refine AE F W (Aj F Aa Aa Aa Aa) Aa (Ao Aa) (JK F Aa Aa).q fun a w F W => ?_
    refine AE F W (Aj F Aa Aa Aa Aa) Aa (Ao Aa) (F9 F Aa Aa).q fun a w F W => ?_
    refine ls F W Aa (Ap F Aa Aa Aa).q fun a w F W => ?_
    refine Ag (Ad ?_)
    exact ⟨_, H, F.re ⟨rfl, Aa, Aa, Aa, Aa, trivial⟩, W⟩
   rintro a w ⟨x3, hj, F, W⟩
   have hj := AO hj
   subst hj
   have H := K3
   clear G3 K3
   refine Az F Aa (fun hb => ?_) fun hb => ?_
   ·
    have H := AL hb H
    rw [hb] at F
    clear hb
    refine Ak (Ae ?_)
    refine ls F W Aa (Af F Aa).q fun a w F W => ?_
    refine Ag (Ad (Aw (AM ?_)))
    iterate 2 refine AB ?_
    refine AM (AB ?_)
    have H := L2 _ H
    have H := L1 _ H
    have H := AO H
    subst H
    refine AF (.inl Aa) F W Aa (Av F Aa) ?_
    exact ⟨rfl, W.done⟩
   have H := AK (by rw [hb]; decide) H
   rw [hb] at F
   clear hb
   refine Ay (AV (Ad (Ae ?_)))
   refine ls F W Aa (Cg F Aa Aa Aa).q fun a w F W => ?_
   refine ls F W Aa (Ai F Aa).q fun a w F W => ?_
   refine Ag (Ad ?_)
   exact ⟨_, H, F.re ⟨rfl, Aa, Aa, Aa, trivial⟩, W⟩
  have H := AK (Be hb) H
  rw [hb] at F
  clear hb
  refine BV ?_
  iterate 2 refine Cd ?_
  refine BU (Ad ?_)
  have H := L2 _ H
  exact ⟨H, F.re ⟨rfl, trivial⟩, W⟩
 rintro a w ⟨hj, F, W⟩
 have H := K1 _ hj
 clear hj G1 K1 L1
 refine Ak (Ae ?_)
 refine ls F W Aa (Af F Aa).q fun a w F W => ?_
 refine Ag (Ad (Aw ?_))
 have H := AO H
 subst H
 refine AF (.inl Aa) F W Aa (Av F Aa) ?_
 exact ⟨rfl, W.done⟩
theorem Mx : Has Try.prog 54 := ⟨fun args w => An Try.func54 rfl (by decide) args w⟩
theorem KM : Ty Try.prog 61 true 3 := ⟨by kernel_rfl, by kernel_rfl⟩
noncomputable def Ff (p0 : Int × Int × Int) (p1 : Int) : Option Bool := (if p0.1 = 1 then (if 0 ≤ p0.2.1 then (if p0.2.1 < 4 then (if 0 ≤ p0.2.2 then (Cx p0.2.1).bind fun x2 => some (decide (p0.2.2 ≤ x2)) else some false) else some false) else some false).bind fun x1 => some x1 else (if p0.1 = 2 then some (decide (p0.2.1 = 0) && (decide (0 ≤ p0.2.2) && decide (p0.2.2 < p1))) else (if p0.1 = 3 then some (decide (p0.2.1 = 0) && decide (p0.2.2 = 0)) else some false)))
theorem Iv (Y : Nat → Prop) (w0 : World)  (p0 : Int × Int × Int) (p1 : Int) (r : Bool) (H : Ff p0 p1 = some r)  :
    Calls Try.prog 74 #[.agg #[.int .i64 p0.1, .int .i64 p0.2.1, .int .i64 p0.2.2], .int .i64 p1] w0 fun e w' => e = .returned (.bool r) ∧ Below w0.heap.size w0 w' := by
 refine enter Try.func74 Aa Try.ntmps74 Aa fun a F => ?_
 have W := Stw.start Y w0
 unfold Ff at H
 refine Ak (Ae ?_)
 refine B1 (cs := [.int .i64 p0.1, .int .i64 p0.2.1, .int .i64 p0.2.2]) F W Aa Aa Aa fun b1 a w F W => ?_
 refine ls F W Aa (Af F Aa).q fun a w F W => ?_
 refine Ag (Ad (Ak (Ak (Ae ?_))))
 refine ls F W Aa (Al DE Aa Aa Aa T3 F Aa 0 Aa).q fun a w F W => ?_
 refine ls F W Aa (As (v := Value.int .i64 p0.1) 0 F Aa Aa T3 Aa).q fun a w F W => ?_
 refine Ag (Ad (AA (Ak (Ae ?_))))
 refine ls F W Aa (BP F Aa Aa).q fun a w F W => ?_
 refine ls F W Aa (Af F Aa).q fun a w F W => ?_
 refine Ag (Ad ?_)
 refine Az F Aa (fun hb => ?_) fun hb => ?_
 ·
  have H := AL (Bd hb) H
  rw [hb] at F
  clear hb
  obtain ⟨o1, G1, K1⟩ := Aq H
  refine AJ (fun a w => ∃ x1 : Bool, some (x1) = some o1 ∧ Fr 56 [] [(4, .bool x1)] a ∧ Stw ⟨Y, [], w0⟩ [(b1, [.int .i64 p0.1, .int .i64 p0.2.1, .int .i64 p0.2.2])] [] w) ?_ ?_
  ·
   have H := G1
   clear G1 K1
   refine CR W MO (by kernel_rfl) ?_
   refine qs F Aa (Al DE Aa Aa Aa T3 F Aa 1 Aa).q fun a F => ?_
   refine qs F Aa (As (v := Value.int .i64 p0.2.1) 0 F Aa Aa T3 Aa).q fun a F => ?_
   refine qs F Aa (D3 F Aa Aa).q fun a F => ?_
   refine qs F Aa (Ai F Aa).q fun a F => ?_
   rcases Bool.eq_false_or_eq_true (decide (0 ≤ p0.2.1)) with hb | hb
   ·
    have H := AL (Bd hb) H
    rw [hb] at F
    clear hb
    refine A0 F (Aj F Aa Aa Aa Aa) Aa (Ao Aa) (Al DE Aa Aa Aa T3 F Aa 1 Aa).q fun a F => ?_
    refine A0 F (Aj F Aa Aa Aa Aa) Aa (Ao Aa) (As (v := Value.int .i64 p0.2.1) 0 F Aa Aa T3 Aa).q fun a F => ?_
    refine A0 F (Aj F Aa Aa Aa Aa) Aa (Ao Aa) (BO F Aa Aa).q fun a F => ?_
    refine qs F Aa (Au F Aa Aa Aa).q fun a F => ?_
    refine qs F Aa (Ai F Aa).q fun a F => ?_
    rcases Bool.eq_false_or_eq_true (decide (p0.2.1 < 4)) with hb | hb
    ·
     have H := AL (Bd hb) H
     rw [hb] at F
     clear hb
     refine A0 F (Aj F Aa Aa Aa Aa) Aa (Ao Aa) (Al DE Aa Aa Aa T3 F Aa 2 Aa).q fun a F => ?_
     refine A0 F (Aj F Aa Aa Aa Aa) Aa (Ao Aa) (As (v := Value.int .i64 p0.2.2) 0 F Aa Aa T3 Aa).q fun a F => ?_
     refine A0 F (Aj F Aa Aa Aa Aa) Aa (Ao Aa) (D3 F Aa Aa).q fun a F => ?_
     refine qs F Aa (Au F Aa Aa Aa).q fun a F => ?_
     refine qs F Aa (Ai F Aa).q fun a F => ?_
     rcases Bool.eq_false_or_eq_true (decide (0 ≤ p0.2.2)) with hb | hb
     ·
      have H := AL (Bd hb) H
      rw [hb] at F
      clear hb
      refine A0 F (Aj F Aa Aa Aa Aa) Aa (Ao Aa) (Al DE Aa Aa Aa T3 F Aa 2 Aa).q fun a F => ?_
      refine A0 F (Aj F Aa Aa Aa Aa) Aa (Ao Aa) (As (v := Value.int .i64 p0.2.2) 0 F Aa Aa T3 Aa).q fun a F => ?_
      refine A0 F (Aj F Aa Aa Aa Aa) Aa (Ao Aa) (Al DE Aa Aa Aa T3 F Aa 1 Aa).q fun a F => ?_
      refine A0 F (Aj F Aa Aa Aa Aa) Aa (Ao Aa) (As (v := Value.int .i64 p0.2.1) 0 F Aa Aa T3 Aa).q fun a F => ?_
      obtain ⟨x2, h1, H⟩ := Aq H
      refine A0 F (Aj F Aa Aa Aa Aa) Aa (Ao Aa) (AW (v := Value.int .i64 x2) F KN Aa (fun w W => Dz any w p0.2.1 _ h1)) fun a F => ?_
      refine A0 F (Aj F Aa Aa Aa Aa) Aa (Ao Aa) (GH F Aa Aa).q fun a F => ?_
      refine qs F Aa (Au F Aa Aa Aa).q fun a F => ?_
      refine qs F Aa (Af F Aa).q fun a F => ?_
      refine AU fun w W => ?_
      refine Ad ?_
      exact ⟨_, H, F.re ⟨rfl, trivial⟩, W⟩
     have H := AK (Be hb) H
     rw [hb] at F
     clear hb
     iterate 6 refine AP F (AN F Aa Aa Aa Aa Aa) Aa Aa fun a F => ?_
     refine qs F Aa (Ap F Aa Aa Aa).q fun a F => ?_
     refine qs F Aa (Af F Aa).q fun a F => ?_
     refine AU fun w W => ?_
     refine Ad ?_
     exact ⟨_, H, F.re ⟨rfl, trivial⟩, W⟩
    have H := AK (Be hb) H
    rw [hb] at F
    clear hb
    iterate 3 refine AP F (AN F Aa Aa Aa Aa Aa) Aa Aa fun a F => ?_
    refine qs F Aa (Ap F Aa Aa Aa).q fun a F => ?_
    refine qs F Aa (Ai F Aa).q fun a F => ?_
    iterate 6 refine AP F (AN F Aa Aa Aa Aa Aa) Aa Aa fun a F => ?_
    refine qs F Aa (Ap F Aa Aa Aa).q fun a F => ?_
    refine qs F Aa (Af F Aa).q fun a F => ?_
    refine AU fun w W => ?_
    refine Ad ?_
    exact ⟨_, H, F.re ⟨rfl, trivial⟩, W⟩
   have H := AK (Be hb) H
   rw [hb] at F
   clear hb
   iterate 3 refine AP F (AN F Aa Aa Aa Aa Aa) Aa Aa fun a F => ?_
   refine qs F Aa (Ap F Aa Aa Aa).q fun a F => ?_
   refine qs F Aa (Ai F Aa).q fun a F => ?_
   iterate 3 refine AP F (AN F Aa Aa Aa Aa Aa) Aa Aa fun a F => ?_
   refine qs F Aa (Ap F Aa Aa Aa).q fun a F => ?_
   refine qs F Aa (Ai F Aa).q fun a F => ?_
   iterate 6 refine AP F (AN F Aa Aa Aa Aa Aa) Aa Aa fun a F => ?_
   refine qs F Aa (Ap F Aa Aa Aa).q fun a F => ?_
   refine qs F Aa (Af F Aa).q fun a F => ?_
   refine AU fun w W => ?_
   refine Ad ?_
   exact ⟨_, H, F.re ⟨rfl, trivial⟩, W⟩
  rintro a w ⟨x1, hj, F, W⟩
  have hj := AO hj
  subst hj
  have H := K1
  clear G1 K1
  refine Aw (AM (AB ?_))
  have H := AO H
  subst H
  refine AF (.inl Aa) F W Aa (Av F Aa) ?_
  exact ⟨rfl, W.done⟩
 have H := AK (Be hb) H
 rw [hb] at F
 clear hb
 refine Ak (Ae ?_)
 refine ls F W Aa (BP F Aa Aa).q fun a w F W => ?_
 refine ls F W Aa (Af F Aa).q fun a w F W => ?_
 refine Ag (Ad ?_)
 refine Az F Aa (fun hb => ?_) fun hb => ?_
 ·
  have H := AL (Bd hb) H
  rw [hb] at F
  clear hb
  refine AJ (fun a w => Fr 56 [] [(4, .bool (decide (p0.2.1 = 0) && (decide (0 ≤ p0.2.2) && decide (p0.2.2 < p1))))] a ∧ Stw ⟨Y, [], w0⟩ [(b1, [.int .i64 p0.1, .int .i64 p0.2.1, .int .i64 p0.2.2])] [] w) ?_ ?_
  ·
   refine Ae ?_
   refine ls F W Aa (Al DE Aa Aa Aa T3 F Aa 1 Aa).q fun a w F W => ?_
   refine ls F W Aa (As (v := Value.int .i64 p0.2.1) 0 F Aa Aa T3 Aa).q fun a w F W => ?_
   refine ls F W Aa (BP F Aa Aa).q fun a w F W => ?_
   refine ls F W Aa (Ai F Aa).q fun a w F W => ?_
   rcases Bool.eq_false_or_eq_true (decide (p0.2.1 = 0)) with hb0 | hb0
   ·
    rw [hb0] at F
    refine AE F W (Aj F Aa Aa Aa Aa) Aa (Ao Aa) (Al DE Aa Aa Aa T3 F Aa 2 Aa).q fun a w F W => ?_
    refine AE F W (Aj F Aa Aa Aa Aa) Aa (Ao Aa) (As (v := Value.int .i64 p0.2.2) 0 F Aa Aa T3 Aa).q fun a w F W => ?_
    refine AE F W (Aj F Aa Aa Aa Aa) Aa (Ao Aa) (D3 F Aa Aa).q fun a w F W => ?_
    refine ls F W Aa (Au F Aa Aa Aa).q fun a w F W => ?_
    refine ls F W Aa (Ai F Aa).q fun a w F W => ?_
    rcases Bool.eq_false_or_eq_true (decide (0 ≤ p0.2.2)) with hb1 | hb1
    ·
     rw [hb1] at F
     refine AE F W (Aj F Aa Aa Aa Aa) Aa (Ao Aa) (Al DE Aa Aa Aa T3 F Aa 2 Aa).q fun a w F W => ?_
     refine AE F W (Aj F Aa Aa Aa Aa) Aa (Ao Aa) (As (v := Value.int .i64 p0.2.2) 0 F Aa Aa T3 Aa).q fun a w F W => ?_
     refine AE F W (Aj F Aa Aa Aa Aa) Aa (Ao Aa) (Ai F Aa).q fun a w F W => ?_
     refine AE F W (Aj F Aa Aa Aa Aa) Aa (Ao Aa) (BO F Aa Aa).q fun a w F W => ?_
     refine ls F W Aa (Au F Aa Aa Aa).q fun a w F W => ?_
     refine ls F W Aa (Af F Aa).q fun a w F W => ?_
     refine Ag (Ad ?_)
     exact ⟨F.re ⟨(by show some (Value.bool (decide (p0.2.2 < p1))) = some (Value.bool (decide (p0.2.1 = 0) && (decide (0 ≤ p0.2.2) && decide (p0.2.2 < p1)))); try rw [hb0]; try rw [hb1]; all_goals simp only [Bool.not_true, Bool.not_false, Bool.true_and, Bool.false_and, Bool.true_or, Bool.false_or, Bool.and_true, Bool.or_false, cond_true, cond_false]), trivial⟩, W⟩
    rw [hb1] at F
    iterate 4 refine Cw F Aa Aa Aa Aa Aa Aa Aa fun a F => ?_
    refine ls F W Aa (Ap F Aa Aa Aa).q fun a w F W => ?_
    refine ls F W Aa (Af F Aa).q fun a w F W => ?_
    refine Ag (Ad ?_)
    exact ⟨F.re ⟨(by show some (Value.bool false) = some (Value.bool (decide (p0.2.1 = 0) && (decide (0 ≤ p0.2.2) && decide (p0.2.2 < p1)))); try rw [hb0]; try rw [hb1]; all_goals simp only [Bool.not_true, Bool.not_false, Bool.true_and, Bool.false_and, Bool.true_or, Bool.false_or, Bool.and_true, Bool.or_false, cond_true, cond_false]), trivial⟩, W⟩
   rw [hb0] at F
   iterate 3 refine Cw F Aa Aa Aa Aa Aa Aa Aa fun a F => ?_
   refine ls F W Aa (Ap F Aa Aa Aa).q fun a w F W => ?_
   refine ls F W Aa (Ai F Aa).q fun a w F W => ?_
   iterate 4 refine Cw F Aa Aa Aa Aa Aa Aa Aa fun a F => ?_
   refine ls F W Aa (Ap F Aa Aa Aa).q fun a w F W => ?_
   refine ls F W Aa (Af F Aa).q fun a w F W => ?_
   refine Ag (Ad ?_)
   exact ⟨F.re ⟨(by show some (Value.bool false) = some (Value.bool (decide (p0.2.1 = 0) && (decide (0 ≤ p0.2.2) && decide (p0.2.2 < p1)))); try rw [hb0]; all_goals simp only [Bool.not_true, Bool.not_false, Bool.true_and, Bool.false_and, Bool.true_or, Bool.false_or, Bool.and_true, Bool.or_false, cond_true, cond_false]), trivial⟩, W⟩
  rintro a w ⟨F, W⟩
  refine Aw (AM (AB ?_))
  have H := AO H
  subst H
  refine AF (.inl Aa) F W Aa (Av F Aa) ?_
  exact ⟨rfl, W.done⟩
 have H := AK (Be hb) H
 rw [hb] at F
 clear hb
 refine Ak (Ae ?_)
 refine ls F W Aa (BP F Aa Aa).q fun a w F W => ?_
 refine ls F W Aa (Af F Aa).q fun a w F W => ?_
 refine Ag (Ad ?_)
 refine Az F Aa (fun hb => ?_) fun hb => ?_
 ·
  have H := AL (Bd hb) H
  rw [hb] at F
  clear hb
  refine AJ (fun a w => Fr 56 [] [(4, .bool (decide (p0.2.1 = 0) && decide (p0.2.2 = 0)))] a ∧ Stw ⟨Y, [], w0⟩ [(b1, [.int .i64 p0.1, .int .i64 p0.2.1, .int .i64 p0.2.2])] [] w) ?_ ?_
  ·
   refine Ae ?_
   refine ls F W Aa (Al DE Aa Aa Aa T3 F Aa 1 Aa).q fun a w F W => ?_
   refine ls F W Aa (As (v := Value.int .i64 p0.2.1) 0 F Aa Aa T3 Aa).q fun a w F W => ?_
   refine ls F W Aa (BP F Aa Aa).q fun a w F W => ?_
   refine ls F W Aa (Ai F Aa).q fun a w F W => ?_
   rcases Bool.eq_false_or_eq_true (decide (p0.2.1 = 0)) with hb0 | hb0
   ·
    rw [hb0] at F
    refine AE F W (Aj F Aa Aa Aa Aa) Aa (Ao Aa) (Al DE Aa Aa Aa T3 F Aa 2 Aa).q fun a w F W => ?_
    refine AE F W (Aj F Aa Aa Aa Aa) Aa (Ao Aa) (As (v := Value.int .i64 p0.2.2) 0 F Aa Aa T3 Aa).q fun a w F W => ?_
    refine AE F W (Aj F Aa Aa Aa Aa) Aa (Ao Aa) (BP F Aa Aa).q fun a w F W => ?_
    refine ls F W Aa (Au F Aa Aa Aa).q fun a w F W => ?_
    refine ls F W Aa (Af F Aa).q fun a w F W => ?_
    refine Ag (Ad ?_)
    exact ⟨F.re ⟨(by show some (Value.bool (decide (p0.2.2 = 0))) = some (Value.bool (decide (p0.2.1 = 0) && decide (p0.2.2 = 0))); try rw [hb0]; all_goals simp only [Bool.not_true, Bool.not_false, Bool.true_and, Bool.false_and, Bool.true_or, Bool.false_or, Bool.and_true, Bool.or_false, cond_true, cond_false]), trivial⟩, W⟩
   rw [hb0] at F
   iterate 3 refine Cw F Aa Aa Aa Aa Aa Aa Aa fun a F => ?_
   refine ls F W Aa (Ap F Aa Aa Aa).q fun a w F W => ?_
   refine ls F W Aa (Af F Aa).q fun a w F W => ?_
   refine Ag (Ad ?_)
   exact ⟨F.re ⟨(by show some (Value.bool false) = some (Value.bool (decide (p0.2.1 = 0) && decide (p0.2.2 = 0))); try rw [hb0]; all_goals simp only [Bool.not_true, Bool.not_false, Bool.true_and, Bool.false_and, Bool.true_or, Bool.false_or, Bool.and_true, Bool.or_false, cond_true, cond_false]), trivial⟩, W⟩
  rintro a w ⟨F, W⟩
  refine Aw (AM (AB ?_))
  have H := AO H
  subst H
  refine AF (.inl Aa) F W Aa (Av F Aa) ?_
  exact ⟨rfl, W.done⟩
 have H := AK (Be hb) H
 rw [hb] at F
 clear hb
 refine Ay (AV (Ad (Ak (Ae ?_))))
 refine ls F W Aa (Af F Aa).q fun a w F W => ?_
 refine Ag (Ad (Aw ?_))
 have H := AO H
 subst H
 refine AF (.inl Aa) F W Aa (Av F Aa) ?_
 exact ⟨rfl, W.done⟩
theorem MS : Has Try.prog 74 := ⟨fun args w => An Try.func74 rfl (by decide) args w⟩
noncomputable def Em (p0 : List (Int × Int × Int)) (p1 : Int) : Int → Option (Int ⊕ (Unit ⊕ Bool))
  | x1 => (if x1 < (p0.length : Int) then (ix p0 x1).bind fun x2 => (Ff x2 p1).bind fun x3 => (if (!x3) = true then some (.inr (.inr false)) else some (.inl (C3 (x1 + 1)))) else some (.inr (.inl ())))
noncomputable def Fa (p0 : List (Int × Int × Int)) (p1 : Int) : Option Bool := (if 16 < (p0.length : Int) then some false else FC (BG (Em p0 p1) 0) fun _ => some true)
theorem IA (Y : Nat → Prop) (w0 : World) (v1 : Value) (p0 : List (Int × Int × Int)) (p1 : Int) (r : Bool) (H : Fa p0 p1 = some r) (h_v1 : Sl w0 (NX []) BB v1 p0) :
    Calls Try.prog 55 #[v1, .int .i64 p1] w0 fun e w' => e = .returned (.bool r) ∧ Below w0.heap.size w0 w' := by
 refine enter Try.func55 Aa Try.ntmps55 Aa fun a F => ?_
 have W := Stw.start Y w0
 unfold Fa at H
 refine Ak (Ae ?_)
 refine ls F W Aa (Af F Aa).q fun a w F W => ?_
 refine Ag (Ad (Ak (Ak (Ae ?_))))
 refine ls F W Aa (Ai F Aa).q fun a w F W => ?_
 refine ls F W Aa (Cl (r := BB) (l := p0) Iw Aa F Aa (Ax h_v1)).q fun a w F W => ?_
 refine ls F W Aa (Fw F Aa Aa).q fun a w F W => ?_
 refine Ag (Ad ?_)
 refine Az F Aa (fun hb => ?_) fun hb => ?_
 ·
  have H := AL (Bd hb) H
  rw [hb] at F
  clear hb
  refine Ak (Ae ?_)
  refine ls F W Aa (Af F Aa).q fun a w F W => ?_
  refine Ag (Ad (Aw (AB ?_)))
  have H := AO H
  subst H
  refine AF (.inl Aa) F W Aa (Av F Aa) ?_
  exact ⟨rfl, W.done⟩
 have H := AK (Be hb) H
 rw [hb] at F
 clear hb
 refine Ay (Ad ?_)
 obtain ⟨o1, G1, K1, L1⟩ := Ia H
 refine AJ (fun a w => some (Sum.inl ()) = some o1 ∧ Fr 21 [] [(4, .bool false)] a ∧ Stw ⟨Y, [], w0⟩ [] [] w) ?_ ?_
 ·
  have H := G1
  clear G1 K1
  refine Ak (Ae ?_)
  refine ls F W Aa (Ai F Aa).q fun a w F W => ?_
  refine ls F W Aa (Cl (r := BB) (l := p0) Iw Aa F Aa (Ax h_v1)).q fun a w F W => ?_
  refine ls F W Aa (Ai F Aa).q fun a w F W => ?_
  refine Ag (Ad (AA ?_))
  refine BW H (fun s a w => Fr 21 [] [(1, .int .i64 p1), (4, .bool false), (10, v1), (11, .int .i64 (p0.length : Int)), (12, .int .i64 s)] a ∧ Stw ⟨Y, [], w0⟩ [] [] w) ⟨F.re ⟨rfl, Aa, Aa, Aa, Aa, trivial⟩, W⟩ fun s o a w H L2 hR => ?_
  obtain ⟨x1, rfl⟩ : ∃ x, x = s := ⟨s, rfl⟩
  obtain ⟨F, W⟩ := hR
  have F : Fr 21 [] [(1, .int .i64 p1), (4, .bool false), (10, v1), (11, .int .i64 (p0.length : Int)), (12, .int .i64 x1)] a := F
  have W : Stw ⟨Y, [], w0⟩ [] [] w := W
  rw [Em] at H
  refine Ak (Ae ?_)
  refine ls F W Aa (BO F Aa Aa).q fun a w F W => ?_
  refine Ag (Ad (Ak ?_))
  refine Az F Aa (fun hb => ?_) fun hb => ?_
  ·
   have H := AL (Bd hb) H
   rw [hb] at F
   clear hb
   refine Ay (Ad (Ak (AA (Ak (Ae ?_)))))
   obtain ⟨x2, h1, H⟩ := Aq H
   refine ls F W Aa (Bo (r := BB) Ks F Aa Aa (Ax h_v1) h1).q fun a w F W => ?_
   refine ls F W Aa (A9 (y := Value.agg #[.int .i64 x2.1, .int .i64 x2.2.1, .int .i64 x2.2.2]) (j := 0) (i := x1) F Aa Aa (Ax h_v1) h1 KK.to KM Aa).q fun a w F W => ?_
   refine Cf (cs := [.int .i64 0, .int .i64 0, .int .i64 0]) F W Aa Lb Aa fun b1 a w F W => ?_
   refine BM (vs := [.int .i64 x2.1, .int .i64 x2.2.1, .int .i64 x2.2.2]) (M' := [(b1, [.int .i64 x2.1, .int .i64 x2.2.1, .int .i64 x2.2.2])]) 0 F W Aa Aa Aa KM Aa Aa Aa Aa Aa fun w W => ?_
   refine Ag (Ad (Ak (Ae ?_)))
   refine ls F W Aa (As (v := Value.agg #[.int .i64 x2.1, .int .i64 x2.2.1, .int .i64 x2.2.2]) 0 F Aa Aa KM Aa).q fun a w F W => ?_
   refine ls F W Aa (Ai F Aa).q fun a w F W => ?_
   obtain ⟨x3, h2, H⟩ := Aq H
   refine ls F W Aa (AW (v := Value.bool x3) F MS Aa (fun w W => Iv any w x2 p1 _ h2)) fun a w F W => ?_
   refine ls F W Aa (E6 F Aa).q fun a w F W => ?_
   refine Ag (Ad ?_)
   refine Az F Aa (fun hb => ?_) fun hb => ?_
   ·
    have H := AL hb H
    rw [hb] at F
    clear hb
    refine Ak (Ae ?_)
    refine ls F W Aa (Af F Aa).q fun a w F W => ?_
    refine Ag (Ad (Aw (AM ?_)))
    iterate 2 refine AB ?_
    refine AM (AB ?_)
    have H := L2 _ H
    have H := L1 _ H
    have H := AO H
    subst H
    refine AF (.inl Aa) F W Aa (Av F Aa) ?_
    exact ⟨rfl, W.done⟩
   have H := AK (by rw [hb]; decide) H
   rw [hb] at F
   clear hb
   refine Ay (AV (Ad (Ae ?_)))
   refine ls F W Aa (Cg F Aa Aa Aa).q fun a w F W => ?_
   refine ls F W Aa (Ai F Aa).q fun a w F W => ?_
   refine Ag (Ad ?_)
   have W := W.sub (M' := []) (Z' := []) (List.nil_sublist _) (List.Sublist.refl _)
   exact ⟨_, H, F.re ⟨rfl, Aa, Aa, Aa, Aa, trivial⟩, W⟩
  have H := AK (Be hb) H
  rw [hb] at F
  clear hb
  refine BV ?_
  iterate 2 refine Cd ?_
  refine BU (Ad ?_)
  have H := L2 _ H
  exact ⟨H, F.re ⟨rfl, trivial⟩, W⟩
 rintro a w ⟨hj, F, W⟩
 have H := K1 _ hj
 clear hj G1 K1 L1
 refine Ak (Ae ?_)
 refine ls F W Aa (Af F Aa).q fun a w F W => ?_
 refine Ag (Ad (Aw ?_))
 have H := AO H
 subst H
 refine AF (.inl Aa) F W Aa (Av F Aa) ?_
 exact ⟨rfl, W.done⟩
theorem MY : Has Try.prog 55 := ⟨fun args w => An Try.func55 rfl (by decide) args w⟩
noncomputable def EG (p0 : Int × (Int × (Int × Int × Int × Int) × (Int × Int × Int × Int)) × (List (Int × Int × Int))) (p1 : Int) : Option Bool := (if 0 ≤ p0.1 then (if p0.1 < 65536 then (D0 p0.2.1).bind fun x2 => (if x2 = true then (Fa p0.2.2 p1).bind fun x3 => some x3 else some false) else some false) else some false).bind fun x1 => some x1
theorem HX (Y : Nat → Prop) (w0 : World) (v1 : Value) (p0 : Int × (Int × (Int × Int × Int × Int) × (Int × Int × Int × Int)) × (List (Int × Int × Int))) (p1 : Int) (r : Bool) (H : EG p0 p1 = some r) (h_v1 : Sl w0 (NX []) BB v1 p0.2.2) :
    Calls Try.prog 30 #[.agg #[.int .i64 p0.1, .int .i64 p0.2.1.1, .int .i64 p0.2.1.2.1.1, .int .i64 p0.2.1.2.1.2.1, .int .i64 p0.2.1.2.1.2.2.1, .int .i64 p0.2.1.2.1.2.2.2, .int .i64 p0.2.1.2.2.1, .int .i64 p0.2.1.2.2.2.1, .int .i64 p0.2.1.2.2.2.2.1, .int .i64 p0.2.1.2.2.2.2.2, v1], .int .i64 p1] w0 fun e w' => e = .returned (.bool r) ∧ Below w0.heap.size w0 w' := by
 refine enter Try.func30 Aa Try.ntmps30 Aa fun a F => ?_
 have W := Stw.start Y w0
 unfold EG at H
 refine Ak (Ae ?_)
 refine B1 (cs := [.int .i64 p0.1, .int .i64 p0.2.1.1, .int .i64 p0.2.1.2.1.1, .int .i64 p0.2.1.2.1.2.1, .int .i64 p0.2.1.2.1.2.2.1, .int .i64 p0.2.1.2.1.2.2.2, .int .i64 p0.2.1.2.2.1, .int .i64 p0.2.1.2.2.2.1, .int .i64 p0.2.1.2.2.2.2.1, .int .i64 p0.2.1.2.2.2.2.2, v1]) F W Aa Aa Aa fun b1 a w F W => ?_
 refine ls F W Aa (Af F Aa).q fun a w F W => ?_
 refine Ag (Ad ?_)
 obtain ⟨o1, G1, K1⟩ := Aq H
 refine AJ (fun a w => ∃ x1 : Bool, some (x1) = some o1 ∧ Fr 24 [] [(4, .bool x1)] a ∧ Stw ⟨Y, [], w0⟩ [(b1, [.int .i64 p0.1, .int .i64 p0.2.1.1, .int .i64 p0.2.1.2.1.1, .int .i64 p0.2.1.2.1.2.1, .int .i64 p0.2.1.2.1.2.2.1, .int .i64 p0.2.1.2.1.2.2.2, .int .i64 p0.2.1.2.2.1, .int .i64 p0.2.1.2.2.2.1, .int .i64 p0.2.1.2.2.2.2.1, .int .i64 p0.2.1.2.2.2.2.2, v1])] [] w) ?_ ?_
 ·
  have H := G1
  clear G1 K1
  refine Ae ?_
  refine ls F W Aa (Al Cp Aa Aa Aa T3 F Aa 0 Aa).q fun a w F W => ?_
  refine ls F W Aa (As (v := Value.int .i64 p0.1) 0 F Aa Aa T3 Aa).q fun a w F W => ?_
  refine ls F W Aa (D3 F Aa Aa).q fun a w F W => ?_
  refine ls F W Aa (Ai F Aa).q fun a w F W => ?_
  rcases Bool.eq_false_or_eq_true (decide (0 ≤ p0.1)) with hb | hb
  ·
   have H := AL (Bd hb) H
   rw [hb] at F
   clear hb
   refine AE F W (Aj F Aa Aa Aa Aa) Aa (Ao Aa) (Al Cp Aa Aa Aa T3 F Aa 0 Aa).q fun a w F W => ?_
   refine AE F W (Aj F Aa Aa Aa Aa) Aa (Ao Aa) (As (v := Value.int .i64 p0.1) 0 F Aa Aa T3 Aa).q fun a w F W => ?_
   refine AE F W (Aj F Aa Aa Aa Aa) Aa (Ao Aa) (BO F Aa Aa).q fun a w F W => ?_
   refine ls F W Aa (Au F Aa Aa Aa).q fun a w F W => ?_
   refine ls F W Aa (Ai F Aa).q fun a w F W => ?_
   rcases Bool.eq_false_or_eq_true (decide (p0.1 < 65536)) with hb | hb
   ·
    have H := AL (Bd hb) H
    rw [hb] at F
    clear hb
    refine AE F W (Aj F Aa Aa Aa Aa) Aa (Ao Aa) (Al Cp Aa Aa Aa El F Aa 1 Aa).q fun a w F W => ?_
    refine AE F W (Aj F Aa Aa Aa Aa) Aa (Ao Aa) (As (v := Value.agg #[.int .i64 p0.2.1.1, .int .i64 p0.2.1.2.1.1, .int .i64 p0.2.1.2.1.2.1, .int .i64 p0.2.1.2.1.2.2.1, .int .i64 p0.2.1.2.1.2.2.2, .int .i64 p0.2.1.2.2.1, .int .i64 p0.2.1.2.2.2.1, .int .i64 p0.2.1.2.2.2.2.1, .int .i64 p0.2.1.2.2.2.2.2]) 0 F Aa Aa El Aa).q fun a w F W => ?_
    refine Gs (Aj F Aa Aa Aa Aa) ?_
    obtain ⟨x2, h1, H⟩ := Aq H
    refine ls F W Aa (AW (v := Value.bool x2) F Mx Aa (fun w W => Ht any w p0.2.1 _ h1)) fun a w F W => ?_
    refine ls F W Aa (Au F Aa Aa Aa).q fun a w F W => ?_
    refine ls F W Aa (Ai F Aa).q fun a w F W => ?_
    rcases Bool.eq_false_or_eq_true x2 with hb | hb
    ·
     have H := AL hb H
     rw [hb] at F
     clear hb
     refine AE F W (Aj F Aa Aa Aa Aa) Aa (Ao Aa) (Al Cp Aa Aa Aa Ib F Aa 10 Aa).q fun a w F W => ?_
     refine AE F W (Aj F Aa Aa Aa Aa) Aa (Ao Aa) (As (v := v1) 0 F Aa Aa Ib Aa).q fun a w F W => ?_
     refine AE F W (Aj F Aa Aa Aa Aa) Aa (Ao Aa) (Ai F Aa).q fun a w F W => ?_
     refine Gs (Aj F Aa Aa Aa Aa) ?_
     obtain ⟨x3, h2, H⟩ := Aq H
     refine ls F W Aa (AW (v := Value.bool x3) F MY Aa (fun w W => IA any w (v1) p0.2.2 p1 _ h2 (((Ax h_v1) : Dl _ _ _ _ _ _) w W).nx)) fun a w F W => ?_
     refine ls F W Aa (Au F Aa Aa Aa).q fun a w F W => ?_
     refine ls F W Aa (Af F Aa).q fun a w F W => ?_
     refine Ag (Ad ?_)
     exact ⟨_, H, F.re ⟨rfl, trivial⟩, W⟩
    have H := AK (by rw [hb]; decide) H
    rw [hb] at F
    clear hb
    iterate 4 refine Cw F Aa Aa Aa Aa Aa Aa Aa fun a F => ?_
    refine ls F W Aa (Ap F Aa Aa Aa).q fun a w F W => ?_
    refine ls F W Aa (Af F Aa).q fun a w F W => ?_
    refine Ag (Ad ?_)
    exact ⟨_, H, F.re ⟨rfl, trivial⟩, W⟩
   have H := AK (Be hb) H
   rw [hb] at F
   clear hb
   iterate 3 refine Cw F Aa Aa Aa Aa Aa Aa Aa fun a F => ?_
   refine ls F W Aa (Ap F Aa Aa Aa).q fun a w F W => ?_
   refine ls F W Aa (Ai F Aa).q fun a w F W => ?_
   iterate 4 refine Cw F Aa Aa Aa Aa Aa Aa Aa fun a F => ?_
   refine ls F W Aa (Ap F Aa Aa Aa).q fun a w F W => ?_
   refine ls F W Aa (Af F Aa).q fun a w F W => ?_
   refine Ag (Ad ?_)
   exact ⟨_, H, F.re ⟨rfl, trivial⟩, W⟩
  have H := AK (Be hb) H
  rw [hb] at F
  clear hb
  iterate 3 refine Cw F Aa Aa Aa Aa Aa Aa Aa fun a F => ?_
  refine ls F W Aa (Ap F Aa Aa Aa).q fun a w F W => ?_
  refine ls F W Aa (Ai F Aa).q fun a w F W => ?_
  iterate 3 refine Cw F Aa Aa Aa Aa Aa Aa Aa fun a F => ?_
  refine ls F W Aa (Ap F Aa Aa Aa).q fun a w F W => ?_
  refine ls F W Aa (Ai F Aa).q fun a w F W => ?_
  iterate 4 refine Cw F Aa Aa Aa Aa Aa Aa Aa fun a F => ?_
  refine ls F W Aa (Ap F Aa Aa Aa).q fun a w F W => ?_
  refine ls F W Aa (Af F Aa).q fun a w F W => ?_
  refine Ag (Ad ?_)
  exact ⟨_, H, F.re ⟨rfl, trivial⟩, W⟩
 rintro a w ⟨x1, hj, F, W⟩
 have hj := AO hj
 subst hj
 have H := K1
 clear G1 K1
 refine Aw ?_
 have H := AO H
 subst H
 refine AF (.inl Aa) F W Aa (Av F Aa) ?_
 exact ⟨rfl, W.done⟩
end Go.Proofs.Ytkjjioigbpkifaa
