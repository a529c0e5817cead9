/- The functions of layer 11, Ez. Conditions: none. -/
import Derived.Test.YtkjjioigbpkifaaRows
import Derived.Test.YtkjjioigbpkifaacOT
import Derived.Test.YtkjjioigbpkifaacQT
import Derived.Test.YtkjjioigbpkifaacOD
import Derived.Test.YtkjjioigbpkifaacOC
import Derived.Test.YtkjjioigbpkifaacOM
import Derived.Test.YtkjjioigbpkifaacXC
import Derived.Test.YtkjjioigbpkifaacOX
namespace Go.Proofs.Ytkjjioigbpkifaa
open Go Go.RowKit
set_option linter.unusedVariables false
set_option linter.unusedSimpArgs false
set_option maxRecDepth 20000
theorem DW : type_of% Try.underlying22 := Try.underlying22
theorem In : type_of% Try.underlying38 := Try.underlying38
theorem Ci : type_of% Try.underlying40 := Try.underlying40
abbrev OY : Rp (Int × Int × Int × Int) := (Rp.pair (Rp.int .i64) (Rp.pair (Rp.int .i64) (Rp.pair (Rp.int .i64) (Rp.int .i64))))
abbrev OT : Rp (Int × (Int × Int × Int × Int) × (Int × Int × Int × Int)) := (Rp.pair (Rp.int .i64) (Rp.pair OY OY))
abbrev BD : Rp (Int × Int × Int) := (Rp.pair (Rp.int .i64) (Rp.pair (Rp.int .i64) (Rp.int .i64)))
abbrev AV : Rp (Int × (Int × (Int × Int × Int × Int) × (Int × Int × Int × Int)) × (List (Int × Int × Int))) := (Rp.pair (Rp.int .i64) (Rp.pair OT (Rp.slice BD)))
abbrev Cz : Rp (Int × (Int × (Int × Int × Int × Int) × (Int × Int × Int × Int)) × (Value × List (Int × Int × Int))) := (Rp.pair (Rp.int .i64) (Rp.pair OT (Rp.vsl BD)))
abbrev O6 (p : Int × (Int × (Int × Int × Int × Int) × (Int × Int × Int × Int)) × (Value × List (Int × Int × Int))) : Int × (Int × (Int × Int × Int × Int) × (Int × Int × Int × Int)) × (List (Int × Int × Int)) := (p.1, p.2.1, p.2.2.2)
theorem Ba : Ex AV Cz O6 := (Ex.pair Ex.rfl' (Ex.pair Ex.rfl' Ex.sliceF))
def QC (a : Int × Int × Int × Int) : List Value := [.int .i64 a.1, .int .i64 a.2.1, .int .i64 a.2.2.1, .int .i64 a.2.2.2]
theorem PA : Fl OY QC := (Fl.pair Fl.int (Fl.pair Fl.int (Fl.pair Fl.int Fl.int)))
def Qa (a : Int × (Int × Int × Int × Int) × (Int × Int × Int × Int)) : List Value := [.int .i64 a.1, .int .i64 a.2.1.1, .int .i64 a.2.1.2.1, .int .i64 a.2.1.2.2.1, .int .i64 a.2.1.2.2.2, .int .i64 a.2.2.1, .int .i64 a.2.2.2.1, .int .i64 a.2.2.2.2.1, .int .i64 a.2.2.2.2.2]
theorem Po : Fl OT Qa := (Fl.pair Fl.int (Fl.pair PA PA))
abbrev B5 (a : Int × (Int × (Int × Int × Int × Int) × (Int × Int × Int × Int)) × (Value × List (Int × Int × Int))) : List Value := [.int .i64 a.1, .int .i64 a.2.1.1, .int .i64 a.2.1.2.1.1, .int .i64 a.2.1.2.1.2.1, .int .i64 a.2.1.2.1.2.2.1, .int .i64 a.2.1.2.1.2.2.2, .int .i64 a.2.1.2.2.1, .int .i64 a.2.1.2.2.2.1, .int .i64 a.2.1.2.2.2.2.1, .int .i64 a.2.1.2.2.2.2.2, a.2.2.1]
theorem DS : Gk Cz B5 := (Gk.pair Fl.int.to (Gk.pair Po.to Gk.vsl))
theorem D7 : Et Try.prog 22 40 11 104 := Et.of DW (by kernel_rfl) (by kernel_rfl) (by kernel_rfl) (by decide)
theorem HK : Ty Try.prog 38 false 1 := ⟨by kernel_rfl, by kernel_rfl⟩
noncomputable def Ee (p0 : List (Int × (Int × (Int × Int × Int × Int) × (Int × Int × Int × Int)) × (List (Int × Int × Int)))) : Int → Option (Int ⊕ (Unit ⊕ Bool))
  | x1 => (if x1 < (p0.length : Int) then (ix p0 x1).bind fun x2 => (if 10 < (x2.2.2.length : Int) then some (.inr (.inr false)) else some (.inl (BT (x1 + 1)))) else some (.inr (.inl ())))
noncomputable def FX (p0 : List (Int × (Int × (Int × Int × Int × Int) × (Int × Int × Int × Int)) × (List (Int × Int × Int)))) : Option Bool := FB (A9 (Ee p0) 0) fun _ => some (decide ((p0.length : Int) ≤ 20))
theorem KG (Y : Nat → Prop) (w0 : World) (v1 : Value) (p0 : List (Int × (Int × (Int × Int × Int × Int) × (Int × Int × Int × Int)) × (List (Int × Int × Int)))) (r : Bool) (H : FX p0 = some r) (h_v1 : Sl w0 (NX []) AV v1 p0) :
    Calls Try.prog 8 #[v1] w0 fun e w' => e = .returned (.bool r) ∧ Below w0.heap.size w0 w' := by
 refine enter Try.func8 Aa Try.ntmps8 Aa fun a F => ?_
 have W := Stw.start Y w0
 obtain ⟨v2, h1, h_v1⟩ := h_v1.ex Ba
 unfold FX at H
 refine Al (Ae ?_)
 refine ls F W Aa (Ag F Aa).q fun a w F W => ?_
 refine Af (Ad ?_)
 obtain ⟨o1, G1, K1, L1⟩ := Ih H
 refine AF (fun a w => some (Sum.inl ()) = some o1 ∧ Fr 20 [] [(0, v1), (2, .bool false)] a ∧ Stw ⟨Y, [], w0⟩ [] [] w) ?_ ?_
 ·
  have H := G1
  clear G1 K1
  refine Al (Ae ?_)
  refine ls F W Aa (Ag F Aa).q fun a w F W => ?_
  refine Af (Ad (AC ?_))
  refine Bz H (fun s a w => Fr 20 [] [(0, v1), (2, .bool false), (3, .int .i64 s)] a ∧ Stw ⟨Y, [], w0⟩ [] [] w) ⟨F.re ⟨rfl, Aa, Aa, trivial⟩, W⟩ fun s o a w H L2 hR => ?_
  obtain ⟨x1, rfl⟩ : ∃ x, x = s := ⟨s, rfl⟩
  obtain ⟨F, W⟩ := hR
  have F : Fr 20 [] [(0, v1), (2, .bool false), (3, .int .i64 x1)] a := F
  have W : Stw ⟨Y, [], w0⟩ [] [] w := W
  rw [Ee] at H
  refine Al (Al (Ae ?_))
  iterate 2 refine ls F W Aa (Ah F Aa).q fun a w F W => ?_
  refine ls F W Aa (B7 (r := AV) (l := p0) DW Aa F Aa (Bc Ba h1 (Aw h_v1))).q fun a w F W => ?_
  refine ls F W Aa (BI F Aa Aa).q fun a w F W => ?_
  refine Af (Ad ?_)
  refine AA F Aa (fun hb => ?_) fun hb => ?_
  ·
   have H := AH (Bj hb) H
   rw [hb] at F
   clear hb
   refine Ax (Ad (Al (AC (Al (Ae ?_)))))
   iterate 2 refine ls F W Aa (Ah F Aa).q fun a w F W => ?_
   obtain ⟨x2, h2, H⟩ := Ap H
   obtain ⟨v3, h3, h4⟩ := Ck h1 h2
   have h5 : B5 v3 = [.int .i64 x2.1, .int .i64 x2.2.1.1, .int .i64 x2.2.1.2.1.1, .int .i64 x2.2.1.2.1.2.1, .int .i64 x2.2.1.2.1.2.2.1, .int .i64 x2.2.1.2.1.2.2.2, .int .i64 x2.2.1.2.2.1, .int .i64 x2.2.1.2.2.2.1, .int .i64 x2.2.1.2.2.2.2.1, .int .i64 x2.2.1.2.2.2.2.2, (v3.2.2.1)] := congrArg (fun q : Int × (Int × (Int × Int × Int × Int) × (Int × Int × Int × Int)) × (List (Int × Int × Int)) => ([.int .i64 q.1, .int .i64 q.2.1.1, .int .i64 q.2.1.2.1.1, .int .i64 q.2.1.2.1.2.1, .int .i64 q.2.1.2.1.2.2.1, .int .i64 q.2.1.2.1.2.2.2, .int .i64 q.2.1.2.2.1, .int .i64 q.2.1.2.2.2.1, .int .i64 q.2.1.2.2.2.2.1, .int .i64 q.2.1.2.2.2.2.2, (v3.2.2.1)] : List Value)) h4
   refine ls F W Aa (Bg (r := Cz) D7 F Aa Aa (Aw h_v1) h3).q fun a w F W => ?_
   refine ls F W Aa (Aj Ci Aa Aa Aa HK F Aa (EM v1 + (x1).toNat * 11 + 10) Aa).q fun a w F W => ?_
   refine ls F W Aa (A0 (y := (v3.2.2.1)) (j := 10) (i := x1) (enc := B5) F Aa Aa (Aw h_v1) h3 DS HK (by rw [h5]; rfl)).q fun a w F W => ?_
   refine ls F W Aa (B7 (r := BD) (l := x2.2.2) In Aa F Aa (CT (Aw h_v1) h3 (Bb.snd (Bb.snd Bb.here)) (congrArg (fun q : Int × (Int × (Int × Int × Int × Int) × (Int × Int × Int × Int)) × (List (Int × Int × Int)) => q.2.2) h4))).q fun a w F W => ?_
   refine ls F W Aa (E3 F Aa Aa).q fun a w F W => ?_
   refine Af (Ad ?_)
   refine AA F Aa (fun hb => ?_) fun hb => ?_
   ·
    have H := AH (Bj hb) H
    rw [hb] at F
    clear hb
    refine Al (Ae ?_)
    refine ls F W Aa (Ag F Aa).q fun a w F W => ?_
    refine Af (Ad (Ay (AK ?_)))
    iterate 2 refine AD ?_
    refine AK (AD ?_)
    have H := L2 _ H
    have H := L1 _ H
    have H := AJ H
    subst H
    refine AL (.inl Aa) F W Aa (Av F Aa) ?_
    exact ⟨rfl, W.done⟩
   have H := AG (Bi hb) H
   rw [hb] at F
   clear hb
   refine Ax (A1 (Ad (Ae ?_)))
   refine ls F W Aa (Ah F Aa).q fun a w F W => ?_
   refine ls F W Aa (B6 F Aa Aa Aa).q fun a w F W => ?_
   refine ls F W Aa (Ag F Aa).q fun a w F W => ?_
   refine Af (Ad ?_)
   exact ⟨_, H, F.re ⟨rfl, Aa, Aa, trivial⟩, W⟩
  have H := AG (Bi hb) H
  rw [hb] at F
  clear hb
  refine Bu ?_
  iterate 2 refine BX ?_
  refine Br (Ad ?_)
  have H := L2 _ H
  exact ⟨H, F.re ⟨rfl, Aa, trivial⟩, W⟩
 rintro a w ⟨hj, F, W⟩
 have H := K1 _ hj
 clear hj G1 K1 L1
 refine Al (Ae ?_)
 refine ls F W Aa (Ah F Aa).q fun a w F W => ?_
 refine ls F W Aa (B7 (r := AV) (l := p0) DW Aa F Aa (Bc Ba h1 (Aw h_v1))).q fun a w F W => ?_
 refine ls F W Aa (Ib F Aa Aa).q fun a w F W => ?_
 refine ls F W Aa (Ag F Aa).q fun a w F W => ?_
 refine Af (Ad (Ay ?_))
 have H := AJ H
 subst H
 refine AL (.inl Aa) F W Aa (Av F Aa) ?_
 exact ⟨rfl, W.done⟩
theorem Cd : type_of% Try.underlying37 := Try.underlying37
theorem H8 : Has Try.prog 8 := ⟨fun args w => An Try.func8 rfl (by decide) args w⟩
theorem Ny : (Try.prog.info? 37).bind (·.zero) = some (.agg #[.int .i64 0, .int .i64 0, .int .i64 0, .int .i64 0, .int .i64 0, .int .i64 0, .int .i64 0, .int .i64 0, .int .i64 0]) := by kernel_rfl
theorem Oz : Bt Try.prog 37 [.int .i64 0, .int .i64 0, .int .i64 0, .int .i64 0, .int .i64 0, .int .i64 0, .int .i64 0, .int .i64 0, .int .i64 0] [(0, 1), (1, 4), (5, 4)] := ⟨⟨.agg #[.int .i64 0, .int .i64 0, .int .i64 0, .int .i64 0, .int .i64 0, .int .i64 0, .int .i64 0, .int .i64 0, .int .i64 0], by kernel_rfl, rfl⟩, ⟨_, Cd, fun w => by kernel_rfl⟩⟩
theorem Dk : Ty Try.prog 37 true 9 := ⟨by kernel_rfl, by kernel_rfl⟩
def Ac  : (Int × (Int × Int × Int × Int) × (Int × Int × Int × Int)) := ((-1), (0, 0, 0, 0), (0, 0, 0, 0))
theorem Ic (Y : Nat → Prop) (w0 : World)   (r : (Int × (Int × Int × Int × Int) × (Int × Int × Int × Int))) (H : Ac  = r)  :
    Calls Try.prog 28 #[] w0 fun e w' => e = .returned (.agg #[.int .i64 r.1, .int .i64 r.2.1.1, .int .i64 r.2.1.2.1, .int .i64 r.2.1.2.2.1, .int .i64 r.2.1.2.2.2, .int .i64 r.2.2.1, .int .i64 r.2.2.2.1, .int .i64 r.2.2.2.2.1, .int .i64 r.2.2.2.2.2]) ∧ Below w0.heap.size w0 w' := by
 refine enter Try.func28 Aa Try.ntmps28 Aa fun a F => ?_
 have W := Stw.start Y w0
 unfold Ac at H
 refine Al (Ae ?_)
 refine Cf (cs := [.int .i64 0, .int .i64 0, .int .i64 0, .int .i64 0, .int .i64 0, .int .i64 0, .int .i64 0, .int .i64 0, .int .i64 0]) F W Aa Ny Aa fun b1 a w F W => ?_
 refine Af (Ad (Al (Ae ?_)))
 refine ls F W Aa (Dp (v := Value.agg #[.int .i64 (-1), .int .i64 0, .int .i64 0, .int .i64 0, .int .i64 0, .int .i64 0, .int .i64 0, .int .i64 0, .int .i64 0]) Oz F Aa Aa Aa).q fun a w F W => ?_
 refine BA (vs := [.int .i64 (-1), .int .i64 0, .int .i64 0, .int .i64 0, .int .i64 0, .int .i64 0, .int .i64 0, .int .i64 0, .int .i64 0]) (M' := [(b1, [.int .i64 (-1), .int .i64 0, .int .i64 0, .int .i64 0, .int .i64 0, .int .i64 0, .int .i64 0, .int .i64 0, .int .i64 0])]) 0 F W Aa Aa Aa Dk Aa Aa Aa Aa Aa fun w W => ?_
 refine Af (Ad (Ay ?_))
 subst H
 refine AL (.inl Aa) F W Aa (DQ 0 F Aa Aa Dk Aa) ?_
 exact ⟨rfl, W.done⟩
theorem DX : type_of% Try.underlying42 := Try.underlying42
theorem Eb : type_of% Try.underlying61 := Try.underlying61
theorem Px : Has Try.prog 28 := ⟨fun args w => An Try.func28 rfl (by decide) args w⟩
theorem Pp : Bt Try.prog 61 [.int .i64 0, .int .i64 0, .int .i64 0] [(0, 1), (1, 1), (2, 1)] := ⟨⟨.agg #[.int .i64 0, .int .i64 0, .int .i64 0], by kernel_rfl, rfl⟩, ⟨_, Eb, fun w => by kernel_rfl⟩⟩
theorem OD : (Try.prog.info? 61).bind (·.zero) = some (.agg #[.int .i64 0, .int .i64 0, .int .i64 0]) := by kernel_rfl
def Qq (a : Int × Int × Int) : List Value := [.int .i64 a.1, .int .i64 a.2.1, .int .i64 a.2.2]
theorem NO : Fl BD Qq := (Fl.pair Fl.int (Fl.pair Fl.int Fl.int))
theorem Nb : Et Try.prog 38 61 3 24 := Et.of In (by kernel_rfl) (by kernel_rfl) (by kernel_rfl) (by decide)
theorem Pt : Bt Try.prog 40 [.int .i64 0, .int .i64 0, .int .i64 0, .int .i64 0, .int .i64 0, .int .i64 0, .int .i64 0, .int .i64 0, .int .i64 0, .int .i64 0, .slice none 0 0] [(0, 1), (1, 9), (10, 1)] := ⟨⟨.agg #[.int .i64 0, .int .i64 0, .int .i64 0, .int .i64 0, .int .i64 0, .int .i64 0, .int .i64 0, .int .i64 0, .int .i64 0, .int .i64 0, .slice none 0 0], by kernel_rfl, rfl⟩, ⟨_, Ci, fun w => by kernel_rfl⟩⟩
theorem JC : (Try.prog.info? 40).bind (·.zero) = some (.agg #[.int .i64 0, .int .i64 0, .int .i64 0, .int .i64 0, .int .i64 0, .int .i64 0, .int .i64 0, .int .i64 0, .int .i64 0, .int .i64 0, .slice none 0 0]) := by kernel_rfl
theorem CH : Ty Try.prog 40 true 11 := ⟨by kernel_rfl, by kernel_rfl⟩
theorem MO : Try.prog.follows .mixedOrders = true := by kernel_rfl
theorem PE : Bt Try.prog 42 [.int .i64 0, .int .i64 0, .int .i64 0, .int .i64 0, .int .i64 0, .int .i64 0, .int .i64 0, .int .i64 0, .int .i64 0, .int .i64 0, .int .i64 0, .slice none 0 0, .bool false] [(0, 1), (1, 11), (12, 1)] := ⟨⟨.agg #[.int .i64 0, .int .i64 0, .int .i64 0, .int .i64 0, .int .i64 0, .int .i64 0, .int .i64 0, .int .i64 0, .int .i64 0, .int .i64 0, .int .i64 0, .slice none 0 0, .bool false], by kernel_rfl, rfl⟩, ⟨_, DX, fun w => by kernel_rfl⟩⟩
noncomputable def DL (p0 : Int) : Option Int := (if p0 = 0 then some true else (if p0 = 1 then some true else some (decide (p0 = 3)))).bind fun x1 => (if x1 = true then some 8 else (if p0 = 2 then some 4 else some 0))
theorem Jm (Y : Nat → Prop) (w0 : World)  (p0 : Int) (r : Int) (H : DL p0 = some r)  :
    Calls Try.prog 83 #[.int .i64 p0] w0 fun e w' => e = .returned (.int .i64 r) ∧ Below w0.heap.size w0 w' := by
 refine enter Try.func83 Aa Try.ntmps83 Aa fun a F => ?_
 have W := Stw.start Y w0
 unfold DL at H
 refine Al (Ae ?_)
 refine ls F W Aa (Ag F Aa).q fun a w F W => ?_
 refine Af (Ad (Al (Al (Ae ?_))))
 refine ls F W Aa (Ah F Aa).q fun a w F W => ?_
 refine Af (Ad (AC ?_))
 obtain ⟨o1, G1, K1⟩ := Ap H
 refine AF (fun a w => ∃ x1 : Bool, some (x1) = some o1 ∧ Fr 10 [] [(2, .int .i64 0), (3, .int .i64 p0), (4, .bool x1)] a ∧ Stw ⟨Y, [], w0⟩ [] [] w) ?_ ?_
 ·
  have H := G1
  clear G1 K1
  refine Al (Ae ?_)
  refine ls F W Aa (BB F Aa Aa).q fun a w F W => ?_
  refine ls F W Aa (Ag F Aa).q fun a w F W => ?_
  refine Af (Ad ?_)
  refine AA F Aa (fun hb => ?_) fun hb => ?_
  ·
   have H := AH (Bj hb) H
   rw [hb] at F
   clear hb
   refine Ax (Ad ?_)
   exact ⟨_, H, F.re ⟨rfl, Aa, Aa, trivial⟩, W⟩
  have H := AG (Bi hb) H
  rw [hb] at F
  clear hb
  refine Al (Ae ?_)
  refine ls F W Aa (BB F Aa Aa).q fun a w F W => ?_
  refine ls F W Aa (Ag F Aa).q fun a w F W => ?_
  refine Af (Ad ?_)
  refine AA F Aa (fun hb => ?_) fun hb => ?_
  ·
   have H := AH (Bj hb) H
   rw [hb] at F
   clear hb
   refine Ax (Ad ?_)
   exact ⟨_, H, F.re ⟨rfl, Aa, Aa, trivial⟩, W⟩
  have H := AG (Bi hb) H
  rw [hb] at F
  clear hb
  refine Ae ?_
  refine ls F W Aa (BB F Aa Aa).q fun a w F W => ?_
  refine ls F W Aa (Ag F Aa).q fun a w F W => ?_
  refine Af (Ad ?_)
  exact ⟨_, H, F.re ⟨rfl, Aa, Aa, trivial⟩, W⟩
 rintro a w ⟨x1, hj, F, W⟩
 have hj := AJ hj
 subst hj
 have H := K1
 clear G1 K1
 refine AA F Aa (fun hb => ?_) fun hb => ?_
 ·
  have H := AH hb H
  rw [hb] at F
  clear hb
  refine Al (Ae ?_)
  refine ls F W Aa (Ag F Aa).q fun a w F W => ?_
  refine Af (Ad (Ay (AK (AD ?_))))
  have H := AJ H
  subst H
  refine AL (.inl Aa) F W Aa (Av F Aa) ?_
  exact ⟨rfl, W.done⟩
 have H := AG (by rw [hb]; decide) H
 rw [hb] at F
 clear hb
 refine Al (Ae ?_)
 refine ls F W Aa (BB F Aa Aa).q fun a w F W => ?_
 refine ls F W Aa (Ag F Aa).q fun a w F W => ?_
 refine Af (Ad ?_)
 refine AA F Aa (fun hb => ?_) fun hb => ?_
 ·
  have H := AH (Bj hb) H
  rw [hb] at F
  clear hb
  refine Al (Ae ?_)
  refine ls F W Aa (Ag F Aa).q fun a w F W => ?_
  refine Af (Ad (Ay (AK (AD ?_))))
  have H := AJ H
  subst H
  refine AL (.inl Aa) F W Aa (Av F Aa) ?_
  exact ⟨rfl, W.done⟩
 have H := AG (Bi hb) H
 rw [hb] at F
 clear hb
 refine Ax (A1 (Ad (Al (Ae ?_))))
 refine ls F W Aa (Ag F Aa).q fun a w F W => ?_
 refine Af (Ad (Ay ?_))
 have H := AJ H
 subst H
 refine AL (.inl Aa) F W Aa (Av F Aa) ?_
 exact ⟨rfl, W.done⟩
theorem Qt : Has Try.prog 83 := ⟨fun args w => An Try.func83 rfl (by decide) args w⟩
noncomputable def CM (p0 : Int) : Option Int := (DL p0).bind fun x1 => (OV (NB .i64 1 x1) x1).bind fun x2 => some (BT (x2 - 1))
theorem Eo (Y : Nat → Prop) (w0 : World)  (p0 : Int) (r : Int) (H : CM p0 = some r)  :
    Calls Try.prog 73 #[.int .i64 p0] w0 fun e w' => e = .returned (.int .i64 r) ∧ Below w0.heap.size w0 w' := by
 refine enter Try.func73 Aa Try.ntmps73 Aa fun a F => ?_
 have W := Stw.start Y w0
 unfold CM at H
 refine Al (Ae ?_)
 refine ls F W Aa (Ag F Aa).q fun a w F W => ?_
 refine Af (Ad (Al (Ae ?_)))
 refine ls F W Aa (Ah F Aa).q fun a w F W => ?_
 obtain ⟨x1, h1, H⟩ := Ap H
 refine ls F W Aa (AR (v := Value.int .i64 x1) F Qt Aa (fun w W => Jm any w p0 _ h1)) fun a w F W => ?_
 obtain ⟨x2, h2, H⟩ := Ap H
 refine ls F W Aa (OO (Kw h2).2 (OB F Aa Aa (Kw h2).1)).q fun a w F W => ?_
 refine ls F W Aa (MQ F Aa Aa Aa).q fun a w F W => ?_
 refine ls F W Aa (Ag F Aa).q fun a w F W => ?_
 refine Af (Ad (Ay ?_))
 have H := AJ H
 subst H
 refine AL (.inl Aa) F W Aa (Av F Aa) ?_
 exact ⟨rfl, W.done⟩
theorem Pe : type_of% Try.underlying23 := Try.underlying23
theorem OC : Has Try.prog 73 := ⟨fun args w => An Try.func73 rfl (by decide) args w⟩
theorem FR : Ty Try.prog 23 true 4 := ⟨by kernel_rfl, by kernel_rfl⟩
theorem C9 : Ar Try.prog 23 4 3 1 := ⟨Pe, by kernel_rfl⟩
theorem T3 : Ty Try.prog 3 false 1 := ⟨by kernel_rfl, by kernel_rfl⟩
noncomputable def GC (p0 : Int) (p1 : Int) : Option (Int × (Int × Int × Int × Int) × (Int × Int × Int × Int)) := (if p0 < 0 then some true else (if 4 ≤ p0 then some true else (if p1 < 0 then some true else (CM p0).bind fun x2 => some (decide (x2 < p1))))).bind fun x1 => (if x1 = true then some Ac else (ix ([Ac.2.1.1, Ac.2.1.2.1, Ac.2.1.2.2.1, Ac.2.1.2.2.2] : List Int) p0).bind fun x3 => (CM p0).bind fun x4 => (ix ([Ac.2.2.1, Ac.2.2.2.1, Ac.2.2.2.2.1, Ac.2.2.2.2.2] : List Int) p0).bind fun x5 => some (Ac.1, ((if p0 = 0 then p1 else Ac.2.1.1), (if p0 = 1 then p1 else Ac.2.1.2.1), (if p0 = 2 then p1 else Ac.2.1.2.2.1), (if p0 = 3 then p1 else Ac.2.1.2.2.2)), ((if p0 = 0 then x4 else Ac.2.2.1), (if p0 = 1 then x4 else Ac.2.2.2.1), (if p0 = 2 then x4 else Ac.2.2.2.2.1), (if p0 = 3 then x4 else Ac.2.2.2.2.2))))
theorem KL (Y : Nat → Prop) (w0 : World)  (p0 : Int) (p1 : Int) (r : (Int × (Int × Int × Int × Int) × (Int × Int × Int × Int))) (H : GC p0 p1 = some r)  :
    Calls Try.prog 53 #[.int .i64 p0, .int .i64 p1] w0 fun e w' => e = .returned (.agg #[.int .i64 r.1, .int .i64 r.2.1.1, .int .i64 r.2.1.2.1, .int .i64 r.2.1.2.2.1, .int .i64 r.2.1.2.2.2, .int .i64 r.2.2.1, .int .i64 r.2.2.2.1, .int .i64 r.2.2.2.2.1, .int .i64 r.2.2.2.2.2]) ∧ Below w0.heap.size w0 w' := by
 refine enter Try.func53 Aa Try.ntmps53 Aa fun a F => ?_
 have W := Stw.start Y w0
 unfold GC at H
 refine Al (Ae ?_)
 refine Cf (cs := [.int .i64 0, .int .i64 0, .int .i64 0, .int .i64 0, .int .i64 0, .int .i64 0, .int .i64 0, .int .i64 0, .int .i64 0]) F W Aa Ny Aa fun b1 a w F W => ?_
 refine Af (Ad (Al (Ae ?_)))
 refine ls F W Aa (AR (v := Value.agg #[.int .i64 Ac.1, .int .i64 Ac.2.1.1, .int .i64 Ac.2.1.2.1, .int .i64 Ac.2.1.2.2.1, .int .i64 Ac.2.1.2.2.2, .int .i64 Ac.2.2.1, .int .i64 Ac.2.2.2.1, .int .i64 Ac.2.2.2.2.1, .int .i64 Ac.2.2.2.2.2]) F Px Aa (fun w W => Ic any w _ Aa)) fun a w F W => ?_
 refine Cf (cs := [.int .i64 0, .int .i64 0, .int .i64 0, .int .i64 0, .int .i64 0, .int .i64 0, .int .i64 0, .int .i64 0, .int .i64 0]) F W Aa Ny Aa fun b2 a w F W => ?_
 refine BA (vs := [.int .i64 Ac.1, .int .i64 Ac.2.1.1, .int .i64 Ac.2.1.2.1, .int .i64 Ac.2.1.2.2.1, .int .i64 Ac.2.1.2.2.2, .int .i64 Ac.2.2.1, .int .i64 Ac.2.2.2.1, .int .i64 Ac.2.2.2.2.1, .int .i64 Ac.2.2.2.2.2]) (M' := [(b2, [.int .i64 Ac.1, .int .i64 Ac.2.1.1, .int .i64 Ac.2.1.2.1, .int .i64 Ac.2.1.2.2.1, .int .i64 Ac.2.1.2.2.2, .int .i64 Ac.2.2.1, .int .i64 Ac.2.2.2.1, .int .i64 Ac.2.2.2.2.1, .int .i64 Ac.2.2.2.2.2]), (b1, [.int .i64 0, .int .i64 0, .int .i64 0, .int .i64 0, .int .i64 0, .int .i64 0, .int .i64 0, .int .i64 0, .int .i64 0])]) 0 F W Aa Aa Aa Dk Aa Aa Aa Aa Aa fun w W => ?_
 refine Af (Ad (Al ?_))
 obtain ⟨o1, G1, K1⟩ := Ap H
 refine AF (fun a w => ∃ x1 : Bool, some (x1) = some o1 ∧ Fr 34 [] [(0, .int .i64 p0), (1, .int .i64 p1), (4, .pointer (some ⟨b1, 0, none⟩)), (5, .pointer (some ⟨b2, 0, none⟩)), (22, .bool x1)] a ∧ Stw ⟨Y, [], w0⟩ [(b2, [.int .i64 Ac.1, .int .i64 Ac.2.1.1, .int .i64 Ac.2.1.2.1, .int .i64 Ac.2.1.2.2.1, .int .i64 Ac.2.1.2.2.2, .int .i64 Ac.2.2.1, .int .i64 Ac.2.2.2.1, .int .i64 Ac.2.2.2.2.1, .int .i64 Ac.2.2.2.2.2]), (b1, [.int .i64 0, .int .i64 0, .int .i64 0, .int .i64 0, .int .i64 0, .int .i64 0, .int .i64 0, .int .i64 0, .int .i64 0])] [] w) ?_ ?_
 ·
  have H := G1
  clear G1 K1
  refine Ae ?_
  refine ls F W Aa (Ah F Aa).q fun a w F W => ?_
  refine ls F W Aa (BI F Aa Aa).q fun a w F W => ?_
  refine ls F W Aa (Ah F Aa).q fun a w F W => ?_
  rcases Bool.eq_false_or_eq_true (decide (p0 < 0)) with hb | hb
  ·
   have H := AH (Bj hb) H
   rw [hb] at F
   clear hb
   iterate 2 refine CD F Aa Aa Aa Aa Aa Aa Aa fun a F => ?_
   refine ls F W Aa (Az F Aa Aa Aa).q fun a w F W => ?_
   refine ls F W Aa (Ah F Aa).q fun a w F W => ?_
   iterate 2 refine CD F Aa Aa Aa Aa Aa Aa Aa fun a F => ?_
   refine ls F W Aa (Az F Aa Aa Aa).q fun a w F W => ?_
   refine ls F W Aa (Ah F Aa).q fun a w F W => ?_
   iterate 4 refine CD F Aa Aa Aa Aa Aa Aa Aa fun a F => ?_
   refine ls F W Aa (Az F Aa Aa Aa).q fun a w F W => ?_
   refine Af (Ad ?_)
   have W := W.frontM (i := 1) Aa Aa
   have W := W.frontM (i := 1) Aa Aa
   exact ⟨_, H, F.re ⟨rfl, Aa, Aa, Aa, Aa, trivial⟩, W⟩
  have H := AG (Bi hb) H
  rw [hb] at F
  clear hb
  refine AE F W (Ai F Aa Aa Aa Aa) Aa (Ao Aa) (Ah F Aa).q fun a w F W => ?_
  refine AE F W (Ai F Aa Aa Aa Aa) Aa (Ao Aa) (EN F Aa Aa).q fun a w F W => ?_
  refine ls F W Aa (Au F Aa Aa Aa).q fun a w F W => ?_
  refine ls F W Aa (Ah F Aa).q fun a w F W => ?_
  rcases Bool.eq_false_or_eq_true (decide (4 ≤ p0)) with hb | hb
  ·
   have H := AH (Bj hb) H
   rw [hb] at F
   clear hb
   iterate 2 refine CD F Aa Aa Aa Aa Aa Aa Aa fun a F => ?_
   refine ls F W Aa (Az F Aa Aa Aa).q fun a w F W => ?_
   refine ls F W Aa (Ah F Aa).q fun a w F W => ?_
   iterate 4 refine CD F Aa Aa Aa Aa Aa Aa Aa fun a F => ?_
   refine ls F W Aa (Az F Aa Aa Aa).q fun a w F W => ?_
   refine Af (Ad ?_)
   have W := W.frontM (i := 1) Aa Aa
   have W := W.frontM (i := 1) Aa Aa
   exact ⟨_, H, F.re ⟨rfl, Aa, Aa, Aa, Aa, trivial⟩, W⟩
  have H := AG (Bi hb) H
  rw [hb] at F
  clear hb
  refine AE F W (Ai F Aa Aa Aa Aa) Aa (Ao Aa) (Ah F Aa).q fun a w F W => ?_
  refine AE F W (Ai F Aa Aa Aa Aa) Aa (Ao Aa) (BI F Aa Aa).q fun a w F W => ?_
  refine ls F W Aa (Au F Aa Aa Aa).q fun a w F W => ?_
  refine ls F W Aa (Ah F Aa).q fun a w F W => ?_
  rcases Bool.eq_false_or_eq_true (decide (p1 < 0)) with hb | hb
  ·
   have H := AH (Bj hb) H
   rw [hb] at F
   clear hb
   iterate 4 refine CD F Aa Aa Aa Aa Aa Aa Aa fun a F => ?_
   refine ls F W Aa (Az F Aa Aa Aa).q fun a w F W => ?_
   refine Af (Ad ?_)
   have W := W.frontM (i := 1) Aa Aa
   have W := W.frontM (i := 1) Aa Aa
   exact ⟨_, H, F.re ⟨rfl, Aa, Aa, Aa, Aa, trivial⟩, W⟩
  have H := AG (Bi hb) H
  rw [hb] at F
  clear hb
  iterate 2 refine AE F W (Ai F Aa Aa Aa Aa) Aa (Ao Aa) (Ah F Aa).q fun a w F W => ?_
  refine Gr (Ai F Aa Aa Aa Aa) ?_
  obtain ⟨x2, h1, H⟩ := Ap H
  refine ls F W Aa (AR (v := Value.int .i64 x2) F OC Aa (fun w W => Eo any w p0 _ h1)) fun a w F W => ?_
  refine AE F W (Ai F Aa Aa Aa Aa) Aa (Ao Aa) (E3 F Aa Aa).q fun a w F W => ?_
  refine ls F W Aa (Au F Aa Aa Aa).q fun a w F W => ?_
  refine Af (Ad ?_)
  have W := W.frontM (i := 1) Aa Aa
  have W := W.frontM (i := 1) Aa Aa
  exact ⟨_, H, F.re ⟨rfl, Aa, Aa, Aa, Aa, trivial⟩, W⟩
 rintro a w ⟨x1, hj, F, W⟩
 have hj := AJ hj
 subst hj
 have H := K1
 clear G1 K1
 refine AA F Aa (fun hb => ?_) fun hb => ?_
 ·
  have H := AH hb H
  rw [hb] at F
  clear hb
  refine Al (Ae ?_)
  refine ls F W Aa (Aq (v := Value.agg #[.int .i64 Ac.1, .int .i64 Ac.2.1.1, .int .i64 Ac.2.1.2.1, .int .i64 Ac.2.1.2.2.1, .int .i64 Ac.2.1.2.2.2, .int .i64 Ac.2.2.1, .int .i64 Ac.2.2.2.1, .int .i64 Ac.2.2.2.2.1, .int .i64 Ac.2.2.2.2.2]) 0 F Aa Aa Dk Aa).q fun a w F W => ?_
  refine BA (vs := [.int .i64 Ac.1, .int .i64 Ac.2.1.1, .int .i64 Ac.2.1.2.1, .int .i64 Ac.2.1.2.2.1, .int .i64 Ac.2.1.2.2.2, .int .i64 Ac.2.2.1, .int .i64 Ac.2.2.2.1, .int .i64 Ac.2.2.2.2.1, .int .i64 Ac.2.2.2.2.2]) (M' := [(b2, [.int .i64 Ac.1, .int .i64 Ac.2.1.1, .int .i64 Ac.2.1.2.1, .int .i64 Ac.2.1.2.2.1, .int .i64 Ac.2.1.2.2.2, .int .i64 Ac.2.2.1, .int .i64 Ac.2.2.2.1, .int .i64 Ac.2.2.2.2.1, .int .i64 Ac.2.2.2.2.2]), (b1, [.int .i64 Ac.1, .int .i64 Ac.2.1.1, .int .i64 Ac.2.1.2.1, .int .i64 Ac.2.1.2.2.1, .int .i64 Ac.2.1.2.2.2, .int .i64 Ac.2.2.1, .int .i64 Ac.2.2.2.1, .int .i64 Ac.2.2.2.2.1, .int .i64 Ac.2.2.2.2.2])]) 1 F W Aa Aa Aa Dk Aa Aa Aa Aa Aa fun w W => ?_
  refine Af (Ad (Ay (AD ?_)))
  have H := AJ H
  subst H
  refine AL (.inl Aa) F W Aa (DQ 1 F Aa Aa Dk Aa) ?_
  exact ⟨rfl, W.done⟩
 have H := AG (by rw [hb]; decide) H
 rw [hb] at F
 clear hb
 refine Ax (Ad (Al ?_))
 refine Gs [(true, 0), (true, 1), (true, 2), (true, 3), (true, 5), (true, 6), (true, 8), (false, 4), (false, 7), (true, 9), (false, 10)] (CN ⟨Y, [], w0⟩ [] []) (fun ch a d v w h => by cases d <;> exact h) MO (by kernel_rfl) W (fun w W => ⟨_, _, W, A6, A6⟩) fun w W => ?_
 iterate 4 refine Ew (R := []) F Aa Aa (yC fun M Z hN hZ => Ah F Aa) Aa Aa fun a F => ?_
 refine Ew (R := []) F Aa Aa (yC fun M Z hN hZ => Aj Cd Aa Aa Aa FR F Aa 1 Aa) Aa Aa fun a F => ?_
 obtain ⟨x3, h2, H⟩ := Ap H
 refine Ew (R := []) F Aa Aa (yC fun M Z hN hZ => Bd (1 + (p0).toNat * 1) C9 F Aa Aa Aa h2 Aa) Aa Aa fun a F => ?_
 refine Ew (R := []) F Aa Aa (yC fun M Z hN hZ => Aj Cd Aa Aa Aa FR F Aa 5 Aa) Aa Aa fun a F => ?_
 refine FK Aa ?_
 obtain ⟨x4, h3, H⟩ := Ap H
 refine ls F W Aa (AR (v := Value.int .i64 x4) F OC Aa (fun w W => Eo any w p0 _ h3)) fun a w F W => ?_
 refine Cy (N2 := []) (NZ2 := []) (N3 := []) (NZ3 := []) W Aa Aa A6 A6 ?_
 refine FK Aa ?_
 refine Dz (o := 1) (m := 4) (i := p0) (l := ([Ac.2.1.1, Ac.2.1.2.1, Ac.2.1.2.2.1, Ac.2.1.2.2.2] : List Int)) (x := x3) (cs := [.int .i64 Ac.1, .int .i64 Ac.2.1.1, .int .i64 Ac.2.1.2.1, .int .i64 Ac.2.1.2.2.1, .int .i64 Ac.2.1.2.2.2, .int .i64 Ac.2.2.1, .int .i64 Ac.2.2.2.1, .int .i64 Ac.2.2.2.2.1, .int .i64 Ac.2.2.2.2.2]) (cs' := [.int .i64 Ac.1, .int .i64 (if p0 = 0 then p1 else Ac.2.1.1), .int .i64 (if p0 = 1 then p1 else Ac.2.1.2.1), .int .i64 (if p0 = 2 then p1 else Ac.2.1.2.2.1), .int .i64 (if p0 = 3 then p1 else Ac.2.1.2.2.2), .int .i64 Ac.2.2.1, .int .i64 Ac.2.2.2.1, .int .i64 Ac.2.2.2.2.1, .int .i64 Ac.2.2.2.2.2]) 0 F W Aa Aa Aa T3 Aa Aa Aa Aa h2 (by intro k hk hn; rw [hk]; match k, hn with | 0, _ => rfl | 1, _ => rfl | 2, _ => rfl | 3, _ => rfl | (z + 4), h => exact absurd h (by omega)) fun w W => ?_
 have W : Stw ⟨Y, [], w0⟩ [(b2, [.int .i64 Ac.1, .int .i64 (if p0 = 0 then p1 else Ac.2.1.1), .int .i64 (if p0 = 1 then p1 else Ac.2.1.2.1), .int .i64 (if p0 = 2 then p1 else Ac.2.1.2.2.1), .int .i64 (if p0 = 3 then p1 else Ac.2.1.2.2.2), .int .i64 Ac.2.2.1, .int .i64 Ac.2.2.2.1, .int .i64 Ac.2.2.2.2.1, .int .i64 Ac.2.2.2.2.2]), (b1, [.int .i64 0, .int .i64 0, .int .i64 0, .int .i64 0, .int .i64 0, .int .i64 0, .int .i64 0, .int .i64 0, .int .i64 0])] [] w := W
 refine Cy (N2 := []) (NZ2 := []) (N3 := []) (NZ3 := []) W Aa Aa A6 A6 ?_
 obtain ⟨x5, h4, H⟩ := Ap H
 refine Ew (R := []) F Aa Aa (yC fun M Z hN hZ => Bd (5 + (p0).toNat * 1) C9 F Aa Aa Aa h4 Aa) Aa Aa fun a F => ?_
 refine FK Aa ?_
 refine Dz (o := 5) (m := 4) (i := p0) (l := ([Ac.2.2.1, Ac.2.2.2.1, Ac.2.2.2.2.1, Ac.2.2.2.2.2] : List Int)) (x := x5) (cs := [.int .i64 Ac.1, .int .i64 (if p0 = 0 then p1 else Ac.2.1.1), .int .i64 (if p0 = 1 then p1 else Ac.2.1.2.1), .int .i64 (if p0 = 2 then p1 else Ac.2.1.2.2.1), .int .i64 (if p0 = 3 then p1 else Ac.2.1.2.2.2), .int .i64 Ac.2.2.1, .int .i64 Ac.2.2.2.1, .int .i64 Ac.2.2.2.2.1, .int .i64 Ac.2.2.2.2.2]) (cs' := [.int .i64 Ac.1, .int .i64 (if p0 = 0 then p1 else Ac.2.1.1), .int .i64 (if p0 = 1 then p1 else Ac.2.1.2.1), .int .i64 (if p0 = 2 then p1 else Ac.2.1.2.2.1), .int .i64 (if p0 = 3 then p1 else Ac.2.1.2.2.2), .int .i64 (if p0 = 0 then x4 else Ac.2.2.1), .int .i64 (if p0 = 1 then x4 else Ac.2.2.2.1), .int .i64 (if p0 = 2 then x4 else Ac.2.2.2.2.1), .int .i64 (if p0 = 3 then x4 else Ac.2.2.2.2.2)]) 0 F W Aa Aa Aa T3 Aa Aa Aa Aa h4 (by intro k hk hn; rw [hk]; match k, hn with | 0, _ => rfl | 1, _ => rfl | 2, _ => rfl | 3, _ => rfl | (z + 4), h => exact absurd h (by omega)) fun w W => ?_
 have W : Stw ⟨Y, [], w0⟩ [(b2, [.int .i64 Ac.1, .int .i64 (if p0 = 0 then p1 else Ac.2.1.1), .int .i64 (if p0 = 1 then p1 else Ac.2.1.2.1), .int .i64 (if p0 = 2 then p1 else Ac.2.1.2.2.1), .int .i64 (if p0 = 3 then p1 else Ac.2.1.2.2.2), .int .i64 (if p0 = 0 then x4 else Ac.2.2.1), .int .i64 (if p0 = 1 then x4 else Ac.2.2.2.1), .int .i64 (if p0 = 2 then x4 else Ac.2.2.2.2.1), .int .i64 (if p0 = 3 then x4 else Ac.2.2.2.2.2)]), (b1, [.int .i64 0, .int .i64 0, .int .i64 0, .int .i64 0, .int .i64 0, .int .i64 0, .int .i64 0, .int .i64 0, .int .i64 0])] [] w := W
 refine Cy (N2 := []) (NZ2 := []) (N3 := []) (NZ3 := []) W Aa Aa A6 A6 ?_
 refine IZ (Ad (Al (Ae ?_)))
 refine ls F W Aa (Aq (v := Value.agg #[.int .i64 Ac.1, .int .i64 (if p0 = 0 then p1 else Ac.2.1.1), .int .i64 (if p0 = 1 then p1 else Ac.2.1.2.1), .int .i64 (if p0 = 2 then p1 else Ac.2.1.2.2.1), .int .i64 (if p0 = 3 then p1 else Ac.2.1.2.2.2), .int .i64 (if p0 = 0 then x4 else Ac.2.2.1), .int .i64 (if p0 = 1 then x4 else Ac.2.2.2.1), .int .i64 (if p0 = 2 then x4 else Ac.2.2.2.2.1), .int .i64 (if p0 = 3 then x4 else Ac.2.2.2.2.2)]) 0 F Aa Aa Dk Aa).q fun a w F W => ?_
 refine BA (vs := [.int .i64 Ac.1, .int .i64 (if p0 = 0 then p1 else Ac.2.1.1), .int .i64 (if p0 = 1 then p1 else Ac.2.1.2.1), .int .i64 (if p0 = 2 then p1 else Ac.2.1.2.2.1), .int .i64 (if p0 = 3 then p1 else Ac.2.1.2.2.2), .int .i64 (if p0 = 0 then x4 else Ac.2.2.1), .int .i64 (if p0 = 1 then x4 else Ac.2.2.2.1), .int .i64 (if p0 = 2 then x4 else Ac.2.2.2.2.1), .int .i64 (if p0 = 3 then x4 else Ac.2.2.2.2.2)]) (M' := [(b2, [.int .i64 Ac.1, .int .i64 (if p0 = 0 then p1 else Ac.2.1.1), .int .i64 (if p0 = 1 then p1 else Ac.2.1.2.1), .int .i64 (if p0 = 2 then p1 else Ac.2.1.2.2.1), .int .i64 (if p0 = 3 then p1 else Ac.2.1.2.2.2), .int .i64 (if p0 = 0 then x4 else Ac.2.2.1), .int .i64 (if p0 = 1 then x4 else Ac.2.2.2.1), .int .i64 (if p0 = 2 then x4 else Ac.2.2.2.2.1), .int .i64 (if p0 = 3 then x4 else Ac.2.2.2.2.2)]), (b1, [.int .i64 Ac.1, .int .i64 (if p0 = 0 then p1 else Ac.2.1.1), .int .i64 (if p0 = 1 then p1 else Ac.2.1.2.1), .int .i64 (if p0 = 2 then p1 else Ac.2.1.2.2.1), .int .i64 (if p0 = 3 then p1 else Ac.2.1.2.2.2), .int .i64 (if p0 = 0 then x4 else Ac.2.2.1), .int .i64 (if p0 = 1 then x4 else Ac.2.2.2.1), .int .i64 (if p0 = 2 then x4 else Ac.2.2.2.2.1), .int .i64 (if p0 = 3 then x4 else Ac.2.2.2.2.2)])]) 1 F W Aa Aa Aa Dk Aa Aa Aa Aa Aa fun w W => ?_
 refine Af (Ad (Ay ?_))
 have H := AJ H
 subst H
 refine AL (.inl Aa) F W Aa (DQ 1 F Aa Aa Dk Aa) ?_
 exact ⟨rfl, W.done⟩
theorem Qg : Has Try.prog 53 := ⟨fun args w => An Try.func53 rfl (by decide) args w⟩
noncomputable def Fm (p0 : Int) (p1 : Int) (p2 : Int) (p3 : Int) : Option (Int × (Int × (Int × Int × Int × Int) × (Int × Int × Int × Int)) × (List (Int × Int × Int))) := (GC p0 p1).bind fun x1 => some (p2, x1, ([(2, 0, p3)] : List (Int × Int × Int)))
theorem JQ (Y : Nat → Prop) (w0 : World)  (p0 : Int) (p1 : Int) (p2 : Int) (p3 : Int) (r : (Int × (Int × (Int × Int × Int × Int) × (Int × Int × Int × Int)) × (List (Int × Int × Int)))) (H : Fm p0 p1 p2 p3 = some r)  :
    Calls Try.prog 29 #[.int .i64 p0, .int .i64 p1, .int .i64 p2, .int .i64 p3] w0 fun e w' => ∃ x : Value, e = .returned (.agg #[.int .i64 r.1, .int .i64 r.2.1.1, .int .i64 r.2.1.2.1.1, .int .i64 r.2.1.2.1.2.1, .int .i64 r.2.1.2.1.2.2.1, .int .i64 r.2.1.2.1.2.2.2, .int .i64 r.2.1.2.2.1, .int .i64 r.2.1.2.2.2.1, .int .i64 r.2.1.2.2.2.2.1, .int .i64 r.2.1.2.2.2.2.2, x]) ∧ Stw ⟨Y, [], w0⟩ [] [row (x) 61 BD r.2.2] w' := by
 refine enter Try.func29 Aa Try.ntmps29 Aa fun a F => ?_
 have W := Stw.start Y w0
 unfold Fm at H
 refine Al (Ae ?_)
 refine Cf (cs := [.int .i64 0, .int .i64 0, .int .i64 0, .int .i64 0, .int .i64 0, .int .i64 0, .int .i64 0, .int .i64 0, .int .i64 0, .int .i64 0, .slice none 0 0]) F W Aa JC Aa fun b1 a w F W => ?_
 refine Af (Ad (Al (Ae ?_)))
 iterate 3 refine ls F W Aa (Ah F Aa).q fun a w F W => ?_
 obtain ⟨x1, h1, H⟩ := Ap H
 refine ls F W Aa (AR (v := Value.agg #[.int .i64 x1.1, .int .i64 x1.2.1.1, .int .i64 x1.2.1.2.1, .int .i64 x1.2.1.2.2.1, .int .i64 x1.2.1.2.2.2, .int .i64 x1.2.2.1, .int .i64 x1.2.2.2.1, .int .i64 x1.2.2.2.2.1, .int .i64 x1.2.2.2.2.2]) F Qg Aa (fun w W => KL any w p0 p1 _ h1)) fun a w F W => ?_
 refine ls F W Aa (Ah F Aa).q fun a w F W => ?_
 refine ls F W Aa (Dp (v := Value.agg #[.int .i64 2, .int .i64 0, .int .i64 p3]) Pp F Aa Aa Aa).q fun a w F W => ?_
 refine Gm (z := Value.agg #[.int .i64 0, .int .i64 0, .int .i64 0]) (cs := [.int .i64 2, .int .i64 0, .int .i64 p3]) BD ([(2, 0, p3)] : List (Int × Int × Int)) F W Aa Nb OD Aa Aa Aa Aa Aa Aa (NO.repL _ _ ([(2, 0, p3)] : List (Int × Int × Int))) fun v1 a w F W => ?_
 refine ls F W Aa (Dp (v := Value.agg #[.int .i64 p2, .int .i64 x1.1, .int .i64 x1.2.1.1, .int .i64 x1.2.1.2.1, .int .i64 x1.2.1.2.2.1, .int .i64 x1.2.1.2.2.2, .int .i64 x1.2.2.1, .int .i64 x1.2.2.2.1, .int .i64 x1.2.2.2.2.1, .int .i64 x1.2.2.2.2.2, v1]) Pt F Aa (Ca Aa Aa Aa (Ca Aa Aa Aa (Ca Aa (FW (W.one (k := 0) Aa)) Aa DJ))) Aa).q fun a w F W => ?_
 refine BA (vs := [.int .i64 p2, .int .i64 x1.1, .int .i64 x1.2.1.1, .int .i64 x1.2.1.2.1, .int .i64 x1.2.1.2.2.1, .int .i64 x1.2.1.2.2.2, .int .i64 x1.2.2.1, .int .i64 x1.2.2.2.1, .int .i64 x1.2.2.2.2.1, .int .i64 x1.2.2.2.2.2, v1]) (M' := [(b1, [.int .i64 p2, .int .i64 x1.1, .int .i64 x1.2.1.1, .int .i64 x1.2.1.2.1, .int .i64 x1.2.1.2.2.1, .int .i64 x1.2.1.2.2.2, .int .i64 x1.2.2.1, .int .i64 x1.2.2.2.1, .int .i64 x1.2.2.2.2.1, .int .i64 x1.2.2.2.2.2, v1])]) 0 F W Aa Aa Aa CH Aa Aa Aa (Am Aa (Am Aa (Am Aa (Am Aa (Am Aa (Am Aa (Am Aa (Am Aa (Am Aa (Am Aa (Am (W.one (k := 0) Aa) CX))))))))))) Aa fun w W => ?_
 refine Af (Ad (Ay ?_))
 have H := AJ H
 subst H
 refine AL (.inl Aa) F W Aa (DQ 0 F Aa Aa CH Aa) ?_
 have W := W.sub (M' := []) (Z' := [row v1 61 BD ([(2, 0, p3)] : List (Int × Int × Int))]) (List.nil_sublist _) (List.Sublist.refl _)
 exact ⟨(v1), Aa, W⟩
theorem MF : type_of% Try.underlying35 := Try.underlying35
theorem Qf : Has Try.prog 29 := ⟨fun args w => An Try.func29 rfl (by decide) args w⟩
theorem PD : (Try.prog.info? 42).bind (·.zero) = some (.agg #[.int .i64 0, .int .i64 0, .int .i64 0, .int .i64 0, .int .i64 0, .int .i64 0, .int .i64 0, .int .i64 0, .int .i64 0, .int .i64 0, .int .i64 0, .slice none 0 0, .bool false]) := by kernel_rfl
abbrev KJ : Rp (Int × (Int × (Int × (Int × Int × Int × Int) × (Int × Int × Int × Int)) × (List (Int × Int × Int))) × Bool) := (Rp.pair (Rp.int .i64) (Rp.pair AV Rp.bool))
theorem Oj : Et Try.prog 35 42 13 120 := Et.of MF (by kernel_rfl) (by kernel_rfl) (by kernel_rfl) (by decide)
abbrev KX : Rp (Int × (Int × (Int × (Int × Int × Int × Int) × (Int × Int × Int × Int)) × (Value × List (Int × Int × Int))) × Bool) := (Rp.pair (Rp.int .i64) (Rp.pair Cz Rp.bool))
abbrev O4 (p : Int × (Int × (Int × (Int × Int × Int × Int) × (Int × Int × Int × Int)) × (Value × List (Int × Int × Int))) × Bool) : Int × (Int × (Int × (Int × Int × Int × Int) × (Int × Int × Int × Int)) × (List (Int × Int × Int))) × Bool := (p.1, (p.2.1.1, p.2.1.2.1, p.2.1.2.2.2), p.2.2)
theorem Jp : Ex KJ KX O4 := (Ex.pair Ex.rfl' (Ex.pair (Ex.pair Ex.rfl' (Ex.pair Ex.rfl' Ex.sliceF)) Ex.rfl'))
noncomputable def Bw (p0 : List (Int × Int × Int)) : Option (List (Int × Int × Int)) := (Js ([] : List (Int × Int × Int)) p0).bind fun x1 => some x1
theorem EE (Y : Nat → Prop) (w0 : World) (v1 : Value) (p0 : List (Int × Int × Int)) (r : (List (Int × Int × Int))) (H : Bw p0 = some r) (s_v1 : Sl w0 Y BD v1 p0) :
    Calls Try.prog 78 #[v1] w0 fun e w' => ∃ x : Value, e = .returned (x) ∧ Stw ⟨Y, [], w0⟩ [] [row (x) 61 BD r] w' := by
 refine enter Try.func78 Aa Try.ntmps78 Aa fun a F => ?_
 have W := Stw.start Y w0
 have h_v1 := W.nx s_v1
 unfold Bw at H
 refine Al (Ae ?_)
 refine ls F W Aa (Ag F Aa).q fun a w F W => ?_
 refine Af (Ad (Al (Al (Ae ?_))))
 refine ls F W Aa (Ah F Aa).q fun a w F W => ?_
 refine ls F W Aa (MP (r := BD) In F Aa (Aw h_v1)).q fun a w F W => ?_
 refine Af (Ad ?_)
 rcases L7 (Aw h_v1) W with ⟨hb, hl⟩ | hb
 ·
  rw [hl] at H
  change some ([] : List (Int × Int × Int)) = _ at H
  rw [hb] at F
  refine Mr F Aa ?_
  refine Al (Ae ?_)
  refine ls F W Aa (Ag F Aa).q fun a w F W => ?_
  refine Af (Ad (Ay (AD ?_)))
  have H := AJ H
  subst H
  refine AL (.inl Aa) F W Aa (Av F Aa) ?_
  have W := W.nilRow 61 BD
  exact ⟨(Value.slice none 0 0), Aa, W⟩
 rw [hb] at F
 refine Me F Aa ?_
 refine Ax (Ad (Al (Ae ?_)))
 refine Gm (z := Value.agg #[.int .i64 0, .int .i64 0, .int .i64 0]) (cs := []) BD ([] : List (Int × Int × Int)) F W Aa Nb OD Aa Aa Aa Aa Aa Aa (NO.repL _ _ ([] : List (Int × Int × Int))) fun v2 a w F W => ?_
 refine ls F W Aa (Ah F Aa).q fun a w F W => ?_
 obtain ⟨x1, h1, H⟩ := Ap H
 refine Fy (r := BD) (i := 0) F W Aa Nb Aa Aa Aa Aa (Gg W s_v1) h1 Aa fun v3 a w F W => ?_
 have W : Stw ⟨Y, [], w0⟩ [] [row v3 61 BD x1] w := W
 refine ls F W Aa (Ag F Aa).q fun a w F W => ?_
 refine Af (Ad (Ay ?_))
 have H := AJ H
 subst H
 refine AL (.inl Aa) F W Aa (Av F Aa) ?_
 exact ⟨(v3), Aa, W⟩
theorem Qy : Has Try.prog 78 := ⟨fun args w => An Try.func78 rfl (by decide) args w⟩
noncomputable def BF (p0 : Int × (Int × (Int × Int × Int × Int) × (Int × Int × Int × Int)) × (List (Int × Int × Int))) : Option (Int × (Int × (Int × Int × Int × Int) × (Int × Int × Int × Int)) × (List (Int × Int × Int))) := (Bw p0.2.2).bind fun x1 => some (p0.1, p0.2.1, x1)
theorem Di (Y : Nat → Prop) (w0 : World) (v1 : Value) (p0 : Int × (Int × (Int × Int × Int × Int) × (Int × Int × Int × Int)) × (List (Int × Int × Int))) (r : (Int × (Int × (Int × Int × Int × Int) × (Int × Int × Int × Int)) × (List (Int × Int × Int)))) (H : BF p0 = some r) (s_v1 : Sl w0 Y BD v1 p0.2.2) :
    Calls Try.prog 59 #[.agg #[.int .i64 p0.1, .int .i64 p0.2.1.1, .int .i64 p0.2.1.2.1.1, .int .i64 p0.2.1.2.1.2.1, .int .i64 p0.2.1.2.1.2.2.1, .int .i64 p0.2.1.2.1.2.2.2, .int .i64 p0.2.1.2.2.1, .int .i64 p0.2.1.2.2.2.1, .int .i64 p0.2.1.2.2.2.2.1, .int .i64 p0.2.1.2.2.2.2.2, v1]] w0 fun e w' => ∃ x : Value, e = .returned (.agg #[.int .i64 r.1, .int .i64 r.2.1.1, .int .i64 r.2.1.2.1.1, .int .i64 r.2.1.2.1.2.1, .int .i64 r.2.1.2.1.2.2.1, .int .i64 r.2.1.2.1.2.2.2, .int .i64 r.2.1.2.2.1, .int .i64 r.2.1.2.2.2.1, .int .i64 r.2.1.2.2.2.2.1, .int .i64 r.2.1.2.2.2.2.2, x]) ∧ Stw ⟨Y, [], w0⟩ [] [row (x) 61 BD r.2.2] w' := by
 refine enter Try.func59 Aa Try.ntmps59 Aa fun a F => ?_
 have W := Stw.start Y w0
 have h_v1 := W.nx s_v1
 unfold BF at H
 refine Al (Ae ?_)
 refine BS (cs := [.int .i64 p0.1, .int .i64 p0.2.1.1, .int .i64 p0.2.1.2.1.1, .int .i64 p0.2.1.2.1.2.1, .int .i64 p0.2.1.2.1.2.2.1, .int .i64 p0.2.1.2.1.2.2.2, .int .i64 p0.2.1.2.2.1, .int .i64 p0.2.1.2.2.2.1, .int .i64 p0.2.1.2.2.2.2.1, .int .i64 p0.2.1.2.2.2.2.2, v1]) F W Aa Aa Aa fun b1 a w F W => ?_
 refine Cf (cs := [.int .i64 0, .int .i64 0, .int .i64 0, .int .i64 0, .int .i64 0, .int .i64 0, .int .i64 0, .int .i64 0, .int .i64 0, .int .i64 0, .slice none 0 0]) F W Aa JC Aa fun b2 a w F W => ?_
 refine Af (Ad (Al (Ae ?_)))
 refine ls F W Aa (Aj Ci Aa Aa Aa HK F Aa 10 Aa).q fun a w F W => ?_
 refine ls F W Aa (Aq (v := v1) 1 F Aa Aa HK Aa).q fun a w F W => ?_
 obtain ⟨x1, h1, H⟩ := Ap H
 refine Bp (Ml := []) (Zl := []) (M := [(b2, [.int .i64 0, .int .i64 0, .int .i64 0, .int .i64 0, .int .i64 0, .int .i64 0, .int .i64 0, .int .i64 0, .int .i64 0, .int .i64 0, .slice none 0 0]), (b1, [.int .i64 p0.1, .int .i64 p0.2.1.1, .int .i64 p0.2.1.2.1.1, .int .i64 p0.2.1.2.1.2.1, .int .i64 p0.2.1.2.1.2.2.1, .int .i64 p0.2.1.2.1.2.2.2, .int .i64 p0.2.1.2.2.1, .int .i64 p0.2.1.2.2.2.1, .int .i64 p0.2.1.2.2.2.2.1, .int .i64 p0.2.1.2.2.2.2.2, v1])]) (Z := []) (β := Value) (rv := fun x => x) (MM := fun x => []) (ZZ := fun x => [row x 61 BD x1]) F W Qy Aa Aa (fun hL => EE _ w (v1) p0.2.2 _ h1 (W.old s_v1)) fun x a w F W => ?_
 obtain ⟨v2, rfl⟩ : ∃ y, y = x := ⟨x, rfl⟩
 have W : Stw ⟨Y, [], w0⟩ [(b2, [.int .i64 0, .int .i64 0, .int .i64 0, .int .i64 0, .int .i64 0, .int .i64 0, .int .i64 0, .int .i64 0, .int .i64 0, .int .i64 0, .slice none 0 0]), (b1, [.int .i64 p0.1, .int .i64 p0.2.1.1, .int .i64 p0.2.1.2.1.1, .int .i64 p0.2.1.2.1.2.1, .int .i64 p0.2.1.2.1.2.2.1, .int .i64 p0.2.1.2.1.2.2.2, .int .i64 p0.2.1.2.2.1, .int .i64 p0.2.1.2.2.2.1, .int .i64 p0.2.1.2.2.2.2.1, .int .i64 p0.2.1.2.2.2.2.2, v1])] [row v2 61 BD x1] w := W
 refine ls F W Aa (Aj Ci Aa Aa Aa HK F Aa 10 Aa).q fun a w F W => ?_
 refine Kr (M' := [(b2, [.int .i64 0, .int .i64 0, .int .i64 0, .int .i64 0, .int .i64 0, .int .i64 0, .int .i64 0, .int .i64 0, .int .i64 0, .int .i64 0, .slice none 0 0]), (b1, [.int .i64 p0.1, .int .i64 p0.2.1.1, .int .i64 p0.2.1.2.1.1, .int .i64 p0.2.1.2.1.2.1, .int .i64 p0.2.1.2.1.2.2.1, .int .i64 p0.2.1.2.1.2.2.2, .int .i64 p0.2.1.2.2.1, .int .i64 p0.2.1.2.2.2.1, .int .i64 p0.2.1.2.2.2.2.1, .int .i64 p0.2.1.2.2.2.2.2, v2])]) 1 F W Aa Aa Aa HK (W.one (k := 0) Aa) Aa Aa fun w W => ?_
 refine Af (Ad (Al (Ae ?_)))
 refine ls F W Aa (Aq (v := Value.agg #[.int .i64 p0.1, .int .i64 p0.2.1.1, .int .i64 p0.2.1.2.1.1, .int .i64 p0.2.1.2.1.2.1, .int .i64 p0.2.1.2.1.2.2.1, .int .i64 p0.2.1.2.1.2.2.2, .int .i64 p0.2.1.2.2.1, .int .i64 p0.2.1.2.2.2.1, .int .i64 p0.2.1.2.2.2.2.1, .int .i64 p0.2.1.2.2.2.2.2, v2]) 1 F Aa Aa CH Aa).q fun a w F W => ?_
 refine BA (vs := [.int .i64 p0.1, .int .i64 p0.2.1.1, .int .i64 p0.2.1.2.1.1, .int .i64 p0.2.1.2.1.2.1, .int .i64 p0.2.1.2.1.2.2.1, .int .i64 p0.2.1.2.1.2.2.2, .int .i64 p0.2.1.2.2.1, .int .i64 p0.2.1.2.2.2.1, .int .i64 p0.2.1.2.2.2.2.1, .int .i64 p0.2.1.2.2.2.2.2, v2]) (M' := [(b2, [.int .i64 p0.1, .int .i64 p0.2.1.1, .int .i64 p0.2.1.2.1.1, .int .i64 p0.2.1.2.1.2.1, .int .i64 p0.2.1.2.1.2.2.1, .int .i64 p0.2.1.2.1.2.2.2, .int .i64 p0.2.1.2.2.1, .int .i64 p0.2.1.2.2.2.1, .int .i64 p0.2.1.2.2.2.2.1, .int .i64 p0.2.1.2.2.2.2.2, v2]), (b1, [.int .i64 p0.1, .int .i64 p0.2.1.1, .int .i64 p0.2.1.2.1.1, .int .i64 p0.2.1.2.1.2.1, .int .i64 p0.2.1.2.1.2.2.1, .int .i64 p0.2.1.2.1.2.2.2, .int .i64 p0.2.1.2.2.1, .int .i64 p0.2.1.2.2.2.1, .int .i64 p0.2.1.2.2.2.2.1, .int .i64 p0.2.1.2.2.2.2.2, v2])]) 0 F W Aa Aa Aa CH Aa Aa Aa (Am Aa (Am Aa (Am Aa (Am Aa (Am Aa (Am Aa (Am Aa (Am Aa (Am Aa (Am Aa (Am (W.one (k := 0) Aa) CX))))))))))) Aa fun w W => ?_
 refine Af (Ad (Ay ?_))
 have H := AJ H
 subst H
 refine AL (.inl Aa) F W Aa (DQ 0 F Aa Aa CH Aa) ?_
 have W := W.sub (M' := []) (Z' := [row v2 61 BD x1]) (List.nil_sublist _) (List.Sublist.refl _)
 exact ⟨(v2), Aa, W⟩
theorem OX : Has Try.prog 59 := ⟨fun args w => An Try.func59 rfl (by decide) args w⟩
noncomputable def CQ (p0 : List (Int × (Int × (Int × Int × Int × Int) × (Int × Int × Int × Int)) × (List (Int × Int × Int)))) (x1 : List (Int × (Int × (Int × Int × Int × Int) × (Int × Int × Int × Int)) × (List (Int × Int × Int)))) : ((List (Int × (Int × (Int × Int × Int × Int) × (Int × Int × Int × Int)) × (List (Int × Int × Int)))) × Int) → Option (((List (Int × (Int × (Int × Int × Int × Int) × (Int × Int × Int × Int)) × (List (Int × Int × Int)))) × Int) ⊕ (List (Int × (Int × (Int × Int × Int × Int) × (Int × Int × Int × Int)) × (List (Int × Int × Int)))))
  | (x3, x4) => (if x4 < ((Hd x1 0 (min p0.length x1.length) p0).length : Int) then (ix x3 x4).bind fun x5 => (BF x5).bind fun x6 => (ix x3 x4).bind fun x7 => some (.inl ((DH x3 x4 x6), BT (x4 + 1))) else some (.inr x3))
noncomputable def CG (p0 : List (Int × (Int × (Int × Int × Int × Int) × (Int × Int × Int × Int)) × (List (Int × Int × Int)))) : Option (List (Int × (Int × (Int × Int × Int × Int) × (Int × Int × Int × Int)) × (List (Int × Int × Int)))) := (mk (p0.length : Int) ((0, (0, (0, 0, 0, 0), (0, 0, 0, 0)), []) : Int × (Int × (Int × Int × Int × Int) × (Int × Int × Int × Int)) × (List (Int × Int × Int)))).bind fun x1 => (A9 (CQ p0 x1) (Hd x1 0 (min p0.length x1.length) p0, 0)).bind fun x2 => some x2
theorem Fp (Y : Nat → Prop) (w0 : World) (v1 : Value) (p0 : List (Int × (Int × (Int × Int × Int × Int) × (Int × Int × Int × Int)) × (List (Int × Int × Int)))) (r : (List (Int × (Int × (Int × Int × Int × Int) × (Int × Int × Int × Int)) × (List (Int × Int × Int))))) (H : CG p0 = some r) (s_v1 : Sl w0 Y AV v1 p0) :
    Calls Try.prog 40 #[v1] w0 fun e w' => ∃ x : {x : Value // Ir x (((p0.length : Int)).toNat)}, e = .returned (x.1) ∧ Stw ⟨Y, [], w0⟩ [] [row (x.1) 40 AV r] w' := by
 refine enter Try.func40 Aa Try.ntmps40 Aa fun a F => ?_
 have W := Stw.start Y w0
 obtain ⟨v2, h1, s_v1⟩ := s_v1.ex Ba
 have h_v1 := W.nx s_v1
 unfold CG at H
 refine Al (Ae ?_)
 refine ls F W Aa (Ag F Aa).q fun a w F W => ?_
 refine Af (Ad (Al (Ae ?_)))
 refine ls F W Aa (Ah F Aa).q fun a w F W => ?_
 refine ls F W Aa (B7 (r := AV) (l := p0) DW Aa F Aa (Bc Ba h1 (Aw h_v1))).q fun a w F W => ?_
 obtain ⟨x1, h2, H⟩ := Ap H
 refine Nd (r := AV) ((0, (0, (0, 0, 0, 0), (0, 0, 0, 0)), []) : Int × (Int × (Int × Int × Int × Int) × (Int × Int × Int × Int)) × (List (Int × Int × Int))) F W Aa D7 JC Aa Aa (fun w A => ⟨[Value.int .i64 0], [Value.int .i64 0, Value.int .i64 0, Value.int .i64 0, Value.int .i64 0, Value.int .i64 0, Value.int .i64 0, Value.int .i64 0, Value.int .i64 0, Value.int .i64 0, Value.slice none 0 0], Aa, Aa, ⟨[Value.int .i64 0, Value.int .i64 0, Value.int .i64 0, Value.int .i64 0, Value.int .i64 0, Value.int .i64 0, Value.int .i64 0, Value.int .i64 0, Value.int .i64 0], [Value.slice none 0 0], Aa, ⟨[Value.int .i64 0], [Value.int .i64 0, Value.int .i64 0, Value.int .i64 0, Value.int .i64 0, Value.int .i64 0, Value.int .i64 0, Value.int .i64 0, Value.int .i64 0], Aa, Aa, ⟨[Value.int .i64 0, Value.int .i64 0, Value.int .i64 0, Value.int .i64 0], [Value.int .i64 0, Value.int .i64 0, Value.int .i64 0, Value.int .i64 0], Aa, ⟨[Value.int .i64 0], [Value.int .i64 0, Value.int .i64 0, Value.int .i64 0], Aa, Aa, ⟨[Value.int .i64 0], [Value.int .i64 0, Value.int .i64 0], Aa, Aa, ⟨[Value.int .i64 0], [Value.int .i64 0], Aa, Aa, Aa⟩⟩⟩, ⟨[Value.int .i64 0], [Value.int .i64 0, Value.int .i64 0, Value.int .i64 0], Aa, Aa, ⟨[Value.int .i64 0], [Value.int .i64 0, Value.int .i64 0], Aa, Aa, ⟨[Value.int .i64 0], [Value.int .i64 0], Aa, Aa, Aa⟩⟩⟩⟩⟩, ⟨_, Aa, Sl.nil⟩⟩⟩) h2 Aa fun v3 h3 a w F W => ?_
 refine ls F W Aa (Ag F Aa).q fun a w F W => ?_
 refine Af (Ad (Al (Ae ?_)))
 iterate 2 refine ls F W Aa (Ah F Aa).q fun a w F W => ?_
 refine N0 (r := AV) (k := 0) F W Aa D7 Aa Aa Aa Aa (Hh.hide Ba h1 (Gg W s_v1)) fun a w F W => ?_
 have W : Stw ⟨Y, [], w0⟩ [] [row v3 40 AV (Hd x1 0 (min p0.length x1.length) p0)] w := W
 refine Af (Ad ?_)
 obtain ⟨o1, G1, K1⟩ := Ap H
 refine AF (fun a w => ∃ x2 : List (Int × (Int × (Int × Int × Int × Int) × (Int × Int × Int × Int)) × (List (Int × Int × Int))), some (x2) = some o1 ∧ Fr 26 [] [(2, .slice none 0 0), (3, v3)] a ∧ Stw ⟨Y, [], w0⟩ [] [row v3 40 AV x2] w) ?_ ?_
 ·
  have H := G1
  clear G1 K1
  refine Al (Ae ?_)
  refine ls F W Aa (Ah F Aa).q fun a w F W => ?_
  refine ls F W Aa (B7 (r := AV) (l := Hd x1 0 (min p0.length x1.length) p0) DW Aa F Aa (Bn 0 Aa)).q fun a w F W => ?_
  refine ls F W Aa (Ah F Aa).q fun a w F W => ?_
  refine Af (Ad (AC ?_))
  refine Bz H (fun s a w => Fr 26 [] [(2, .slice none 0 0), (3, v3), (12, v3), (13, .int .i64 ((Hd x1 0 (min p0.length x1.length) p0).length : Int)), (14, .int .i64 s.2)] a ∧ Stw ⟨Y, [], w0⟩ [] [row v3 40 AV s.1] w) ⟨F.re ⟨rfl, Aa, Aa, Aa, Aa, trivial⟩, W⟩ fun s o a w H L2 hR => ?_
  obtain ⟨x3, x4⟩ := s
  obtain ⟨F, W⟩ := hR
  have F : Fr 26 [] [(2, .slice none 0 0), (3, v3), (12, v3), (13, .int .i64 ((Hd x1 0 (min p0.length x1.length) p0).length : Int)), (14, .int .i64 x4)] a := F
  have W : Stw ⟨Y, [], w0⟩ [] [row v3 40 AV x3] w := W
  rw [CQ] at H
  refine Al (Ae ?_)
  refine ls F W Aa (BI F Aa Aa).q fun a w F W => ?_
  refine Af (Ad (Al ?_))
  refine AA F Aa (fun hb => ?_) fun hb => ?_
  ·
   have H := AH (Bj hb) H
   rw [hb] at F
   clear hb
   refine Ax (Ad (Al (AC (Al ?_))))
   obtain ⟨v4, h4, W⟩ := W.exR Ba
   refine Ae ?_
   refine ls F W Aa (Ah F Aa).q fun a w F W => ?_
   obtain ⟨x5, h5, H⟩ := Ap H
   obtain ⟨v5, h6, h7⟩ := Ck h4 h5
   have h8 : B5 v5 = [.int .i64 x5.1, .int .i64 x5.2.1.1, .int .i64 x5.2.1.2.1.1, .int .i64 x5.2.1.2.1.2.1, .int .i64 x5.2.1.2.1.2.2.1, .int .i64 x5.2.1.2.1.2.2.2, .int .i64 x5.2.1.2.2.1, .int .i64 x5.2.1.2.2.2.1, .int .i64 x5.2.1.2.2.2.2.1, .int .i64 x5.2.1.2.2.2.2.2, (v5.2.2.1)] := congrArg (fun q : Int × (Int × (Int × Int × Int × Int) × (Int × Int × Int × Int)) × (List (Int × Int × Int)) => ([.int .i64 q.1, .int .i64 q.2.1.1, .int .i64 q.2.1.2.1.1, .int .i64 q.2.1.2.1.2.1, .int .i64 q.2.1.2.1.2.2.1, .int .i64 q.2.1.2.1.2.2.2, .int .i64 q.2.1.2.2.1, .int .i64 q.2.1.2.2.2.1, .int .i64 q.2.1.2.2.2.2.1, .int .i64 q.2.1.2.2.2.2.2, (v5.2.2.1)] : List Value)) h7
   refine ls F W Aa (Bg (r := Cz) D7 F Aa Aa (Bn 0 Aa) h6).q fun a w F W => ?_
   refine ls F W Aa (A0 (y := Value.agg #[.int .i64 x5.1, .int .i64 x5.2.1.1, .int .i64 x5.2.1.2.1.1, .int .i64 x5.2.1.2.1.2.1, .int .i64 x5.2.1.2.1.2.2.1, .int .i64 x5.2.1.2.1.2.2.2, .int .i64 x5.2.1.2.2.1, .int .i64 x5.2.1.2.2.2.1, .int .i64 x5.2.1.2.2.2.2.1, .int .i64 x5.2.1.2.2.2.2.2, (v5.2.2.1)]) (j := 0) (i := x4) (enc := B5) F Aa Aa (Bn 0 Aa) h6 DS CH (by rw [h8]; rfl)).q fun a w F W => ?_
   have W := W.note (W.rowAt (k := 0) Aa h6 (Bb.snd (Bb.snd Bb.here)) (congrArg (fun q : Int × (Int × (Int × Int × Int × Int) × (Int × Int × Int × Int)) × (List (Int × Int × Int)) => q.2.2) h7))
   refine Cf (cs := [.int .i64 0, .int .i64 0, .int .i64 0, .int .i64 0, .int .i64 0, .int .i64 0, .int .i64 0, .int .i64 0, .int .i64 0, .int .i64 0, .slice none 0 0]) F W Aa JC Aa fun b1 a w F W => ?_
   refine ls F W Aa (Ag F Aa).q fun a w F W => ?_
   refine BA (vs := [.int .i64 x5.1, .int .i64 x5.2.1.1, .int .i64 x5.2.1.2.1.1, .int .i64 x5.2.1.2.1.2.1, .int .i64 x5.2.1.2.1.2.2.1, .int .i64 x5.2.1.2.1.2.2.2, .int .i64 x5.2.1.2.2.1, .int .i64 x5.2.1.2.2.2.1, .int .i64 x5.2.1.2.2.2.2.1, .int .i64 x5.2.1.2.2.2.2.2, (v5.2.2.1)]) (M' := [(b1, [.int .i64 x5.1, .int .i64 x5.2.1.1, .int .i64 x5.2.1.2.1.1, .int .i64 x5.2.1.2.1.2.1, .int .i64 x5.2.1.2.1.2.2.1, .int .i64 x5.2.1.2.1.2.2.2, .int .i64 x5.2.1.2.2.1, .int .i64 x5.2.1.2.2.2.1, .int .i64 x5.2.1.2.2.2.2.1, .int .i64 x5.2.1.2.2.2.2.2, (v5.2.2.1)])]) 0 F W Aa Aa Aa CH Aa Aa Aa (Am Aa (Am Aa (Am Aa (Am Aa (Am Aa (Am Aa (Am Aa (Am Aa (Am Aa (Am Aa (Am (W.oneF (k := 0) Aa) CX))))))))))) Aa fun w W => ?_
   refine Af (Ad (Ae ?_))
   iterate 2 refine ls F W Aa (Ah F Aa).q fun a w F W => ?_
   refine ls F W Aa (Aq (v := Value.agg #[.int .i64 x5.1, .int .i64 x5.2.1.1, .int .i64 x5.2.1.2.1.1, .int .i64 x5.2.1.2.1.2.1, .int .i64 x5.2.1.2.1.2.2.1, .int .i64 x5.2.1.2.1.2.2.2, .int .i64 x5.2.1.2.2.1, .int .i64 x5.2.1.2.2.2.1, .int .i64 x5.2.1.2.2.2.2.1, .int .i64 x5.2.1.2.2.2.2.2, (v5.2.2.1)]) 0 F Aa Aa CH Aa).q fun a w F W => ?_
   obtain ⟨x6, h9, H⟩ := Ap H
   refine Bp (Ml := []) (Zl := []) (M := [(b1, [.int .i64 x5.1, .int .i64 x5.2.1.1, .int .i64 x5.2.1.2.1.1, .int .i64 x5.2.1.2.1.2.1, .int .i64 x5.2.1.2.1.2.2.1, .int .i64 x5.2.1.2.1.2.2.2, .int .i64 x5.2.1.2.2.1, .int .i64 x5.2.1.2.2.2.1, .int .i64 x5.2.1.2.2.2.2.1, .int .i64 x5.2.1.2.2.2.2.2, (v5.2.2.1)])]) (Z := [BG (v5.2.2.1) BD x5.2.2, row v3 40 Cz v4]) (β := Value) (rv := fun x => .agg #[.int .i64 x6.1, .int .i64 x6.2.1.1, .int .i64 x6.2.1.2.1.1, .int .i64 x6.2.1.2.1.2.1, .int .i64 x6.2.1.2.1.2.2.1, .int .i64 x6.2.1.2.1.2.2.2, .int .i64 x6.2.1.2.2.1, .int .i64 x6.2.1.2.2.2.1, .int .i64 x6.2.1.2.2.2.2.1, .int .i64 x6.2.1.2.2.2.2.2, x]) (MM := fun x => []) (ZZ := fun x => [row x 61 BD x6.2.2]) F W OX Aa Aa (fun hL => Di _ w ((v5.2.2.1)) x5 _ h9 (W.item (i := 0) Aa)) fun x a w F W => ?_
   obtain ⟨v6, rfl⟩ : ∃ y, y = x := ⟨x, rfl⟩
   have W : Stw ⟨Y, [], w0⟩ [(b1, [.int .i64 x5.1, .int .i64 x5.2.1.1, .int .i64 x5.2.1.2.1.1, .int .i64 x5.2.1.2.1.2.1, .int .i64 x5.2.1.2.1.2.2.1, .int .i64 x5.2.1.2.1.2.2.2, .int .i64 x5.2.1.2.2.1, .int .i64 x5.2.1.2.2.2.1, .int .i64 x5.2.1.2.2.2.2.1, .int .i64 x5.2.1.2.2.2.2.2, (v5.2.2.1)])] [row v6 61 BD x6.2.2, BG (v5.2.2.1) BD x5.2.2, row v3 40 Cz v4] w := W
   obtain ⟨x7, h10, H⟩ := Ap H
   obtain ⟨v7, h11, h12⟩ := Ck h4 h10
   have h13 : B5 v7 = [.int .i64 x7.1, .int .i64 x7.2.1.1, .int .i64 x7.2.1.2.1.1, .int .i64 x7.2.1.2.1.2.1, .int .i64 x7.2.1.2.1.2.2.1, .int .i64 x7.2.1.2.1.2.2.2, .int .i64 x7.2.1.2.2.1, .int .i64 x7.2.1.2.2.2.1, .int .i64 x7.2.1.2.2.2.2.1, .int .i64 x7.2.1.2.2.2.2.2, (v7.2.2.1)] := congrArg (fun q : Int × (Int × (Int × Int × Int × Int) × (Int × Int × Int × Int)) × (List (Int × Int × Int)) => ([.int .i64 q.1, .int .i64 q.2.1.1, .int .i64 q.2.1.2.1.1, .int .i64 q.2.1.2.1.2.1, .int .i64 q.2.1.2.1.2.2.1, .int .i64 q.2.1.2.1.2.2.2, .int .i64 q.2.1.2.2.1, .int .i64 q.2.1.2.2.2.1, .int .i64 q.2.1.2.2.2.2.1, .int .i64 q.2.1.2.2.2.2.2, (v7.2.2.1)] : List Value)) h12
   refine ls F W Aa (Bg (r := Cz) D7 F Aa Aa (Bn 2 Aa) h11).q fun a w F W => ?_
   have W := W.freeze
   have W := W.frontZ (i := 2) Aa Aa
   have W := W.hideR Ba h4
   refine Fi (r := AV) (i := x4) (j := 0) (vs := [.int .i64 x6.1, .int .i64 x6.2.1.1, .int .i64 x6.2.1.2.1.1, .int .i64 x6.2.1.2.1.2.1, .int .i64 x6.2.1.2.1.2.2.1, .int .i64 x6.2.1.2.1.2.2.2, .int .i64 x6.2.1.2.2.1, .int .i64 x6.2.1.2.2.2.1, .int .i64 x6.2.1.2.2.2.2.1, .int .i64 x6.2.1.2.2.2.2.2, v6]) (x' := x6) F W rfl rfl rfl (k := 0) rfl rfl h10 CH rfl rfl rfl (Am rfl (Am rfl (Am rfl (Am rfl (Am rfl (Am rfl (Am rfl (Am rfl (Am rfl (Am rfl (Am (W.oneF (k := 1) rfl) CX))))))))))) (fun A cs hA hc => by obtain ⟨z, hz, hc⟩ := Ba.to hc; have e1 := DS hc; have e2 : B5 z = [.int .i64 x7.1, .int .i64 x7.2.1.1, .int .i64 x7.2.1.2.1.1, .int .i64 x7.2.1.2.1.2.1, .int .i64 x7.2.1.2.1.2.2.1, .int .i64 x7.2.1.2.1.2.2.2, .int .i64 x7.2.1.2.2.1, .int .i64 x7.2.1.2.2.2.1, .int .i64 x7.2.1.2.2.2.2.1, .int .i64 x7.2.1.2.2.2.2.2, (z.2.2.1)] := (congrArg (fun q : Int × (Int × (Int × Int × Int × Int) × (Int × Int × Int × Int)) × (List (Int × Int × Int)) => ([.int .i64 q.1, .int .i64 q.2.1.1, .int .i64 q.2.1.2.1.1, .int .i64 q.2.1.2.1.2.1, .int .i64 q.2.1.2.1.2.2.1, .int .i64 q.2.1.2.1.2.2.2, .int .i64 q.2.1.2.2.1, .int .i64 q.2.1.2.2.2.1, .int .i64 q.2.1.2.2.2.2.1, .int .i64 q.2.1.2.2.2.2.2, (z.2.2.1)] : List Value)) hz); rw [e1, e2]; exact ⟨[Value.int .i64 x6.1], [Value.int .i64 x6.2.1.1, Value.int .i64 x6.2.1.2.1.1, Value.int .i64 x6.2.1.2.1.2.1, Value.int .i64 x6.2.1.2.1.2.2.1, Value.int .i64 x6.2.1.2.1.2.2.2, Value.int .i64 x6.2.1.2.2.1, Value.int .i64 x6.2.1.2.2.2.1, Value.int .i64 x6.2.1.2.2.2.2.1, Value.int .i64 x6.2.1.2.2.2.2.2, v6], rfl, rfl, ⟨[Value.int .i64 x6.2.1.1, Value.int .i64 x6.2.1.2.1.1, Value.int .i64 x6.2.1.2.1.2.1, Value.int .i64 x6.2.1.2.1.2.2.1, Value.int .i64 x6.2.1.2.1.2.2.2, Value.int .i64 x6.2.1.2.2.1, Value.int .i64 x6.2.1.2.2.2.1, Value.int .i64 x6.2.1.2.2.2.2.1, Value.int .i64 x6.2.1.2.2.2.2.2], [v6], rfl, ⟨[Value.int .i64 x6.2.1.1], [Value.int .i64 x6.2.1.2.1.1, Value.int .i64 x6.2.1.2.1.2.1, Value.int .i64 x6.2.1.2.1.2.2.1, Value.int .i64 x6.2.1.2.1.2.2.2, Value.int .i64 x6.2.1.2.2.1, Value.int .i64 x6.2.1.2.2.2.1, Value.int .i64 x6.2.1.2.2.2.2.1, Value.int .i64 x6.2.1.2.2.2.2.2], rfl, rfl, ⟨[Value.int .i64 x6.2.1.2.1.1, Value.int .i64 x6.2.1.2.1.2.1, Value.int .i64 x6.2.1.2.1.2.2.1, Value.int .i64 x6.2.1.2.1.2.2.2], [Value.int .i64 x6.2.1.2.2.1, Value.int .i64 x6.2.1.2.2.2.1, Value.int .i64 x6.2.1.2.2.2.2.1, Value.int .i64 x6.2.1.2.2.2.2.2], rfl, ⟨[Value.int .i64 x6.2.1.2.1.1], [Value.int .i64 x6.2.1.2.1.2.1, Value.int .i64 x6.2.1.2.1.2.2.1, Value.int .i64 x6.2.1.2.1.2.2.2], rfl, rfl, ⟨[Value.int .i64 x6.2.1.2.1.2.1], [Value.int .i64 x6.2.1.2.1.2.2.1, Value.int .i64 x6.2.1.2.1.2.2.2], rfl, rfl, ⟨[Value.int .i64 x6.2.1.2.1.2.2.1], [Value.int .i64 x6.2.1.2.1.2.2.2], rfl, rfl, rfl⟩⟩⟩, ⟨[Value.int .i64 x6.2.1.2.2.1], [Value.int .i64 x6.2.1.2.2.2.1, Value.int .i64 x6.2.1.2.2.2.2.1, Value.int .i64 x6.2.1.2.2.2.2.2], rfl, rfl, ⟨[Value.int .i64 x6.2.1.2.2.2.1], [Value.int .i64 x6.2.1.2.2.2.2.1, Value.int .i64 x6.2.1.2.2.2.2.2], rfl, rfl, ⟨[Value.int .i64 x6.2.1.2.2.2.2.1], [Value.int .i64 x6.2.1.2.2.2.2.2], rfl, rfl, rfl⟩⟩⟩⟩⟩, ⟨_, rfl, (Sl.stab (W.item (i := 1) rfl) (fun b hb _ => ⟨hA b hb, rfl⟩))⟩⟩⟩) fun w W => ?_
   refine Af (A1 (Ad (Ae ?_)))
   refine ls F W Aa (B6 F Aa Aa Aa).q fun a w F W => ?_
   refine ls F W Aa (Ah F Aa).q fun a w F W => ?_
   refine Af (Ad ?_)
   have W := W.sub (M' := []) (Z' := [row v3 40 AV (DH x3 x4 x6)]) (List.nil_sublist _) (List.Sublist.cons_cons _ (List.nil_sublist _))
   exact ⟨_, H, F.re ⟨rfl, Aa, Aa, Aa, Aa, trivial⟩, W⟩
  have H := AG (Bi hb) H
  rw [hb] at F
  clear hb
  refine Bu ?_
  iterate 2 refine BX ?_
  refine Br (Ad ?_)
  have H := L2 _ H
  exact ⟨_, H, F.re ⟨rfl, Aa, trivial⟩, W⟩
 rintro a w ⟨x2, hj, F, W⟩
 have hj := AJ hj
 subst hj
 have H := K1
 clear G1 K1
 refine Al (Ae ?_)
 refine ls F W Aa (Ah F Aa).q fun a w F W => ?_
 refine ls F W Aa (Ag F Aa).q fun a w F W => ?_
 refine Af (Ad (Ay ?_))
 have H := AJ H
 subst H
 refine AL (.inl Aa) F W Aa (Av F Aa) ?_
 exact ⟨⟨v3, h3⟩, Aa, W⟩
theorem OZ : Has Try.prog 40 := ⟨fun args w => An Try.func40 rfl (by decide) args w⟩
abbrev I5 (a : Int × (Int × (Int × (Int × Int × Int × Int) × (Int × Int × Int × Int)) × (Value × List (Int × Int × Int))) × Bool) : List Value := [.int .i64 a.1, .int .i64 a.2.1.1, .int .i64 a.2.1.2.1.1, .int .i64 a.2.1.2.1.2.1.1, .int .i64 a.2.1.2.1.2.1.2.1, .int .i64 a.2.1.2.1.2.1.2.2.1, .int .i64 a.2.1.2.1.2.1.2.2.2, .int .i64 a.2.1.2.1.2.2.1, .int .i64 a.2.1.2.1.2.2.2.1, .int .i64 a.2.1.2.1.2.2.2.2.1, .int .i64 a.2.1.2.1.2.2.2.2.2, a.2.1.2.2.1, .bool a.2.2]
theorem MI : Gk KX I5 := (Gk.pair Fl.int.to (Gk.pair (Gk.pair Fl.int.to (Gk.pair Po.to Gk.vsl)) Fl.bool.to))
theorem Na : Ty Try.prog 42 true 13 := ⟨by kernel_rfl, by kernel_rfl⟩
noncomputable def C4 (p0 : Int × (Int × Int × Int × Int) × (Int × Int × Int × Int)) : Int → Option (Int ⊕ (Unit ⊕ Bool))
  | x1 => (if x1 < 4 then (ix ([p0.2.2.1, p0.2.2.2.1, p0.2.2.2.2.1, p0.2.2.2.2.2] : List Int) x1).bind fun x2 => (if x2 < 0 then some true else (CM x1).bind fun x4 => (if x4 < x2 then some true else (ix ([p0.2.1.1, p0.2.1.2.1, p0.2.1.2.2.1, p0.2.1.2.2.2] : List Int) x1).bind fun x5 => (if x5 < 0 then some true else (ix ([p0.2.1.1, p0.2.1.2.1, p0.2.1.2.2.1, p0.2.1.2.2.2] : List Int) x1).bind fun x6 => some (decide ((FF .i64 x6 x2) ≠ 0))))).bind fun x3 => (if x3 = true then some (.inr (.inr false)) else some (.inl (BT (x1 + 1)))) else some (.inr (.inl ())))
noncomputable def DG (p0 : Int × (Int × Int × Int × Int) × (Int × Int × Int × Int)) : Option Bool := (if (decide (p0.1 ≠ (-1)) && (decide (p0.1 < 0) || decide (8 ≤ p0.1))) = true then some false else FB (A9 (C4 p0) 0) fun _ => some true)
theorem Jg (Y : Nat → Prop) (w0 : World)  (p0 : Int × (Int × Int × Int × Int) × (Int × Int × Int × Int)) (r : Bool) (H : DG p0 = some r)  :
    Calls Try.prog 54 #[.agg #[.int .i64 p0.1, .int .i64 p0.2.1.1, .int .i64 p0.2.1.2.1, .int .i64 p0.2.1.2.2.1, .int .i64 p0.2.1.2.2.2, .int .i64 p0.2.2.1, .int .i64 p0.2.2.2.1, .int .i64 p0.2.2.2.2.1, .int .i64 p0.2.2.2.2.2]] w0 fun e w' => e = .returned (.bool r) ∧ Below w0.heap.size w0 w' := by
 refine enter Try.func54 Aa Try.ntmps54 Aa fun a F => ?_
 have W := Stw.start Y w0
 unfold DG at H
 refine Al (Ae ?_)
 refine BS (cs := [.int .i64 p0.1, .int .i64 p0.2.1.1, .int .i64 p0.2.1.2.1, .int .i64 p0.2.1.2.2.1, .int .i64 p0.2.1.2.2.2, .int .i64 p0.2.2.1, .int .i64 p0.2.2.2.1, .int .i64 p0.2.2.2.2.1, .int .i64 p0.2.2.2.2.2]) F W Aa Aa Aa fun b1 a w F W => ?_
 refine ls F W Aa (Ag F Aa).q fun a w F W => ?_
 refine Af (Ad (Al ?_))
 refine AF (fun a w => Fr 49 [] [(1, .pointer (some ⟨b1, 0, none⟩)), (2, .bool false), (17, .bool (decide (p0.1 ≠ (-1)) && (decide (p0.1 < 0) || decide (8 ≤ p0.1))))] a ∧ Stw ⟨Y, [], w0⟩ [(b1, [.int .i64 p0.1, .int .i64 p0.2.1.1, .int .i64 p0.2.1.2.1, .int .i64 p0.2.1.2.2.1, .int .i64 p0.2.1.2.2.2, .int .i64 p0.2.2.1, .int .i64 p0.2.2.2.1, .int .i64 p0.2.2.2.2.1, .int .i64 p0.2.2.2.2.2])] [] w) ?_ ?_
 ·
  refine Ae ?_
  refine ls F W Aa (Aj Cd Aa Aa Aa T3 F Aa 0 Aa).q fun a w F W => ?_
  refine ls F W Aa (Aq (v := Value.int .i64 p0.1) 0 F Aa Aa T3 Aa).q fun a w F W => ?_
  refine ls F W Aa (D3 F Aa Aa).q fun a w F W => ?_
  refine ls F W Aa (Ah F Aa).q fun a w F W => ?_
  rcases Bool.eq_false_or_eq_true (decide (p0.1 ≠ (-1))) with hb0 | hb0
  ·
   rw [hb0] at F
   refine AE F W (Ai F Aa Aa Aa Aa) Aa (Ao Aa) (Aj Cd Aa Aa Aa T3 F Aa 0 Aa).q fun a w F W => ?_
   refine AE F W (Ai F Aa Aa Aa Aa) Aa (Ao Aa) (Aq (v := Value.int .i64 p0.1) 0 F Aa Aa T3 Aa).q fun a w F W => ?_
   refine AE F W (Ai F Aa Aa Aa Aa) Aa (Ao Aa) (BI F Aa Aa).q fun a w F W => ?_
   refine AE F W (Ai F Aa Aa Aa Aa) Aa (Ao Aa) (Ah F Aa).q fun a w F W => ?_
   rcases Bool.eq_false_or_eq_true (decide (p0.1 < 0)) with hb1 | hb1
   ·
    rw [hb1] at F
    iterate 3 refine CD F Aa Aa Aa Aa Aa Aa Aa fun a F => ?_
    refine AE F W (Ai F Aa Aa Aa Aa) Aa (Ao Aa) (Az F Aa Aa Aa).q fun a w F W => ?_
    refine ls F W Aa (Az F Aa Aa Aa).q fun a w F W => ?_
    refine Af (Ad ?_)
    exact ⟨F.re ⟨rfl, Aa, (by show some (Value.bool true) = some (Value.bool (decide (p0.1 ≠ (-1)) && (decide (p0.1 < 0) || decide (8 ≤ p0.1)))); try rw [hb0]; try rw [hb1]; all_goals simp only [Bool.not_true, Bool.not_false, Bool.true_and, Bool.false_and, Bool.true_or, Bool.false_or, Bool.and_true, Bool.or_false, cond_true, cond_false]), trivial⟩, W⟩
   rw [hb1] at F
   refine AE F W (Ai F Aa Aa Aa Aa) Aa (Ao Aa) (Aj Cd Aa Aa Aa T3 F Aa 0 Aa).q fun a w F W => ?_
   refine AE F W (Ai F Aa Aa Aa Aa) Aa (Ao Aa) (Aq (v := Value.int .i64 p0.1) 0 F Aa Aa T3 Aa).q fun a w F W => ?_
   refine AE F W (Ai F Aa Aa Aa Aa) Aa (Ao Aa) (EN F Aa Aa).q fun a w F W => ?_
   refine AE F W (Ai F Aa Aa Aa Aa) Aa (Ao Aa) (Au F Aa Aa Aa).q fun a w F W => ?_
   refine ls F W Aa (Az F Aa Aa Aa).q fun a w F W => ?_
   refine Af (Ad ?_)
   exact ⟨F.re ⟨rfl, Aa, (by show some (Value.bool (decide (8 ≤ p0.1))) = some (Value.bool (decide (p0.1 ≠ (-1)) && (decide (p0.1 < 0) || decide (8 ≤ p0.1)))); try rw [hb0]; try rw [hb1]; all_goals simp only [Bool.not_true, Bool.not_false, Bool.true_and, Bool.false_and, Bool.true_or, Bool.false_or, Bool.and_true, Bool.or_false, cond_true, cond_false]), trivial⟩, W⟩
  rw [hb0] at F
  iterate 4 refine CD F Aa Aa Aa Aa Aa Aa Aa fun a F => ?_
  iterate 3 refine PW F Aa Aa Aa Aa Aa Aa fun a F => ?_
  refine CD F Aa Aa Aa Aa Aa Aa Aa fun a F => ?_
  refine ls F W Aa (Au F Aa Aa Aa).q fun a w F W => ?_
  refine Af (Ad ?_)
  exact ⟨F.re ⟨rfl, Aa, (by show some (Value.bool false) = some (Value.bool (decide (p0.1 ≠ (-1)) && (decide (p0.1 < 0) || decide (8 ≤ p0.1)))); try rw [hb0]; all_goals simp only [Bool.not_true, Bool.not_false, Bool.true_and, Bool.false_and, Bool.true_or, Bool.false_or, Bool.and_true, Bool.or_false, cond_true, cond_false]), trivial⟩, W⟩
 rintro a w ⟨F, W⟩
 refine AA F Aa (fun hb => ?_) fun hb => ?_
 ·
  have H := AH hb H
  rw [hb] at F
  clear hb
  refine Al (Ae ?_)
  refine ls F W Aa (Ag F Aa).q fun a w F W => ?_
  refine Af (Ad (Ay (AD ?_)))
  have H := AJ H
  subst H
  refine AL (.inl Aa) F W Aa (Av F Aa) ?_
  exact ⟨rfl, W.done⟩
 have H := AG (by rw [hb]; decide) H
 rw [hb] at F
 clear hb
 refine Ax (Ad ?_)
 obtain ⟨o1, G1, K1, L1⟩ := Ih H
 refine AF (fun a w => some (Sum.inl ()) = some o1 ∧ Fr 49 [] [(2, .bool false)] a ∧ Stw ⟨Y, [], w0⟩ [(b1, [.int .i64 p0.1, .int .i64 p0.2.1.1, .int .i64 p0.2.1.2.1, .int .i64 p0.2.1.2.2.1, .int .i64 p0.2.1.2.2.2, .int .i64 p0.2.2.1, .int .i64 p0.2.2.2.1, .int .i64 p0.2.2.2.2.1, .int .i64 p0.2.2.2.2.2])] [] w) ?_ ?_
 ·
  have H := G1
  clear G1 K1
  refine Al (Ae ?_)
  refine ls F W Aa (Aj Cd Aa Aa Aa FR F Aa 5 Aa).q fun a w F W => ?_
  refine ls F W Aa (Aq (v := Value.agg #[.int .i64 p0.2.2.1, .int .i64 p0.2.2.2.1, .int .i64 p0.2.2.2.2.1, .int .i64 p0.2.2.2.2.2]) 0 F Aa Aa FR Aa).q fun a w F W => ?_
  refine ls F W Aa (Ah F Aa).q fun a w F W => ?_
  refine Af (Ad (AC ?_))
  refine Bz H (fun s a w => Fr 49 [] [(1, .pointer (some ⟨b1, 0, none⟩)), (2, .bool false), (19, .agg #[.int .i64 p0.2.2.1, .int .i64 p0.2.2.2.1, .int .i64 p0.2.2.2.2.1, .int .i64 p0.2.2.2.2.2]), (20, .int .i64 s)] a ∧ Stw ⟨Y, [], w0⟩ [(b1, [.int .i64 p0.1, .int .i64 p0.2.1.1, .int .i64 p0.2.1.2.1, .int .i64 p0.2.1.2.2.1, .int .i64 p0.2.1.2.2.2, .int .i64 p0.2.2.1, .int .i64 p0.2.2.2.1, .int .i64 p0.2.2.2.2.1, .int .i64 p0.2.2.2.2.2])] [] w) ⟨F.re ⟨rfl, Aa, Aa, Aa, trivial⟩, W⟩ fun s o a w H L2 hR => ?_
  obtain ⟨x1, rfl⟩ : ∃ x, x = s := ⟨s, rfl⟩
  obtain ⟨F, W⟩ := hR
  have F : Fr 49 [] [(1, .pointer (some ⟨b1, 0, none⟩)), (2, .bool false), (19, .agg #[.int .i64 p0.2.2.1, .int .i64 p0.2.2.2.1, .int .i64 p0.2.2.2.2.1, .int .i64 p0.2.2.2.2.2]), (20, .int .i64 x1)] a := F
  have W : Stw ⟨Y, [], w0⟩ [(b1, [.int .i64 p0.1, .int .i64 p0.2.1.1, .int .i64 p0.2.1.2.1, .int .i64 p0.2.1.2.2.1, .int .i64 p0.2.1.2.2.2, .int .i64 p0.2.2.1, .int .i64 p0.2.2.2.1, .int .i64 p0.2.2.2.2.1, .int .i64 p0.2.2.2.2.2])] [] w := W
  rw [C4] at H
  refine Al (Ae ?_)
  refine ls F W Aa (BI F Aa Aa).q fun a w F W => ?_
  refine Af (Ad (Al ?_))
  refine AA F Aa (fun hb => ?_) fun hb => ?_
  ·
   have H := AH (Bj hb) H
   rw [hb] at F
   clear hb
   refine Ax (Ad (Al (AC (Al (Ae ?_)))))
   refine ls F W Aa (Ah F Aa).q fun a w F W => ?_
   obtain ⟨x2, h1, H⟩ := Ap H
   refine ls F W Aa (Kx (enc := Value.int .i64) (cs := [.int .i64 p0.2.2.1, .int .i64 p0.2.2.2.1, .int .i64 p0.2.2.2.2.1, .int .i64 p0.2.2.2.2.2]) C9 T3 F Aa Aa Aa Aa h1).q fun a w F W => ?_
   iterate 2 refine ls F W Aa (Ag F Aa).q fun a w F W => ?_
   refine Af (Ad ?_)
   obtain ⟨o3, G3, K3⟩ := Ap H
   refine AF (fun a w => ∃ x3 : Bool, some (x3) = some o3 ∧ Fr 49 [] [(1, .pointer (some ⟨b1, 0, none⟩)), (2, .bool false), (19, .agg #[.int .i64 p0.2.2.1, .int .i64 p0.2.2.2.1, .int .i64 p0.2.2.2.2.1, .int .i64 p0.2.2.2.2.2]), (20, .int .i64 x1), (47, .bool x3)] a ∧ Stw ⟨Y, [], w0⟩ [(b1, [.int .i64 p0.1, .int .i64 p0.2.1.1, .int .i64 p0.2.1.2.1, .int .i64 p0.2.1.2.2.1, .int .i64 p0.2.1.2.2.2, .int .i64 p0.2.2.1, .int .i64 p0.2.2.2.1, .int .i64 p0.2.2.2.2.1, .int .i64 p0.2.2.2.2.2])] [] w) ?_ ?_
   ·
    have H := G3
    clear G3 K3
    refine Ae ?_
    refine ls F W Aa (Ah F Aa).q fun a w F W => ?_
    refine ls F W Aa (BI F Aa Aa).q fun a w F W => ?_
    refine ls F W Aa (Ah F Aa).q fun a w F W => ?_
    rcases Bool.eq_false_or_eq_true (decide (x2 < 0)) with hb | hb
    ·
     have H := AH (Bj hb) H
     rw [hb] at F
     clear hb
     iterate 4 refine CD F Aa Aa Aa Aa Aa Aa Aa fun a F => ?_
     refine ls F W Aa (Az F Aa Aa Aa).q fun a w F W => ?_
     refine ls F W Aa (Ah F Aa).q fun a w F W => ?_
     iterate 5 refine CD F Aa Aa Aa Aa Aa Aa Aa fun a F => ?_
     refine ls F W Aa (Az F Aa Aa Aa).q fun a w F W => ?_
     refine ls F W Aa (Ah F Aa).q fun a w F W => ?_
     iterate 7 refine CD F Aa Aa Aa Aa Aa Aa Aa fun a F => ?_
     refine ls F W Aa (Az F Aa Aa Aa).q fun a w F W => ?_
     refine Af (Ad ?_)
     exact ⟨_, H, F.re ⟨rfl, Aa, Aa, Aa, Aa, trivial⟩, W⟩
    have H := AG (Bi hb) H
    rw [hb] at F
    clear hb
    iterate 2 refine AE F W (Ai F Aa Aa Aa Aa) Aa (Ao Aa) (Ah F Aa).q fun a w F W => ?_
    refine Gr (Ai F Aa Aa Aa Aa) ?_
    obtain ⟨x4, h2, H⟩ := Ap H
    refine ls F W Aa (AR (v := Value.int .i64 x4) F OC Aa (fun w W => Eo any w x1 _ h2)) fun a w F W => ?_
    refine AE F W (Ai F Aa Aa Aa Aa) Aa (Ao Aa) (E3 F Aa Aa).q fun a w F W => ?_
    refine ls F W Aa (Au F Aa Aa Aa).q fun a w F W => ?_
    refine ls F W Aa (Ah F Aa).q fun a w F W => ?_
    rcases Bool.eq_false_or_eq_true (decide (x4 < x2)) with hb | hb
    ·
     have H := AH (Bj hb) H
     rw [hb] at F
     clear hb
     iterate 5 refine CD F Aa Aa Aa Aa Aa Aa Aa fun a F => ?_
     refine ls F W Aa (Az F Aa Aa Aa).q fun a w F W => ?_
     refine ls F W Aa (Ah F Aa).q fun a w F W => ?_
     iterate 7 refine CD F Aa Aa Aa Aa Aa Aa Aa fun a F => ?_
     refine ls F W Aa (Az F Aa Aa Aa).q fun a w F W => ?_
     refine Af (Ad ?_)
     exact ⟨_, H, F.re ⟨rfl, Aa, Aa, Aa, Aa, trivial⟩, W⟩
    have H := AG (Bi hb) H
    rw [hb] at F
    clear hb
    refine AE F W (Ai F Aa Aa Aa Aa) Aa (Ao Aa) (Ah F Aa).q fun a w F W => ?_
    refine AE F W (Ai F Aa Aa Aa Aa) Aa (Ao Aa) (Aj Cd Aa Aa Aa FR F Aa 1 Aa).q fun a w F W => ?_
    obtain ⟨x5, h3, H⟩ := Ap H
    refine AE F W (Ai F Aa Aa Aa Aa) Aa (Ao Aa) (Bd (1 + (x1).toNat * 1) C9 F Aa Aa Aa h3 Aa).q fun a w F W => ?_
    refine AE F W (Ai F Aa Aa Aa Aa) Aa (Ao Aa) (Aq (v := Value.int .i64 x5) 0 F Aa Aa T3 (BJ (base := 1) (m := 4) (l := [p0.2.1.1, p0.2.1.2.1, p0.2.1.2.2.1, p0.2.1.2.2.2]) (enc := Value.int .i64) Aa h3)).q fun a w F W => ?_
    refine AE F W (Ai F Aa Aa Aa Aa) Aa (Ao Aa) (BI F Aa Aa).q fun a w F W => ?_
    refine ls F W Aa (Au F Aa Aa Aa).q fun a w F W => ?_
    refine ls F W Aa (Ah F Aa).q fun a w F W => ?_
    rcases Bool.eq_false_or_eq_true (decide (x5 < 0)) with hb | hb
    ·
     have H := AH (Bj hb) H
     rw [hb] at F
     clear hb
     iterate 7 refine CD F Aa Aa Aa Aa Aa Aa Aa fun a F => ?_
     refine ls F W Aa (Az F Aa Aa Aa).q fun a w F W => ?_
     refine Af (Ad ?_)
     exact ⟨_, H, F.re ⟨rfl, Aa, Aa, Aa, Aa, trivial⟩, W⟩
    have H := AG (Bi hb) H
    rw [hb] at F
    clear hb
    refine AE F W (Ai F Aa Aa Aa Aa) Aa (Ao Aa) (Ah F Aa).q fun a w F W => ?_
    refine AE F W (Ai F Aa Aa Aa Aa) Aa (Ao Aa) (Aj Cd Aa Aa Aa FR F Aa 1 Aa).q fun a w F W => ?_
    obtain ⟨x6, h4, H⟩ := Ap H
    refine AE F W (Ai F Aa Aa Aa Aa) Aa (Ao Aa) (Bd (1 + (x1).toNat * 1) C9 F Aa Aa Aa h4 Aa).q fun a w F W => ?_
    refine AE F W (Ai F Aa Aa Aa Aa) Aa (Ao Aa) (Aq (v := Value.int .i64 x6) 0 F Aa Aa T3 (BJ (base := 1) (m := 4) (l := [p0.2.1.1, p0.2.1.2.1, p0.2.1.2.2.1, p0.2.1.2.2.2]) (enc := Value.int .i64) Aa h4)).q fun a w F W => ?_
    refine AE F W (Ai F Aa Aa Aa Aa) Aa (Ao Aa) (Ah F Aa).q fun a w F W => ?_
    refine AE F W (Ai F Aa Aa Aa Aa) Aa (Ao Aa) (Mk F Aa Aa).q fun a w F W => ?_
    refine AE F W (Ai F Aa Aa Aa Aa) Aa (Ao Aa) (D3 F Aa Aa).q fun a w F W => ?_
    refine ls F W Aa (Au F Aa Aa Aa).q fun a w F W => ?_
    refine Af (Ad ?_)
    exact ⟨_, H, F.re ⟨rfl, Aa, Aa, Aa, Aa, trivial⟩, W⟩
   rintro a w ⟨x3, hj, F, W⟩
   have hj := AJ hj
   subst hj
   have H := K3
   clear G3 K3
   refine AA F Aa (fun hb => ?_) fun hb => ?_
   ·
    have H := AH hb H
    rw [hb] at F
    clear hb
    refine Al (Ae ?_)
    refine ls F W Aa (Ag F Aa).q fun a w F W => ?_
    refine Af (Ad (Ay (AK ?_)))
    iterate 2 refine AD ?_
    refine AK (AD ?_)
    have H := L2 _ H
    have H := L1 _ H
    have H := AJ H
    subst H
    refine AL (.inl Aa) F W Aa (Av F Aa) ?_
    exact ⟨rfl, W.done⟩
   have H := AG (by rw [hb]; decide) H
   rw [hb] at F
   clear hb
   refine Ax (A1 (Ad (Ae ?_)))
   refine ls F W Aa (B6 F Aa Aa Aa).q fun a w F W => ?_
   refine ls F W Aa (Ah F Aa).q fun a w F W => ?_
   refine Af (Ad ?_)
   exact ⟨_, H, F.re ⟨rfl, Aa, Aa, Aa, trivial⟩, W⟩
  have H := AG (Bi hb) H
  rw [hb] at F
  clear hb
  refine Bu ?_
  iterate 2 refine BX ?_
  refine Br (Ad ?_)
  have H := L2 _ H
  exact ⟨H, F.re ⟨rfl, trivial⟩, W⟩
 rintro a w ⟨hj, F, W⟩
 have H := K1 _ hj
 clear hj G1 K1 L1
 refine Al (Ae ?_)
 refine ls F W Aa (Ag F Aa).q fun a w F W => ?_
 refine Af (Ad (Ay ?_))
 have H := AJ H
 subst H
 refine AL (.inl Aa) F W Aa (Av F Aa) ?_
 exact ⟨rfl, W.done⟩
theorem Qz : Has Try.prog 54 := ⟨fun args w => An Try.func54 rfl (by decide) args w⟩
theorem NN : Ty Try.prog 61 true 3 := ⟨by kernel_rfl, by kernel_rfl⟩
noncomputable def EB (p0 : Int × Int × Int) (p1 : Int) : Option Bool := (if p0.1 = 1 then (if 0 ≤ p0.2.1 then (if p0.2.1 < 4 then (if 0 ≤ p0.2.2 then (CM p0.2.1).bind fun x2 => some (decide (p0.2.2 ≤ x2)) else some false) else some false) else some false).bind fun x1 => some x1 else (if p0.1 = 2 then some (decide (p0.2.1 = 0) && (decide (0 ≤ p0.2.2) && decide (p0.2.2 < p1))) else (if p0.1 = 3 then some (decide (p0.2.1 = 0) && decide (p0.2.2 = 0)) else some false)))
theorem Kp (Y : Nat → Prop) (w0 : World)  (p0 : Int × Int × Int) (p1 : Int) (r : Bool) (H : EB p0 p1 = some r)  :
    Calls Try.prog 74 #[.agg #[.int .i64 p0.1, .int .i64 p0.2.1, .int .i64 p0.2.2], .int .i64 p1] w0 fun e w' => e = .returned (.bool r) ∧ Below w0.heap.size w0 w' := by
 refine enter Try.func74 Aa Try.ntmps74 Aa fun a F => ?_
 have W := Stw.start Y w0
 unfold EB at H
 refine Al (Ae ?_)
 refine BS (cs := [.int .i64 p0.1, .int .i64 p0.2.1, .int .i64 p0.2.2]) F W Aa Aa Aa fun b1 a w F W => ?_
 refine ls F W Aa (Ag F Aa).q fun a w F W => ?_
 refine Af (Ad (Al (Al (Ae ?_))))
 refine ls F W Aa (Aj Eb Aa Aa Aa T3 F Aa 0 Aa).q fun a w F W => ?_
 refine ls F W Aa (Aq (v := Value.int .i64 p0.1) 0 F Aa Aa T3 Aa).q fun a w F W => ?_
 refine Af (Ad (AC (Al (Ae ?_))))
 refine ls F W Aa (BB F Aa Aa).q fun a w F W => ?_
 refine ls F W Aa (Ag F Aa).q fun a w F W => ?_
 refine Af (Ad ?_)
 refine AA F Aa (fun hb => ?_) fun hb => ?_
 ·
  have H := AH (Bj hb) H
  rw [hb] at F
  clear hb
  obtain ⟨o1, G1, K1⟩ := Ap H
  refine AF (fun a w => ∃ x1 : Bool, some (x1) = some o1 ∧ Fr 56 [] [(4, .bool x1)] a ∧ Stw ⟨Y, [], w0⟩ [(b1, [.int .i64 p0.1, .int .i64 p0.2.1, .int .i64 p0.2.2])] [] w) ?_ ?_
  ·
   have H := G1
   clear G1 K1
   refine Co W MO (by kernel_rfl) ?_
   refine qs F Aa (Aj Eb Aa Aa Aa T3 F Aa 1 Aa).q fun a F => ?_
   refine qs F Aa (Aq (v := Value.int .i64 p0.2.1) 0 F Aa Aa T3 Aa).q fun a F => ?_
   refine qs F Aa (EN F Aa Aa).q fun a F => ?_
   refine qs F Aa (Ah F Aa).q fun a F => ?_
   rcases Bool.eq_false_or_eq_true (decide (0 ≤ p0.2.1)) with hb | hb
   ·
    have H := AH (Bj hb) H
    rw [hb] at F
    clear hb
    refine Bh F (Ai F Aa Aa Aa Aa) Aa (Ao Aa) (Aj Eb Aa Aa Aa T3 F Aa 1 Aa).q fun a F => ?_
    refine Bh F (Ai F Aa Aa Aa Aa) Aa (Ao Aa) (Aq (v := Value.int .i64 p0.2.1) 0 F Aa Aa T3 Aa).q fun a F => ?_
    refine Bh F (Ai F Aa Aa Aa Aa) Aa (Ao Aa) (BI F Aa Aa).q fun a F => ?_
    refine qs F Aa (Az F Aa Aa Aa).q fun a F => ?_
    refine qs F Aa (Ah F Aa).q fun a F => ?_
    rcases Bool.eq_false_or_eq_true (decide (p0.2.1 < 4)) with hb | hb
    ·
     have H := AH (Bj hb) H
     rw [hb] at F
     clear hb
     refine Bh F (Ai F Aa Aa Aa Aa) Aa (Ao Aa) (Aj Eb Aa Aa Aa T3 F Aa 2 Aa).q fun a F => ?_
     refine Bh F (Ai F Aa Aa Aa Aa) Aa (Ao Aa) (Aq (v := Value.int .i64 p0.2.2) 0 F Aa Aa T3 Aa).q fun a F => ?_
     refine Bh F (Ai F Aa Aa Aa Aa) Aa (Ao Aa) (EN F Aa Aa).q fun a F => ?_
     refine qs F Aa (Az F Aa Aa Aa).q fun a F => ?_
     refine qs F Aa (Ah F Aa).q fun a F => ?_
     rcases Bool.eq_false_or_eq_true (decide (0 ≤ p0.2.2)) with hb | hb
     ·
      have H := AH (Bj hb) H
      rw [hb] at F
      clear hb
      refine Bh F (Ai F Aa Aa Aa Aa) Aa (Ao Aa) (Aj Eb Aa Aa Aa T3 F Aa 2 Aa).q fun a F => ?_
      refine Bh F (Ai F Aa Aa Aa Aa) Aa (Ao Aa) (Aq (v := Value.int .i64 p0.2.2) 0 F Aa Aa T3 Aa).q fun a F => ?_
      refine Bh F (Ai F Aa Aa Aa Aa) Aa (Ao Aa) (Aj Eb Aa Aa Aa T3 F Aa 1 Aa).q fun a F => ?_
      refine Bh F (Ai F Aa Aa Aa Aa) Aa (Ao Aa) (Aq (v := Value.int .i64 p0.2.1) 0 F Aa Aa T3 Aa).q fun a F => ?_
      obtain ⟨x2, h1, H⟩ := Ap H
      refine Bh F (Ai F Aa Aa Aa Aa) Aa (Ao Aa) (AR (v := Value.int .i64 x2) F OC Aa (fun w W => Eo any w p0.2.1 _ h1)) fun a F => ?_
      refine Bh F (Ai F Aa Aa Aa Aa) Aa (Ao Aa) (Ib F Aa Aa).q fun a F => ?_
      refine qs F Aa (Az F Aa Aa Aa).q fun a F => ?_
      refine qs F Aa (Ag F Aa).q fun a F => ?_
      refine A4 fun w W => ?_
      refine Ad ?_
      exact ⟨_, H, F.re ⟨rfl, trivial⟩, W⟩
     have H := AG (Bi hb) H
     rw [hb] at F
     clear hb
     iterate 6 refine BK F (Bq F Aa Aa Aa Aa Aa) Aa Aa fun a F => ?_
     refine qs F Aa (Au F Aa Aa Aa).q fun a F => ?_
     refine qs F Aa (Ag F Aa).q fun a F => ?_
     refine A4 fun w W => ?_
     refine Ad ?_
     exact ⟨_, H, F.re ⟨rfl, trivial⟩, W⟩
    have H := AG (Bi hb) H
    rw [hb] at F
    clear hb
    iterate 3 refine BK F (Bq F Aa Aa Aa Aa Aa) Aa Aa fun a F => ?_
    refine qs F Aa (Au F Aa Aa Aa).q fun a F => ?_
    refine qs F Aa (Ah F Aa).q fun a F => ?_
    iterate 6 refine BK F (Bq F Aa Aa Aa Aa Aa) Aa Aa fun a F => ?_
    refine qs F Aa (Au F Aa Aa Aa).q fun a F => ?_
    refine qs F Aa (Ag F Aa).q fun a F => ?_
    refine A4 fun w W => ?_
    refine Ad ?_
    exact ⟨_, H, F.re ⟨rfl, trivial⟩, W⟩
   have H := AG (Bi hb) H
   rw [hb] at F
   clear hb
   iterate 3 refine BK F (Bq F Aa Aa Aa Aa Aa) Aa Aa fun a F => ?_
   refine qs F Aa (Au F Aa Aa Aa).q fun a F => ?_
   refine qs F Aa (Ah F Aa).q fun a F => ?_
   iterate 3 refine BK F (Bq F Aa Aa Aa Aa Aa) Aa Aa fun a F => ?_
   refine qs F Aa (Au F Aa Aa Aa).q fun a F => ?_
   refine qs F Aa (Ah F Aa).q fun a F => ?_
   iterate 6 refine BK F (Bq F Aa Aa Aa Aa Aa) Aa Aa fun a F => ?_
   refine qs F Aa (Au F Aa Aa Aa).q fun a F => ?_
   refine qs F Aa (Ag F Aa).q fun a F => ?_
   refine A4 fun w W => ?_
   refine Ad ?_
   exact ⟨_, H, F.re ⟨rfl, trivial⟩, W⟩
  rintro a w ⟨x1, hj, F, W⟩
  have hj := AJ hj
  subst hj
  have H := K1
  clear G1 K1
  refine Ay (AK (AD ?_))
  have H := AJ H
  subst H
  refine AL (.inl Aa) F W Aa (Av F Aa) ?_
  exact ⟨rfl, W.done⟩
 have H := AG (Bi hb) H
 rw [hb] at F
 clear hb
 refine Al (Ae ?_)
 refine ls F W Aa (BB F Aa Aa).q fun a w F W => ?_
 refine ls F W Aa (Ag F Aa).q fun a w F W => ?_
 refine Af (Ad ?_)
 refine AA F Aa (fun hb => ?_) fun hb => ?_
 ·
  have H := AH (Bj hb) H
  rw [hb] at F
  clear hb
  refine AF (fun a w => Fr 56 [] [(4, .bool (decide (p0.2.1 = 0) && (decide (0 ≤ p0.2.2) && decide (p0.2.2 < p1))))] a ∧ Stw ⟨Y, [], w0⟩ [(b1, [.int .i64 p0.1, .int .i64 p0.2.1, .int .i64 p0.2.2])] [] w) ?_ ?_
  ·
   refine Ae ?_
   refine ls F W Aa (Aj Eb Aa Aa Aa T3 F Aa 1 Aa).q fun a w F W => ?_
   refine ls F W Aa (Aq (v := Value.int .i64 p0.2.1) 0 F Aa Aa T3 Aa).q fun a w F W => ?_
   refine ls F W Aa (BB F Aa Aa).q fun a w F W => ?_
   refine ls F W Aa (Ah F Aa).q fun a w F W => ?_
   rcases Bool.eq_false_or_eq_true (decide (p0.2.1 = 0)) with hb0 | hb0
   ·
    rw [hb0] at F
    refine AE F W (Ai F Aa Aa Aa Aa) Aa (Ao Aa) (Aj Eb Aa Aa Aa T3 F Aa 2 Aa).q fun a w F W => ?_
    refine AE F W (Ai F Aa Aa Aa Aa) Aa (Ao Aa) (Aq (v := Value.int .i64 p0.2.2) 0 F Aa Aa T3 Aa).q fun a w F W => ?_
    refine AE F W (Ai F Aa Aa Aa Aa) Aa (Ao Aa) (EN F Aa Aa).q fun a w F W => ?_
    refine ls F W Aa (Az F Aa Aa Aa).q fun a w F W => ?_
    refine ls F W Aa (Ah F Aa).q fun a w F W => ?_
    rcases Bool.eq_false_or_eq_true (decide (0 ≤ p0.2.2)) with hb1 | hb1
    ·
     rw [hb1] at F
     refine AE F W (Ai F Aa Aa Aa Aa) Aa (Ao Aa) (Aj Eb Aa Aa Aa T3 F Aa 2 Aa).q fun a w F W => ?_
     refine AE F W (Ai F Aa Aa Aa Aa) Aa (Ao Aa) (Aq (v := Value.int .i64 p0.2.2) 0 F Aa Aa T3 Aa).q fun a w F W => ?_
     refine AE F W (Ai F Aa Aa Aa Aa) Aa (Ao Aa) (Ah F Aa).q fun a w F W => ?_
     refine AE F W (Ai F Aa Aa Aa Aa) Aa (Ao Aa) (BI F Aa Aa).q fun a w F W => ?_
     refine ls F W Aa (Az F Aa Aa Aa).q fun a w F W => ?_
     refine ls F W Aa (Ag F Aa).q fun a w F W => ?_
     refine Af (Ad ?_)
     exact ⟨F.re ⟨(by show some (Value.bool (decide (p0.2.2 < p1))) = some (Value.bool (decide (p0.2.1 = 0) && (decide (0 ≤ p0.2.2) && decide (p0.2.2 < p1)))); try rw [hb0]; try rw [hb1]; all_goals simp only [Bool.not_true, Bool.not_false, Bool.true_and, Bool.false_and, Bool.true_or, Bool.false_or, Bool.and_true, Bool.or_false, cond_true, cond_false]), trivial⟩, W⟩
    rw [hb1] at F
    iterate 4 refine CD F Aa Aa Aa Aa Aa Aa Aa fun a F => ?_
    refine ls F W Aa (Au F Aa Aa Aa).q fun a w F W => ?_
    refine ls F W Aa (Ag F Aa).q fun a w F W => ?_
    refine Af (Ad ?_)
    exact ⟨F.re ⟨(by show some (Value.bool false) = some (Value.bool (decide (p0.2.1 = 0) && (decide (0 ≤ p0.2.2) && decide (p0.2.2 < p1)))); try rw [hb0]; try rw [hb1]; all_goals simp only [Bool.not_true, Bool.not_false, Bool.true_and, Bool.false_and, Bool.true_or, Bool.false_or, Bool.and_true, Bool.or_false, cond_true, cond_false]), trivial⟩, W⟩
   rw [hb0] at F
   iterate 3 refine CD F Aa Aa Aa Aa Aa Aa Aa fun a F => ?_
   refine ls F W Aa (Au F Aa Aa Aa).q fun a w F W => ?_
   refine ls F W Aa (Ah F Aa).q fun a w F W => ?_
   iterate 4 refine CD F Aa Aa Aa Aa Aa Aa Aa fun a F => ?_
   refine ls F W Aa (Au F Aa Aa Aa).q fun a w F W => ?_
   refine ls F W Aa (Ag F Aa).q fun a w F W => ?_
   refine Af (Ad ?_)
   exact ⟨F.re ⟨(by show some (Value.bool false) = some (Value.bool (decide (p0.2.1 = 0) && (decide (0 ≤ p0.2.2) && decide (p0.2.2 < p1)))); try rw [hb0]; all_goals simp only [Bool.not_true, Bool.not_false, Bool.true_and, Bool.false_and, Bool.true_or, Bool.false_or, Bool.and_true, Bool.or_false, cond_true, cond_false]), trivial⟩, W⟩
  rintro a w ⟨F, W⟩
  refine Ay (AK (AD ?_))
  have H := AJ H
  subst H
  refine AL (.inl Aa) F W Aa (Av F Aa) ?_
  exact ⟨rfl, W.done⟩
 have H := AG (Bi hb) H
 rw [hb] at F
 clear hb
 refine Al (Ae ?_)
 refine ls F W Aa (BB F Aa Aa).q fun a w F W => ?_
 refine ls F W Aa (Ag F Aa).q fun a w F W => ?_
 refine Af (Ad ?_)
 refine AA F Aa (fun hb => ?_) fun hb => ?_
 ·
  have H := AH (Bj hb) H
  rw [hb] at F
  clear hb
  refine AF (fun a w => Fr 56 [] [(4, .bool (decide (p0.2.1 = 0) && decide (p0.2.2 = 0)))] a ∧ Stw ⟨Y, [], w0⟩ [(b1, [.int .i64 p0.1, .int .i64 p0.2.1, .int .i64 p0.2.2])] [] w) ?_ ?_
  ·
   refine Ae ?_
   refine ls F W Aa (Aj Eb Aa Aa Aa T3 F Aa 1 Aa).q fun a w F W => ?_
   refine ls F W Aa (Aq (v := Value.int .i64 p0.2.1) 0 F Aa Aa T3 Aa).q fun a w F W => ?_
   refine ls F W Aa (BB F Aa Aa).q fun a w F W => ?_
   refine ls F W Aa (Ah F Aa).q fun a w F W => ?_
   rcases Bool.eq_false_or_eq_true (decide (p0.2.1 = 0)) with hb0 | hb0
   ·
    rw [hb0] at F
    refine AE F W (Ai F Aa Aa Aa Aa) Aa (Ao Aa) (Aj Eb Aa Aa Aa T3 F Aa 2 Aa).q fun a w F W => ?_
    refine AE F W (Ai F Aa Aa Aa Aa) Aa (Ao Aa) (Aq (v := Value.int .i64 p0.2.2) 0 F Aa Aa T3 Aa).q fun a w F W => ?_
    refine AE F W (Ai F Aa Aa Aa Aa) Aa (Ao Aa) (BB F Aa Aa).q fun a w F W => ?_
    refine ls F W Aa (Az F Aa Aa Aa).q fun a w F W => ?_
    refine ls F W Aa (Ag F Aa).q fun a w F W => ?_
    refine Af (Ad ?_)
    exact ⟨F.re ⟨(by show some (Value.bool (decide (p0.2.2 = 0))) = some (Value.bool (decide (p0.2.1 = 0) && decide (p0.2.2 = 0))); try rw [hb0]; all_goals simp only [Bool.not_true, Bool.not_false, Bool.true_and, Bool.false_and, Bool.true_or, Bool.false_or, Bool.and_true, Bool.or_false, cond_true, cond_false]), trivial⟩, W⟩
   rw [hb0] at F
   iterate 3 refine CD F Aa Aa Aa Aa Aa Aa Aa fun a F => ?_
   refine ls F W Aa (Au F Aa Aa Aa).q fun a w F W => ?_
   refine ls F W Aa (Ag F Aa).q fun a w F W => ?_
   refine Af (Ad ?_)
   exact ⟨F.re ⟨(by show some (Value.bool false) = some (Value.bool (decide (p0.2.1 = 0) && decide (p0.2.2 = 0))); try rw [hb0]; all_goals simp only [Bool.not_true, Bool.not_false, Bool.true_and, Bool.false_and, Bool.true_or, Bool.false_or, Bool.and_true, Bool.or_false, cond_true, cond_false]), trivial⟩, W⟩
  rintro a w ⟨F, W⟩
  refine Ay (AK (AD ?_))
  have H := AJ H
  subst H
  refine AL (.inl Aa) F W Aa (Av F Aa) ?_
  exact ⟨rfl, W.done⟩
 have H := AG (Bi hb) H
 rw [hb] at F
 clear hb
 refine Ax (A1 (Ad (Al (Ae ?_))))
 refine ls F W Aa (Ag F Aa).q fun a w F W => ?_
 refine Af (Ad (Ay ?_))
 have H := AJ H
 subst H
 refine AL (.inl Aa) F W Aa (Av F Aa) ?_
 exact ⟨rfl, W.done⟩
theorem PU : Has Try.prog 74 := ⟨fun args w => An Try.func74 rfl (by decide) args w⟩
noncomputable def DT (p0 : List (Int × Int × Int)) (p1 : Int) : Int → Option (Int ⊕ (Unit ⊕ Bool))
  | x1 => (if x1 < (p0.length : Int) then (ix p0 x1).bind fun x2 => (EB x2 p1).bind fun x3 => (if (!x3) = true then some (.inr (.inr false)) else some (.inl (BT (x1 + 1)))) else some (.inr (.inl ())))
noncomputable def EA (p0 : List (Int × Int × Int)) (p1 : Int) : Option Bool := (if 16 < (p0.length : Int) then some false else FB (A9 (DT p0 p1) 0) fun _ => some true)
theorem Ki (Y : Nat → Prop) (w0 : World) (v1 : Value) (p0 : List (Int × Int × Int)) (p1 : Int) (r : Bool) (H : EA p0 p1 = some r) (h_v1 : Sl w0 (NX []) BD v1 p0) :
    Calls Try.prog 55 #[v1, .int .i64 p1] w0 fun e w' => e = .returned (.bool r) ∧ Below w0.heap.size w0 w' := by
 refine enter Try.func55 Aa Try.ntmps55 Aa fun a F => ?_
 have W := Stw.start Y w0
 unfold EA at H
 refine Al (Ae ?_)
 refine ls F W Aa (Ag F Aa).q fun a w F W => ?_
 refine Af (Ad (Al (Al (Ae ?_))))
 refine ls F W Aa (Ah F Aa).q fun a w F W => ?_
 refine ls F W Aa (B7 (r := BD) (l := p0) In Aa F Aa (Aw h_v1)).q fun a w F W => ?_
 refine ls F W Aa (E3 F Aa Aa).q fun a w F W => ?_
 refine Af (Ad ?_)
 refine AA F Aa (fun hb => ?_) fun hb => ?_
 ·
  have H := AH (Bj hb) H
  rw [hb] at F
  clear hb
  refine Al (Ae ?_)
  refine ls F W Aa (Ag F Aa).q fun a w F W => ?_
  refine Af (Ad (Ay (AD ?_)))
  have H := AJ H
  subst H
  refine AL (.inl Aa) F W Aa (Av F Aa) ?_
  exact ⟨rfl, W.done⟩
 have H := AG (Bi hb) H
 rw [hb] at F
 clear hb
 refine Ax (Ad ?_)
 obtain ⟨o1, G1, K1, L1⟩ := Ih H
 refine AF (fun a w => some (Sum.inl ()) = some o1 ∧ Fr 21 [] [(4, .bool false)] a ∧ Stw ⟨Y, [], w0⟩ [] [] w) ?_ ?_
 ·
  have H := G1
  clear G1 K1
  refine Al (Ae ?_)
  refine ls F W Aa (Ah F Aa).q fun a w F W => ?_
  refine ls F W Aa (B7 (r := BD) (l := p0) In Aa F Aa (Aw h_v1)).q fun a w F W => ?_
  refine ls F W Aa (Ah F Aa).q fun a w F W => ?_
  refine Af (Ad (AC ?_))
  refine Bz H (fun s a w => Fr 21 [] [(1, .int .i64 p1), (4, .bool false), (10, v1), (11, .int .i64 (p0.length : Int)), (12, .int .i64 s)] a ∧ Stw ⟨Y, [], w0⟩ [] [] w) ⟨F.re ⟨rfl, Aa, Aa, Aa, Aa, trivial⟩, W⟩ fun s o a w H L2 hR => ?_
  obtain ⟨x1, rfl⟩ : ∃ x, x = s := ⟨s, rfl⟩
  obtain ⟨F, W⟩ := hR
  have F : Fr 21 [] [(1, .int .i64 p1), (4, .bool false), (10, v1), (11, .int .i64 (p0.length : Int)), (12, .int .i64 x1)] a := F
  have W : Stw ⟨Y, [], w0⟩ [] [] w := W
  rw [DT] at H
  refine Al (Ae ?_)
  refine ls F W Aa (BI F Aa Aa).q fun a w F W => ?_
  refine Af (Ad (Al ?_))
  refine AA F Aa (fun hb => ?_) fun hb => ?_
  ·
   have H := AH (Bj hb) H
   rw [hb] at F
   clear hb
   refine Ax (Ad (Al (AC (Al (Ae ?_)))))
   obtain ⟨x2, h1, H⟩ := Ap H
   refine ls F W Aa (Bg (r := BD) Nb F Aa Aa (Aw h_v1) h1).q fun a w F W => ?_
   refine ls F W Aa (A0 (y := Value.agg #[.int .i64 x2.1, .int .i64 x2.2.1, .int .i64 x2.2.2]) (j := 0) (i := x1) F Aa Aa (Aw h_v1) h1 NO.to NN Aa).q fun a w F W => ?_
   refine Cf (cs := [.int .i64 0, .int .i64 0, .int .i64 0]) F W Aa OD Aa fun b1 a w F W => ?_
   refine BA (vs := [.int .i64 x2.1, .int .i64 x2.2.1, .int .i64 x2.2.2]) (M' := [(b1, [.int .i64 x2.1, .int .i64 x2.2.1, .int .i64 x2.2.2])]) 0 F W Aa Aa Aa NN Aa Aa Aa Aa Aa fun w W => ?_
   refine Af (Ad (Al (Ae ?_)))
   refine ls F W Aa (Aq (v := Value.agg #[.int .i64 x2.1, .int .i64 x2.2.1, .int .i64 x2.2.2]) 0 F Aa Aa NN Aa).q fun a w F W => ?_
   refine ls F W Aa (Ah F Aa).q fun a w F W => ?_
   obtain ⟨x3, h2, H⟩ := Ap H
   refine ls F W Aa (AR (v := Value.bool x3) F PU Aa (fun w W => Kp any w x2 p1 _ h2)) fun a w F W => ?_
   refine ls F W Aa (Ec F Aa).q fun a w F W => ?_
   refine Af (Ad ?_)
   refine AA F Aa (fun hb => ?_) fun hb => ?_
   ·
    have H := AH hb H
    rw [hb] at F
    clear hb
    refine Al (Ae ?_)
    refine ls F W Aa (Ag F Aa).q fun a w F W => ?_
    refine Af (Ad (Ay (AK ?_)))
    iterate 2 refine AD ?_
    refine AK (AD ?_)
    have H := L2 _ H
    have H := L1 _ H
    have H := AJ H
    subst H
    refine AL (.inl Aa) F W Aa (Av F Aa) ?_
    exact ⟨rfl, W.done⟩
   have H := AG (by rw [hb]; decide) H
   rw [hb] at F
   clear hb
   refine Ax (A1 (Ad (Ae ?_)))
   refine ls F W Aa (B6 F Aa Aa Aa).q fun a w F W => ?_
   refine ls F W Aa (Ah F Aa).q fun a w F W => ?_
   refine Af (Ad ?_)
   have W := W.sub (M' := []) (Z' := []) (List.nil_sublist _) (List.Sublist.refl _)
   exact ⟨_, H, F.re ⟨rfl, Aa, Aa, Aa, Aa, trivial⟩, W⟩
  have H := AG (Bi hb) H
  rw [hb] at F
  clear hb
  refine Bu ?_
  iterate 2 refine BX ?_
  refine Br (Ad ?_)
  have H := L2 _ H
  exact ⟨H, F.re ⟨rfl, trivial⟩, W⟩
 rintro a w ⟨hj, F, W⟩
 have H := K1 _ hj
 clear hj G1 K1 L1
 refine Al (Ae ?_)
 refine ls F W Aa (Ag F Aa).q fun a w F W => ?_
 refine Af (Ad (Ay ?_))
 have H := AJ H
 subst H
 refine AL (.inl Aa) F W Aa (Av F Aa) ?_
 exact ⟨rfl, W.done⟩
theorem Ql : Has Try.prog 55 := ⟨fun args w => An Try.func55 rfl (by decide) args w⟩
noncomputable def Dx (p0 : Int × (Int × (Int × Int × Int × Int) × (Int × Int × Int × Int)) × (List (Int × Int × Int))) (p1 : Int) : Option Bool := (if 0 ≤ p0.1 then (if p0.1 < 65536 then (DG p0.2.1).bind fun x2 => (if x2 = true then (EA p0.2.2 p1).bind fun x3 => some x3 else some false) else some false) else some false).bind fun x1 => some x1
theorem HA (Y : Nat → Prop) (w0 : World) (v1 : Value) (p0 : Int × (Int × (Int × Int × Int × Int) × (Int × Int × Int × Int)) × (List (Int × Int × Int))) (p1 : Int) (r : Bool) (H : Dx p0 p1 = some r) (h_v1 : Sl w0 (NX []) BD v1 p0.2.2) :
    Calls Try.prog 30 #[.agg #[.int .i64 p0.1, .int .i64 p0.2.1.1, .int .i64 p0.2.1.2.1.1, .int .i64 p0.2.1.2.1.2.1, .int .i64 p0.2.1.2.1.2.2.1, .int .i64 p0.2.1.2.1.2.2.2, .int .i64 p0.2.1.2.2.1, .int .i64 p0.2.1.2.2.2.1, .int .i64 p0.2.1.2.2.2.2.1, .int .i64 p0.2.1.2.2.2.2.2, v1], .int .i64 p1] w0 fun e w' => e = .returned (.bool r) ∧ Below w0.heap.size w0 w' := by
 refine enter Try.func30 Aa Try.ntmps30 Aa fun a F => ?_
 have W := Stw.start Y w0
 unfold Dx at H
 refine Al (Ae ?_)
 refine BS (cs := [.int .i64 p0.1, .int .i64 p0.2.1.1, .int .i64 p0.2.1.2.1.1, .int .i64 p0.2.1.2.1.2.1, .int .i64 p0.2.1.2.1.2.2.1, .int .i64 p0.2.1.2.1.2.2.2, .int .i64 p0.2.1.2.2.1, .int .i64 p0.2.1.2.2.2.1, .int .i64 p0.2.1.2.2.2.2.1, .int .i64 p0.2.1.2.2.2.2.2, v1]) F W Aa Aa Aa fun b1 a w F W => ?_
 refine ls F W Aa (Ag F Aa).q fun a w F W => ?_
 refine Af (Ad ?_)
 obtain ⟨o1, G1, K1⟩ := Ap H
 refine AF (fun a w => ∃ x1 : Bool, some (x1) = some o1 ∧ Fr 24 [] [(4, .bool x1)] a ∧ Stw ⟨Y, [], w0⟩ [(b1, [.int .i64 p0.1, .int .i64 p0.2.1.1, .int .i64 p0.2.1.2.1.1, .int .i64 p0.2.1.2.1.2.1, .int .i64 p0.2.1.2.1.2.2.1, .int .i64 p0.2.1.2.1.2.2.2, .int .i64 p0.2.1.2.2.1, .int .i64 p0.2.1.2.2.2.1, .int .i64 p0.2.1.2.2.2.2.1, .int .i64 p0.2.1.2.2.2.2.2, v1])] [] w) ?_ ?_
 ·
  have H := G1
  clear G1 K1
  refine Ae ?_
  refine ls F W Aa (Aj Ci Aa Aa Aa T3 F Aa 0 Aa).q fun a w F W => ?_
  refine ls F W Aa (Aq (v := Value.int .i64 p0.1) 0 F Aa Aa T3 Aa).q fun a w F W => ?_
  refine ls F W Aa (EN F Aa Aa).q fun a w F W => ?_
  refine ls F W Aa (Ah F Aa).q fun a w F W => ?_
  rcases Bool.eq_false_or_eq_true (decide (0 ≤ p0.1)) with hb | hb
  ·
   have H := AH (Bj hb) H
   rw [hb] at F
   clear hb
   refine AE F W (Ai F Aa Aa Aa Aa) Aa (Ao Aa) (Aj Ci Aa Aa Aa T3 F Aa 0 Aa).q fun a w F W => ?_
   refine AE F W (Ai F Aa Aa Aa Aa) Aa (Ao Aa) (Aq (v := Value.int .i64 p0.1) 0 F Aa Aa T3 Aa).q fun a w F W => ?_
   refine AE F W (Ai F Aa Aa Aa Aa) Aa (Ao Aa) (BI F Aa Aa).q fun a w F W => ?_
   refine ls F W Aa (Az F Aa Aa Aa).q fun a w F W => ?_
   refine ls F W Aa (Ah F Aa).q fun a w F W => ?_
   rcases Bool.eq_false_or_eq_true (decide (p0.1 < 65536)) with hb | hb
   ·
    have H := AH (Bj hb) H
    rw [hb] at F
    clear hb
    refine AE F W (Ai F Aa Aa Aa Aa) Aa (Ao Aa) (Aj Ci Aa Aa Aa Dk F Aa 1 Aa).q fun a w F W => ?_
    refine AE F W (Ai F Aa Aa Aa Aa) Aa (Ao Aa) (Aq (v := Value.agg #[.int .i64 p0.2.1.1, .int .i64 p0.2.1.2.1.1, .int .i64 p0.2.1.2.1.2.1, .int .i64 p0.2.1.2.1.2.2.1, .int .i64 p0.2.1.2.1.2.2.2, .int .i64 p0.2.1.2.2.1, .int .i64 p0.2.1.2.2.2.1, .int .i64 p0.2.1.2.2.2.2.1, .int .i64 p0.2.1.2.2.2.2.2]) 0 F Aa Aa Dk Aa).q fun a w F W => ?_
    refine Gr (Ai F Aa Aa Aa Aa) ?_
    obtain ⟨x2, h1, H⟩ := Ap H
    refine ls F W Aa (AR (v := Value.bool x2) F Qz Aa (fun w W => Jg any w p0.2.1 _ h1)) fun a w F W => ?_
    refine ls F W Aa (Az F Aa Aa Aa).q fun a w F W => ?_
    refine ls F W Aa (Ah F Aa).q fun a w F W => ?_
    rcases Bool.eq_false_or_eq_true x2 with hb | hb
    ·
     have H := AH hb H
     rw [hb] at F
     clear hb
     refine AE F W (Ai F Aa Aa Aa Aa) Aa (Ao Aa) (Aj Ci Aa Aa Aa HK F Aa 10 Aa).q fun a w F W => ?_
     refine AE F W (Ai F Aa Aa Aa Aa) Aa (Ao Aa) (Aq (v := v1) 0 F Aa Aa HK Aa).q fun a w F W => ?_
     refine AE F W (Ai F Aa Aa Aa Aa) Aa (Ao Aa) (Ah F Aa).q fun a w F W => ?_
     refine Gr (Ai F Aa Aa Aa Aa) ?_
     obtain ⟨x3, h2, H⟩ := Ap H
     refine ls F W Aa (AR (v := Value.bool x3) F Ql Aa (fun w W => Ki any w (v1) p0.2.2 p1 _ h2 (((Aw h_v1) : C2 _ _ _ _ _ _) w W).nx)) fun a w F W => ?_
     refine ls F W Aa (Az F Aa Aa Aa).q fun a w F W => ?_
     refine ls F W Aa (Ag F Aa).q fun a w F W => ?_
     refine Af (Ad ?_)
     exact ⟨_, H, F.re ⟨rfl, trivial⟩, W⟩
    have H := AG (by rw [hb]; decide) H
    rw [hb] at F
    clear hb
    iterate 4 refine CD F Aa Aa Aa Aa Aa Aa Aa fun a F => ?_
    refine ls F W Aa (Au F Aa Aa Aa).q fun a w F W => ?_
    refine ls F W Aa (Ag F Aa).q fun a w F W => ?_
    refine Af (Ad ?_)
    exact ⟨_, H, F.re ⟨rfl, trivial⟩, W⟩
   have H := AG (Bi hb) H
   rw [hb] at F
   clear hb
   iterate 3 refine CD F Aa Aa Aa Aa Aa Aa Aa fun a F => ?_
   refine ls F W Aa (Au F Aa Aa Aa).q fun a w F W => ?_
   refine ls F W Aa (Ah F Aa).q fun a w F W => ?_
   iterate 4 refine CD F Aa Aa Aa Aa Aa Aa Aa fun a F => ?_
   refine ls F W Aa (Au F Aa Aa Aa).q fun a w F W => ?_
   refine ls F W Aa (Ag F Aa).q fun a w F W => ?_
   refine Af (Ad ?_)
   exact ⟨_, H, F.re ⟨rfl, trivial⟩, W⟩
  have H := AG (Bi hb) H
  rw [hb] at F
  clear hb
  iterate 3 refine CD F Aa Aa Aa Aa Aa Aa Aa fun a F => ?_
  refine ls F W Aa (Au F Aa Aa Aa).q fun a w F W => ?_
  refine ls F W Aa (Ah F Aa).q fun a w F W => ?_
  iterate 3 refine CD F Aa Aa Aa Aa Aa Aa Aa fun a F => ?_
  refine ls F W Aa (Au F Aa Aa Aa).q fun a w F W => ?_
  refine ls F W Aa (Ah F Aa).q fun a w F W => ?_
  iterate 4 refine CD F Aa Aa Aa Aa Aa Aa Aa fun a F => ?_
  refine ls F W Aa (Au F Aa Aa Aa).q fun a w F W => ?_
  refine ls F W Aa (Ag F Aa).q fun a w F W => ?_
  refine Af (Ad ?_)
  exact ⟨_, H, F.re ⟨rfl, trivial⟩, W⟩
 rintro a w ⟨x1, hj, F, W⟩
 have hj := AJ hj
 subst hj
 have H := K1
 clear G1 K1
 refine Ay ?_
 have H := AJ H
 subst H
 refine AL (.inl Aa) F W Aa (Av F Aa) ?_
 exact ⟨rfl, W.done⟩
end Go.Proofs.Ytkjjioigbpkifaa
