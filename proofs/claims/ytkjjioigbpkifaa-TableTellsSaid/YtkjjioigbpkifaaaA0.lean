/- The functions of layer 11, Eg. Conditions: none. -/
import Derived.Test.YtkjjioigbpkifaaRows
import Derived.Test.YtkjjioigbpkifaaaOT
import Derived.Test.YtkjjioigbpkifaaaQT
import Derived.Test.YtkjjioigbpkifaaaOD
import Derived.Test.YtkjjioigbpkifaaaOC
import Derived.Test.YtkjjioigbpkifaaaOM
import Derived.Test.YtkjjioigbpkifaaaXC
import Derived.Test.YtkjjioigbpkifaaaOX
namespace Go.Proofs.Ytkjjioigbpkifaa
open Go Go.RowKit
set_option linter.unusedVariables false
set_option linter.unusedSimpArgs false
set_option maxRecDepth 20000
theorem D2 : type_of% Try.underlying22 := Try.underlying22
theorem HD : type_of% Try.underlying38 := Try.underlying38
theorem Cw : type_of% Try.underlying40 := Try.underlying40
abbrev ND : Rp (Int × Int × Int × Int) := (Rp.pair (Rp.int .i64) (Rp.pair (Rp.int .i64) (Rp.pair (Rp.int .i64) (Rp.int .i64))))
abbrev Nt : Rp (Int × (Int × Int × Int × Int) × (Int × Int × Int × Int)) := (Rp.pair (Rp.int .i64) (Rp.pair ND ND))
abbrev Bw : Rp (Int × Int × Int) := (Rp.pair (Rp.int .i64) (Rp.pair (Rp.int .i64) (Rp.int .i64)))
abbrev A2 : Rp (Int × (Int × (Int × Int × Int × Int) × (Int × Int × Int × Int)) × (List (Int × Int × Int))) := (Rp.pair (Rp.int .i64) (Rp.pair Nt (Rp.slice Bw)))
abbrev CD : Rp (Int × (Int × (Int × Int × Int × Int) × (Int × Int × Int × Int)) × (Value × List (Int × Int × Int))) := (Rp.pair (Rp.int .i64) (Rp.pair Nt (Rp.vsl Bw)))
abbrev NE (p : Int × (Int × (Int × Int × Int × Int) × (Int × Int × Int × Int)) × (Value × List (Int × Int × Int))) : Int × (Int × (Int × Int × Int × Int) × (Int × Int × Int × Int)) × (List (Int × Int × Int)) := (p.1, p.2.1, p.2.2.2)
theorem Bd : Ex A2 CD NE := (Ex.pair Ex.rfl' (Ex.pair Ex.rfl' Ex.sliceF))
def OJ (a : Int × Int × Int × Int) : List Value := [.int .i64 a.1, .int .i64 a.2.1, .int .i64 a.2.2.1, .int .i64 a.2.2.2]
theorem N9 : Fl ND OJ := (Fl.pair Fl.int (Fl.pair Fl.int (Fl.pair Fl.int Fl.int)))
def Pe (a : Int × (Int × Int × Int × Int) × (Int × Int × Int × Int)) : List Value := [.int .i64 a.1, .int .i64 a.2.1.1, .int .i64 a.2.1.2.1, .int .i64 a.2.1.2.2.1, .int .i64 a.2.1.2.2.2, .int .i64 a.2.2.1, .int .i64 a.2.2.2.1, .int .i64 a.2.2.2.2.1, .int .i64 a.2.2.2.2.2]
theorem N8 : Fl Nt Pe := (Fl.pair Fl.int (Fl.pair N9 N9))
abbrev Ce (a : Int × (Int × (Int × Int × Int × Int) × (Int × Int × Int × Int)) × (Value × List (Int × Int × Int))) : List Value := [.int .i64 a.1, .int .i64 a.2.1.1, .int .i64 a.2.1.2.1.1, .int .i64 a.2.1.2.1.2.1, .int .i64 a.2.1.2.1.2.2.1, .int .i64 a.2.1.2.1.2.2.2, .int .i64 a.2.1.2.2.1, .int .i64 a.2.1.2.2.2.1, .int .i64 a.2.1.2.2.2.2.1, .int .i64 a.2.1.2.2.2.2.2, a.2.2.1]
theorem D5 : F9 CD Ce := (F9.pair Fl.int.to (F9.pair N8.to F9.vsl))
theorem Ff : Et Try.prog 22 40 11 104 := Et.of D2 (by kernel_rfl) (by kernel_rfl) (by kernel_rfl) (by decide)
theorem HN : Ty Try.prog 38 false 1 := ⟨by kernel_rfl, by kernel_rfl⟩
noncomputable def DY (p0 : List (Int × (Int × (Int × Int × Int × Int) × (Int × Int × Int × Int)) × (List (Int × Int × Int)))) : Int → Option (Int ⊕ (Unit ⊕ Bool))
  | x1 => (if x1 < (p0.length : Int) then (ix p0 x1).bind fun x2 => (if 10 < (x2.2.2.length : Int) then some (.inr (.inr false)) else some (.inl (CJ (x1 + 1)))) else some (.inr (.inl ())))
noncomputable def FR (p0 : List (Int × (Int × (Int × Int × Int × Int) × (Int × Int × Int × Int)) × (List (Int × Int × Int)))) : Option Bool := Fu (Bi (DY p0) 0) fun _ => some (decide ((p0.length : Int) ≤ 20))
theorem Jz (Y : Nat → Prop) (w0 : World) (v1 : Value) (p0 : List (Int × (Int × (Int × Int × Int × Int) × (Int × Int × Int × Int)) × (List (Int × Int × Int)))) (r : Bool) (H : FR p0 = some r) (h_v1 : Sl w0 (NX []) A2 v1 p0) :
    Calls Try.prog 8 #[v1] w0 fun e w' => e = .returned (.bool r) ∧ Below w0.heap.size w0 w' := by
 refine enter Try.func8 Aa Try.ntmps8 Aa fun a F => ?_
 have W := Stw.start Y w0
 obtain ⟨v2, h1, h_v1⟩ := h_v1.ex Bd
 unfold FR at H
 refine Ak (Ae ?_)
 refine ls F W Aa (Ag F Aa).q fun a w F W => ?_
 refine Af (Ad ?_)
 obtain ⟨o1, G1, K1, L1⟩ := HM H
 refine AF (fun a w => some (Sum.inl ()) = some o1 ∧ Fr 20 [] [(0, v1), (2, .bool false)] a ∧ Stw ⟨Y, [], w0⟩ [] [] w) ?_ ?_
 ·
  have H := G1
  clear G1 K1
  refine Ak (Ae ?_)
  refine ls F W Aa (Ag F Aa).q fun a w F W => ?_
  refine Af (Ad (AC ?_))
  refine BA H (fun s a w => Fr 20 [] [(0, v1), (2, .bool false), (3, .int .i64 s)] a ∧ Stw ⟨Y, [], w0⟩ [] [] w) ⟨F.re ⟨rfl, Aa, Aa, trivial⟩, W⟩ fun s o a w H L2 hR => ?_
  obtain ⟨x1, rfl⟩ : ∃ x, x = s := ⟨s, rfl⟩
  obtain ⟨F, W⟩ := hR
  have F : Fr 20 [] [(0, v1), (2, .bool false), (3, .int .i64 x1)] a := F
  have W : Stw ⟨Y, [], w0⟩ [] [] w := W
  rw [DY] at H
  refine Ak (Ak (Ae ?_))
  iterate 2 refine ls F W Aa (Ah F Aa).q fun a w F W => ?_
  refine ls F W Aa (B6 (r := A2) (l := p0) D2 Aa F Aa (AU Bd h1 (Aq h_v1))).q fun a w F W => ?_
  refine ls F W Aa (BL F Aa Aa).q fun a w F W => ?_
  refine Af (Ad ?_)
  refine Az F Aa (fun hb => ?_) fun hb => ?_
  ·
   have H := AK (Ba hb) H
   rw [hb] at F
   clear hb
   refine Ax (Ad (Ak (AC (Ak (Ae ?_)))))
   iterate 2 refine ls F W Aa (Ah F Aa).q fun a w F W => ?_
   obtain ⟨x2, h2, H⟩ := Ao H
   obtain ⟨v3, h3, h4⟩ := Cv h1 h2
   have h5 : Ce v3 = [.int .i64 x2.1, .int .i64 x2.2.1.1, .int .i64 x2.2.1.2.1.1, .int .i64 x2.2.1.2.1.2.1, .int .i64 x2.2.1.2.1.2.2.1, .int .i64 x2.2.1.2.1.2.2.2, .int .i64 x2.2.1.2.2.1, .int .i64 x2.2.1.2.2.2.1, .int .i64 x2.2.1.2.2.2.2.1, .int .i64 x2.2.1.2.2.2.2.2, (v3.2.2.1)] := congrArg (fun q : Int × (Int × (Int × Int × Int × Int) × (Int × Int × Int × Int)) × (List (Int × Int × Int)) => ([.int .i64 q.1, .int .i64 q.2.1.1, .int .i64 q.2.1.2.1.1, .int .i64 q.2.1.2.1.2.1, .int .i64 q.2.1.2.1.2.2.1, .int .i64 q.2.1.2.1.2.2.2, .int .i64 q.2.1.2.2.1, .int .i64 q.2.1.2.2.2.1, .int .i64 q.2.1.2.2.2.2.1, .int .i64 q.2.1.2.2.2.2.2, (v3.2.2.1)] : List Value)) h4
   refine ls F W Aa (A1 (r := CD) Ff F Aa Aa (Aq h_v1) h3).q fun a w F W => ?_
   refine ls F W Aa (Al Cw Aa Aa Aa HN F Aa (DV v1 + (x1).toNat * 11 + 10) Aa).q fun a w F W => ?_
   refine ls F W Aa (AR (y := (v3.2.2.1)) (j := 10) (i := x1) (enc := Ce) F Aa Aa (Aq h_v1) h3 D5 HN (by rw [h5]; rfl)).q fun a w F W => ?_
   refine ls F W Aa (B6 (r := Bw) (l := x2.2.2) HD Aa F Aa (CI (Aq h_v1) h3 (Bh.snd (Bh.snd Bh.here)) (congrArg (fun q : Int × (Int × (Int × Int × Int × Int) × (Int × Int × Int × Int)) × (List (Int × Int × Int)) => q.2.2) h4))).q fun a w F W => ?_
   refine ls F W Aa (FO F Aa Aa).q fun a w F W => ?_
   refine Af (Ad ?_)
   refine Az F Aa (fun hb => ?_) fun hb => ?_
   ·
    have H := AK (Ba hb) H
    rw [hb] at F
    clear hb
    refine Ak (Ae ?_)
    refine ls F W Aa (Ag F Aa).q fun a w F W => ?_
    refine Af (Ad (Aw (AJ ?_)))
    iterate 2 refine AD ?_
    refine AJ (AD ?_)
    have H := L2 _ H
    have H := L1 _ H
    have H := AH H
    subst H
    refine AE (.inl Aa) F W Aa (Av F Aa) ?_
    exact ⟨rfl, W.done⟩
   have H := AL (Bb hb) H
   rw [hb] at F
   clear hb
   refine Ax (AS (Ad (Ae ?_)))
   refine ls F W Aa (Ah F Aa).q fun a w F W => ?_
   refine ls F W Aa (Cf F Aa Aa Aa).q fun a w F W => ?_
   refine ls F W Aa (Ag F Aa).q fun a w F W => ?_
   refine Af (Ad ?_)
   exact ⟨_, H, F.re ⟨rfl, Aa, Aa, trivial⟩, W⟩
  have H := AL (Bb hb) H
  rw [hb] at F
  clear hb
  refine Bz ?_
  iterate 2 refine B1 ?_
  refine Bx (Ad ?_)
  have H := L2 _ H
  exact ⟨H, F.re ⟨rfl, Aa, trivial⟩, W⟩
 rintro a w ⟨hj, F, W⟩
 have H := K1 _ hj
 clear hj G1 K1 L1
 refine Ak (Ae ?_)
 refine ls F W Aa (Ah F Aa).q fun a w F W => ?_
 refine ls F W Aa (B6 (r := A2) (l := p0) D2 Aa F Aa (AU Bd h1 (Aq h_v1))).q fun a w F W => ?_
 refine ls F W Aa (GY F Aa Aa).q fun a w F W => ?_
 refine ls F W Aa (Ag F Aa).q fun a w F W => ?_
 refine Af (Ad (Aw ?_))
 have H := AH H
 subst H
 refine AE (.inl Aa) F W Aa (Av F Aa) ?_
 exact ⟨rfl, W.done⟩
theorem CC : type_of% Try.underlying37 := Try.underlying37
theorem H8 : Has Try.prog 8 := ⟨fun args w => An Try.func8 rfl (by decide) args w⟩
theorem MV : (Try.prog.info? 37).bind (·.zero) = some (.agg #[.int .i64 0, .int .i64 0, .int .i64 0, .int .i64 0, .int .i64 0, .int .i64 0, .int .i64 0, .int .i64 0, .int .i64 0]) := by kernel_rfl
theorem NU : Bt Try.prog 37 [.int .i64 0, .int .i64 0, .int .i64 0, .int .i64 0, .int .i64 0, .int .i64 0, .int .i64 0, .int .i64 0, .int .i64 0] [(0, 1), (1, 4), (5, 4)] := ⟨⟨.agg #[.int .i64 0, .int .i64 0, .int .i64 0, .int .i64 0, .int .i64 0, .int .i64 0, .int .i64 0, .int .i64 0, .int .i64 0], by kernel_rfl, rfl⟩, ⟨_, CC, fun w => by kernel_rfl⟩⟩
theorem EA : Ty Try.prog 37 true 9 := ⟨by kernel_rfl, by kernel_rfl⟩
def Ac  : (Int × (Int × Int × Int × Int) × (Int × Int × Int × Int)) := ((-1), (0, 0, 0, 0), (0, 0, 0, 0))
theorem Hx (Y : Nat → Prop) (w0 : World)   (r : (Int × (Int × Int × Int × Int) × (Int × Int × Int × Int))) (H : Ac  = r)  :
    Calls Try.prog 28 #[] w0 fun e w' => e = .returned (.agg #[.int .i64 r.1, .int .i64 r.2.1.1, .int .i64 r.2.1.2.1, .int .i64 r.2.1.2.2.1, .int .i64 r.2.1.2.2.2, .int .i64 r.2.2.1, .int .i64 r.2.2.2.1, .int .i64 r.2.2.2.2.1, .int .i64 r.2.2.2.2.2]) ∧ Below w0.heap.size w0 w' := by
 refine enter Try.func28 Aa Try.ntmps28 Aa fun a F => ?_
 have W := Stw.start Y w0
 unfold Ac at H
 refine Ak (Ae ?_)
 refine B9 (cs := [.int .i64 0, .int .i64 0, .int .i64 0, .int .i64 0, .int .i64 0, .int .i64 0, .int .i64 0, .int .i64 0, .int .i64 0]) F W Aa MV Aa fun b1 a w F W => ?_
 refine Af (Ad (Ak (Ae ?_)))
 refine ls F W Aa (DA (v := Value.agg #[.int .i64 (-1), .int .i64 0, .int .i64 0, .int .i64 0, .int .i64 0, .int .i64 0, .int .i64 0, .int .i64 0, .int .i64 0]) NU F Aa Aa Aa).q fun a w F W => ?_
 refine Bq (vs := [.int .i64 (-1), .int .i64 0, .int .i64 0, .int .i64 0, .int .i64 0, .int .i64 0, .int .i64 0, .int .i64 0, .int .i64 0]) (M' := [(b1, [.int .i64 (-1), .int .i64 0, .int .i64 0, .int .i64 0, .int .i64 0, .int .i64 0, .int .i64 0, .int .i64 0, .int .i64 0])]) 0 F W Aa Aa Aa EA Aa Aa Aa Aa Aa fun w W => ?_
 refine Af (Ad (Aw ?_))
 subst H
 refine AE (.inl Aa) F W Aa (Er 0 F Aa Aa EA Aa) ?_
 exact ⟨rfl, W.done⟩
theorem F8 : type_of% Try.underlying42 := Try.underlying42
theorem Dd : type_of% Try.underlying61 := Try.underlying61
theorem Oi : Has Try.prog 28 := ⟨fun args w => An Try.func28 rfl (by decide) args w⟩
theorem Ob : Bt Try.prog 61 [.int .i64 0, .int .i64 0, .int .i64 0] [(0, 1), (1, 1), (2, 1)] := ⟨⟨.agg #[.int .i64 0, .int .i64 0, .int .i64 0], by kernel_rfl, rfl⟩, ⟨_, Dd, fun w => by kernel_rfl⟩⟩
theorem Nd : (Try.prog.info? 61).bind (·.zero) = some (.agg #[.int .i64 0, .int .i64 0, .int .i64 0]) := by kernel_rfl
def Po (a : Int × Int × Int) : List Value := [.int .i64 a.1, .int .i64 a.2.1, .int .i64 a.2.2]
theorem Kg : Fl Bw Po := (Fl.pair Fl.int (Fl.pair Fl.int Fl.int))
theorem JX : Et Try.prog 38 61 3 24 := Et.of HD (by kernel_rfl) (by kernel_rfl) (by kernel_rfl) (by decide)
theorem Om : Bt Try.prog 40 [.int .i64 0, .int .i64 0, .int .i64 0, .int .i64 0, .int .i64 0, .int .i64 0, .int .i64 0, .int .i64 0, .int .i64 0, .int .i64 0, .slice none 0 0] [(0, 1), (1, 9), (10, 1)] := ⟨⟨.agg #[.int .i64 0, .int .i64 0, .int .i64 0, .int .i64 0, .int .i64 0, .int .i64 0, .int .i64 0, .int .i64 0, .int .i64 0, .int .i64 0, .slice none 0 0], by kernel_rfl, rfl⟩, ⟨_, Cw, fun w => by kernel_rfl⟩⟩
theorem JQ : (Try.prog.info? 40).bind (·.zero) = some (.agg #[.int .i64 0, .int .i64 0, .int .i64 0, .int .i64 0, .int .i64 0, .int .i64 0, .int .i64 0, .int .i64 0, .int .i64 0, .int .i64 0, .slice none 0 0]) := by kernel_rfl
theorem CF : Ty Try.prog 40 true 11 := ⟨by kernel_rfl, by kernel_rfl⟩
theorem MO : Try.prog.follows .mixedOrders = true := by kernel_rfl
theorem Og : Bt Try.prog 42 [.int .i64 0, .int .i64 0, .int .i64 0, .int .i64 0, .int .i64 0, .int .i64 0, .int .i64 0, .int .i64 0, .int .i64 0, .int .i64 0, .int .i64 0, .slice none 0 0, .bool false] [(0, 1), (1, 11), (12, 1)] := ⟨⟨.agg #[.int .i64 0, .int .i64 0, .int .i64 0, .int .i64 0, .int .i64 0, .int .i64 0, .int .i64 0, .int .i64 0, .int .i64 0, .int .i64 0, .int .i64 0, .slice none 0 0, .bool false], by kernel_rfl, rfl⟩, ⟨_, F8, fun w => by kernel_rfl⟩⟩
noncomputable def Dr (p0 : Int) : Option Int := (if p0 = 0 then some true else (if p0 = 1 then some true else some (decide (p0 = 3)))).bind fun x1 => (if x1 = true then some 8 else (if p0 = 2 then some 4 else some 0))
theorem Iw (Y : Nat → Prop) (w0 : World)  (p0 : Int) (r : Int) (H : Dr p0 = some r)  :
    Calls Try.prog 83 #[.int .i64 p0] w0 fun e w' => e = .returned (.int .i64 r) ∧ Below w0.heap.size w0 w' := by
 refine enter Try.func83 Aa Try.ntmps83 Aa fun a F => ?_
 have W := Stw.start Y w0
 unfold Dr at H
 refine Ak (Ae ?_)
 refine ls F W Aa (Ag F Aa).q fun a w F W => ?_
 refine Af (Ad (Ak (Ak (Ae ?_))))
 refine ls F W Aa (Ah F Aa).q fun a w F W => ?_
 refine Af (Ad (AC ?_))
 obtain ⟨o1, G1, K1⟩ := Ao H
 refine AF (fun a w => ∃ x1 : Bool, some (x1) = some o1 ∧ Fr 10 [] [(2, .int .i64 0), (3, .int .i64 p0), (4, .bool x1)] a ∧ Stw ⟨Y, [], w0⟩ [] [] w) ?_ ?_
 ·
  have H := G1
  clear G1 K1
  refine Ak (Ae ?_)
  refine ls F W Aa (BM F Aa Aa).q fun a w F W => ?_
  refine ls F W Aa (Ag F Aa).q fun a w F W => ?_
  refine Af (Ad ?_)
  refine Az F Aa (fun hb => ?_) fun hb => ?_
  ·
   have H := AK (Ba hb) H
   rw [hb] at F
   clear hb
   refine Ax (Ad ?_)
   exact ⟨_, H, F.re ⟨rfl, Aa, Aa, trivial⟩, W⟩
  have H := AL (Bb hb) H
  rw [hb] at F
  clear hb
  refine Ak (Ae ?_)
  refine ls F W Aa (BM F Aa Aa).q fun a w F W => ?_
  refine ls F W Aa (Ag F Aa).q fun a w F W => ?_
  refine Af (Ad ?_)
  refine Az F Aa (fun hb => ?_) fun hb => ?_
  ·
   have H := AK (Ba hb) H
   rw [hb] at F
   clear hb
   refine Ax (Ad ?_)
   exact ⟨_, H, F.re ⟨rfl, Aa, Aa, trivial⟩, W⟩
  have H := AL (Bb hb) H
  rw [hb] at F
  clear hb
  refine Ae ?_
  refine ls F W Aa (BM F Aa Aa).q fun a w F W => ?_
  refine ls F W Aa (Ag F Aa).q fun a w F W => ?_
  refine Af (Ad ?_)
  exact ⟨_, H, F.re ⟨rfl, Aa, Aa, trivial⟩, W⟩
 rintro a w ⟨x1, hj, F, W⟩
 have hj := AH hj
 subst hj
 have H := K1
 clear G1 K1
 refine Az F Aa (fun hb => ?_) fun hb => ?_
 ·
  have H := AK hb H
  rw [hb] at F
  clear hb
  refine Ak (Ae ?_)
  refine ls F W Aa (Ag F Aa).q fun a w F W => ?_
  refine Af (Ad (Aw (AJ (AD ?_))))
  have H := AH H
  subst H
  refine AE (.inl Aa) F W Aa (Av F Aa) ?_
  exact ⟨rfl, W.done⟩
 have H := AL (by rw [hb]; decide) H
 rw [hb] at F
 clear hb
 refine Ak (Ae ?_)
 refine ls F W Aa (BM F Aa Aa).q fun a w F W => ?_
 refine ls F W Aa (Ag F Aa).q fun a w F W => ?_
 refine Af (Ad ?_)
 refine Az F Aa (fun hb => ?_) fun hb => ?_
 ·
  have H := AK (Ba hb) H
  rw [hb] at F
  clear hb
  refine Ak (Ae ?_)
  refine ls F W Aa (Ag F Aa).q fun a w F W => ?_
  refine Af (Ad (Aw (AJ (AD ?_))))
  have H := AH H
  subst H
  refine AE (.inl Aa) F W Aa (Av F Aa) ?_
  exact ⟨rfl, W.done⟩
 have H := AL (Bb hb) H
 rw [hb] at F
 clear hb
 refine Ax (AS (Ad (Ak (Ae ?_))))
 refine ls F W Aa (Ag F Aa).q fun a w F W => ?_
 refine Af (Ad (Aw ?_))
 have H := AH H
 subst H
 refine AE (.inl Aa) F W Aa (Av F Aa) ?_
 exact ⟨rfl, W.done⟩
theorem Pf : Has Try.prog 83 := ⟨fun args w => An Try.func83 rfl (by decide) args w⟩
noncomputable def Cs (p0 : Int) : Option Int := (Dr p0).bind fun x1 => (Nx (Mg .i64 1 x1) x1).bind fun x2 => some (CJ (x2 - 1))
theorem D6 (Y : Nat → Prop) (w0 : World)  (p0 : Int) (r : Int) (H : Cs p0 = some r)  :
    Calls Try.prog 73 #[.int .i64 p0] w0 fun e w' => e = .returned (.int .i64 r) ∧ Below w0.heap.size w0 w' := by
 refine enter Try.func73 Aa Try.ntmps73 Aa fun a F => ?_
 have W := Stw.start Y w0
 unfold Cs at H
 refine Ak (Ae ?_)
 refine ls F W Aa (Ag F Aa).q fun a w F W => ?_
 refine Af (Ad (Ak (Ae ?_)))
 refine ls F W Aa (Ah F Aa).q fun a w F W => ?_
 obtain ⟨x1, h1, H⟩ := Ao H
 refine ls F W Aa (AQ (v := Value.int .i64 x1) F Pf Aa (fun w W => Iw any w p0 _ h1)) fun a w F W => ?_
 obtain ⟨x2, h2, H⟩ := Ao H
 refine ls F W Aa (Ns (JJ h2).2 (Nc F Aa Aa (JJ h2).1)).q fun a w F W => ?_
 refine ls F W Aa (KZ F Aa Aa Aa).q fun a w F W => ?_
 refine ls F W Aa (Ag F Aa).q fun a w F W => ?_
 refine Af (Ad (Aw ?_))
 have H := AH H
 subst H
 refine AE (.inl Aa) F W Aa (Av F Aa) ?_
 exact ⟨rfl, W.done⟩
theorem N0 : type_of% Try.underlying23 := Try.underlying23
theorem Nb : Has Try.prog 73 := ⟨fun args w => An Try.func73 rfl (by decide) args w⟩
theorem Ha : Ty Try.prog 23 true 4 := ⟨by kernel_rfl, by kernel_rfl⟩
theorem EG : Ar Try.prog 23 4 3 1 := ⟨N0, by kernel_rfl⟩
theorem T3 : Ty Try.prog 3 false 1 := ⟨by kernel_rfl, by kernel_rfl⟩
noncomputable def Ga (p0 : Int) (p1 : Int) : Option (Int × (Int × Int × Int × Int) × (Int × Int × Int × Int)) := (if p0 < 0 then some true else (if 4 ≤ p0 then some true else (if p1 < 0 then some true else (Cs p0).bind fun x2 => some (decide (x2 < p1))))).bind fun x1 => (if x1 = true then some Ac else (ix ([Ac.2.1.1, Ac.2.1.2.1, Ac.2.1.2.2.1, Ac.2.1.2.2.2] : List Int) p0).bind fun x3 => (Cs p0).bind fun x4 => (ix ([Ac.2.2.1, Ac.2.2.2.1, Ac.2.2.2.2.1, Ac.2.2.2.2.2] : List Int) p0).bind fun x5 => some (Ac.1, ((if p0 = 0 then p1 else Ac.2.1.1), (if p0 = 1 then p1 else Ac.2.1.2.1), (if p0 = 2 then p1 else Ac.2.1.2.2.1), (if p0 = 3 then p1 else Ac.2.1.2.2.2)), ((if p0 = 0 then x4 else Ac.2.2.1), (if p0 = 1 then x4 else Ac.2.2.2.1), (if p0 = 2 then x4 else Ac.2.2.2.2.1), (if p0 = 3 then x4 else Ac.2.2.2.2.2))))
theorem JR (Y : Nat → Prop) (w0 : World)  (p0 : Int) (p1 : Int) (r : (Int × (Int × Int × Int × Int) × (Int × Int × Int × Int))) (H : Ga p0 p1 = some r)  :
    Calls Try.prog 53 #[.int .i64 p0, .int .i64 p1] w0 fun e w' => e = .returned (.agg #[.int .i64 r.1, .int .i64 r.2.1.1, .int .i64 r.2.1.2.1, .int .i64 r.2.1.2.2.1, .int .i64 r.2.1.2.2.2, .int .i64 r.2.2.1, .int .i64 r.2.2.2.1, .int .i64 r.2.2.2.2.1, .int .i64 r.2.2.2.2.2]) ∧ Below w0.heap.size w0 w' := by
 refine enter Try.func53 Aa Try.ntmps53 Aa fun a F => ?_
 have W := Stw.start Y w0
 unfold Ga at H
 refine Ak (Ae ?_)
 refine B9 (cs := [.int .i64 0, .int .i64 0, .int .i64 0, .int .i64 0, .int .i64 0, .int .i64 0, .int .i64 0, .int .i64 0, .int .i64 0]) F W Aa MV Aa fun b1 a w F W => ?_
 refine Af (Ad (Ak (Ae ?_)))
 refine ls F W Aa (AQ (v := Value.agg #[.int .i64 Ac.1, .int .i64 Ac.2.1.1, .int .i64 Ac.2.1.2.1, .int .i64 Ac.2.1.2.2.1, .int .i64 Ac.2.1.2.2.2, .int .i64 Ac.2.2.1, .int .i64 Ac.2.2.2.1, .int .i64 Ac.2.2.2.2.1, .int .i64 Ac.2.2.2.2.2]) F Oi Aa (fun w W => Hx any w _ Aa)) fun a w F W => ?_
 refine B9 (cs := [.int .i64 0, .int .i64 0, .int .i64 0, .int .i64 0, .int .i64 0, .int .i64 0, .int .i64 0, .int .i64 0, .int .i64 0]) F W Aa MV Aa fun b2 a w F W => ?_
 refine Bq (vs := [.int .i64 Ac.1, .int .i64 Ac.2.1.1, .int .i64 Ac.2.1.2.1, .int .i64 Ac.2.1.2.2.1, .int .i64 Ac.2.1.2.2.2, .int .i64 Ac.2.2.1, .int .i64 Ac.2.2.2.1, .int .i64 Ac.2.2.2.2.1, .int .i64 Ac.2.2.2.2.2]) (M' := [(b2, [.int .i64 Ac.1, .int .i64 Ac.2.1.1, .int .i64 Ac.2.1.2.1, .int .i64 Ac.2.1.2.2.1, .int .i64 Ac.2.1.2.2.2, .int .i64 Ac.2.2.1, .int .i64 Ac.2.2.2.1, .int .i64 Ac.2.2.2.2.1, .int .i64 Ac.2.2.2.2.2]), (b1, [.int .i64 0, .int .i64 0, .int .i64 0, .int .i64 0, .int .i64 0, .int .i64 0, .int .i64 0, .int .i64 0, .int .i64 0])]) 0 F W Aa Aa Aa EA Aa Aa Aa Aa Aa fun w W => ?_
 refine Af (Ad (Ak ?_))
 obtain ⟨o1, G1, K1⟩ := Ao H
 refine AF (fun a w => ∃ x1 : Bool, some (x1) = some o1 ∧ Fr 34 [] [(0, .int .i64 p0), (1, .int .i64 p1), (4, .pointer (some ⟨b1, 0, none⟩)), (5, .pointer (some ⟨b2, 0, none⟩)), (22, .bool x1)] a ∧ Stw ⟨Y, [], w0⟩ [(b2, [.int .i64 Ac.1, .int .i64 Ac.2.1.1, .int .i64 Ac.2.1.2.1, .int .i64 Ac.2.1.2.2.1, .int .i64 Ac.2.1.2.2.2, .int .i64 Ac.2.2.1, .int .i64 Ac.2.2.2.1, .int .i64 Ac.2.2.2.2.1, .int .i64 Ac.2.2.2.2.2]), (b1, [.int .i64 0, .int .i64 0, .int .i64 0, .int .i64 0, .int .i64 0, .int .i64 0, .int .i64 0, .int .i64 0, .int .i64 0])] [] w) ?_ ?_
 ·
  have H := G1
  clear G1 K1
  refine Ae ?_
  refine ls F W Aa (Ah F Aa).q fun a w F W => ?_
  refine ls F W Aa (BL F Aa Aa).q fun a w F W => ?_
  refine ls F W Aa (Ah F Aa).q fun a w F W => ?_
  rcases Bool.eq_false_or_eq_true (decide (p0 < 0)) with hb | hb
  ·
   have H := AK (Ba hb) H
   rw [hb] at F
   clear hb
   iterate 2 refine Cx F Aa Aa Aa Aa Aa Aa Aa fun a F => ?_
   refine ls F W Aa (Ay F Aa Aa Aa).q fun a w F W => ?_
   refine ls F W Aa (Ah F Aa).q fun a w F W => ?_
   iterate 2 refine Cx F Aa Aa Aa Aa Aa Aa Aa fun a F => ?_
   refine ls F W Aa (Ay F Aa Aa Aa).q fun a w F W => ?_
   refine ls F W Aa (Ah F Aa).q fun a w F W => ?_
   iterate 4 refine Cx F Aa Aa Aa Aa Aa Aa Aa fun a F => ?_
   refine ls F W Aa (Ay F Aa Aa Aa).q fun a w F W => ?_
   refine Af (Ad ?_)
   have W := W.frontM (i := 1) Aa Aa
   have W := W.frontM (i := 1) Aa Aa
   exact ⟨_, H, F.re ⟨rfl, Aa, Aa, Aa, Aa, trivial⟩, W⟩
  have H := AL (Bb hb) H
  rw [hb] at F
  clear hb
  refine AM F W (Aj F Aa Aa Aa Aa) Aa (Ap Aa) (Ah F Aa).q fun a w F W => ?_
  refine AM F W (Aj F Aa Aa Aa Aa) Aa (Ap Aa) (EF F Aa Aa).q fun a w F W => ?_
  refine ls F W Aa (Au F Aa Aa Aa).q fun a w F W => ?_
  refine ls F W Aa (Ah F Aa).q fun a w F W => ?_
  rcases Bool.eq_false_or_eq_true (decide (4 ≤ p0)) with hb | hb
  ·
   have H := AK (Ba hb) H
   rw [hb] at F
   clear hb
   iterate 2 refine Cx F Aa Aa Aa Aa Aa Aa Aa fun a F => ?_
   refine ls F W Aa (Ay F Aa Aa Aa).q fun a w F W => ?_
   refine ls F W Aa (Ah F Aa).q fun a w F W => ?_
   iterate 4 refine Cx F Aa Aa Aa Aa Aa Aa Aa fun a F => ?_
   refine ls F W Aa (Ay F Aa Aa Aa).q fun a w F W => ?_
   refine Af (Ad ?_)
   have W := W.frontM (i := 1) Aa Aa
   have W := W.frontM (i := 1) Aa Aa
   exact ⟨_, H, F.re ⟨rfl, Aa, Aa, Aa, Aa, trivial⟩, W⟩
  have H := AL (Bb hb) H
  rw [hb] at F
  clear hb
  refine AM F W (Aj F Aa Aa Aa Aa) Aa (Ap Aa) (Ah F Aa).q fun a w F W => ?_
  refine AM F W (Aj F Aa Aa Aa Aa) Aa (Ap Aa) (BL F Aa Aa).q fun a w F W => ?_
  refine ls F W Aa (Au F Aa Aa Aa).q fun a w F W => ?_
  refine ls F W Aa (Ah F Aa).q fun a w F W => ?_
  rcases Bool.eq_false_or_eq_true (decide (p1 < 0)) with hb | hb
  ·
   have H := AK (Ba hb) H
   rw [hb] at F
   clear hb
   iterate 4 refine Cx F Aa Aa Aa Aa Aa Aa Aa fun a F => ?_
   refine ls F W Aa (Ay F Aa Aa Aa).q fun a w F W => ?_
   refine Af (Ad ?_)
   have W := W.frontM (i := 1) Aa Aa
   have W := W.frontM (i := 1) Aa Aa
   exact ⟨_, H, F.re ⟨rfl, Aa, Aa, Aa, Aa, trivial⟩, W⟩
  have H := AL (Bb hb) H
  rw [hb] at F
  clear hb
  iterate 2 refine AM F W (Aj F Aa Aa Aa Aa) Aa (Ap Aa) (Ah F Aa).q fun a w F W => ?_
  refine F7 (Aj F Aa Aa Aa Aa) ?_
  obtain ⟨x2, h1, H⟩ := Ao H
  refine ls F W Aa (AQ (v := Value.int .i64 x2) F Nb Aa (fun w W => D6 any w p0 _ h1)) fun a w F W => ?_
  refine AM F W (Aj F Aa Aa Aa Aa) Aa (Ap Aa) (FO F Aa Aa).q fun a w F W => ?_
  refine ls F W Aa (Au F Aa Aa Aa).q fun a w F W => ?_
  refine Af (Ad ?_)
  have W := W.frontM (i := 1) Aa Aa
  have W := W.frontM (i := 1) Aa Aa
  exact ⟨_, H, F.re ⟨rfl, Aa, Aa, Aa, Aa, trivial⟩, W⟩
 rintro a w ⟨x1, hj, F, W⟩
 have hj := AH hj
 subst hj
 have H := K1
 clear G1 K1
 refine Az F Aa (fun hb => ?_) fun hb => ?_
 ·
  have H := AK hb H
  rw [hb] at F
  clear hb
  refine Ak (Ae ?_)
  refine ls F W Aa (As (v := Value.agg #[.int .i64 Ac.1, .int .i64 Ac.2.1.1, .int .i64 Ac.2.1.2.1, .int .i64 Ac.2.1.2.2.1, .int .i64 Ac.2.1.2.2.2, .int .i64 Ac.2.2.1, .int .i64 Ac.2.2.2.1, .int .i64 Ac.2.2.2.2.1, .int .i64 Ac.2.2.2.2.2]) 0 F Aa Aa EA Aa).q fun a w F W => ?_
  refine Bq (vs := [.int .i64 Ac.1, .int .i64 Ac.2.1.1, .int .i64 Ac.2.1.2.1, .int .i64 Ac.2.1.2.2.1, .int .i64 Ac.2.1.2.2.2, .int .i64 Ac.2.2.1, .int .i64 Ac.2.2.2.1, .int .i64 Ac.2.2.2.2.1, .int .i64 Ac.2.2.2.2.2]) (M' := [(b2, [.int .i64 Ac.1, .int .i64 Ac.2.1.1, .int .i64 Ac.2.1.2.1, .int .i64 Ac.2.1.2.2.1, .int .i64 Ac.2.1.2.2.2, .int .i64 Ac.2.2.1, .int .i64 Ac.2.2.2.1, .int .i64 Ac.2.2.2.2.1, .int .i64 Ac.2.2.2.2.2]), (b1, [.int .i64 Ac.1, .int .i64 Ac.2.1.1, .int .i64 Ac.2.1.2.1, .int .i64 Ac.2.1.2.2.1, .int .i64 Ac.2.1.2.2.2, .int .i64 Ac.2.2.1, .int .i64 Ac.2.2.2.1, .int .i64 Ac.2.2.2.2.1, .int .i64 Ac.2.2.2.2.2])]) 1 F W Aa Aa Aa EA Aa Aa Aa Aa Aa fun w W => ?_
  refine Af (Ad (Aw (AD ?_)))
  have H := AH H
  subst H
  refine AE (.inl Aa) F W Aa (Er 1 F Aa Aa EA Aa) ?_
  exact ⟨rfl, W.done⟩
 have H := AL (by rw [hb]; decide) H
 rw [hb] at F
 clear hb
 refine Ax (Ad (Ak ?_))
 refine FG [(true, 0), (true, 1), (true, 2), (true, 3), (true, 5), (true, 6), (true, 8), (false, 4), (false, 7), (true, 9), (false, 10)] (CN ⟨Y, [], w0⟩ [] []) (fun ch a d v w h => by cases d <;> exact h) MO (by kernel_rfl) W (fun w W => ⟨_, _, W, AB, AB⟩) fun w W => ?_
 iterate 4 refine CO (R := []) F Aa Aa (yC fun M Z hN hZ => Ah F Aa) Aa Aa fun a F => ?_
 refine CO (R := []) F Aa Aa (yC fun M Z hN hZ => Al CC Aa Aa Aa Ha F Aa 1 Aa) Aa Aa fun a F => ?_
 obtain ⟨x3, h2, H⟩ := Ao H
 refine CO (R := []) F Aa Aa (yC fun M Z hN hZ => Bp (1 + (p0).toNat * 1) EG F Aa Aa Aa h2 Aa) Aa Aa fun a F => ?_
 refine CO (R := []) F Aa Aa (yC fun M Z hN hZ => Al CC Aa Aa Aa Ha F Aa 5 Aa) Aa Aa fun a F => ?_
 refine Dt Aa ?_
 obtain ⟨x4, h3, H⟩ := Ao H
 refine ls F W Aa (AQ (v := Value.int .i64 x4) F Nb Aa (fun w W => D6 any w p0 _ h3)) fun a w F W => ?_
 refine Bn (N2 := []) (NZ2 := []) (N3 := []) (NZ3 := []) W Aa Aa AB AB ?_
 refine Dt Aa ?_
 refine DT (o := 1) (m := 4) (i := p0) (l := ([Ac.2.1.1, Ac.2.1.2.1, Ac.2.1.2.2.1, Ac.2.1.2.2.2] : List Int)) (x := x3) (cs := [.int .i64 Ac.1, .int .i64 Ac.2.1.1, .int .i64 Ac.2.1.2.1, .int .i64 Ac.2.1.2.2.1, .int .i64 Ac.2.1.2.2.2, .int .i64 Ac.2.2.1, .int .i64 Ac.2.2.2.1, .int .i64 Ac.2.2.2.2.1, .int .i64 Ac.2.2.2.2.2]) (cs' := [.int .i64 Ac.1, .int .i64 (if p0 = 0 then p1 else Ac.2.1.1), .int .i64 (if p0 = 1 then p1 else Ac.2.1.2.1), .int .i64 (if p0 = 2 then p1 else Ac.2.1.2.2.1), .int .i64 (if p0 = 3 then p1 else Ac.2.1.2.2.2), .int .i64 Ac.2.2.1, .int .i64 Ac.2.2.2.1, .int .i64 Ac.2.2.2.2.1, .int .i64 Ac.2.2.2.2.2]) 0 F W Aa Aa Aa T3 Aa Aa Aa Aa h2 (by intro k hk hn; rw [hk]; match k, hn with | 0, _ => rfl | 1, _ => rfl | 2, _ => rfl | 3, _ => rfl | (z + 4), h => exact absurd h (by omega)) fun w W => ?_
 have W : Stw ⟨Y, [], w0⟩ [(b2, [.int .i64 Ac.1, .int .i64 (if p0 = 0 then p1 else Ac.2.1.1), .int .i64 (if p0 = 1 then p1 else Ac.2.1.2.1), .int .i64 (if p0 = 2 then p1 else Ac.2.1.2.2.1), .int .i64 (if p0 = 3 then p1 else Ac.2.1.2.2.2), .int .i64 Ac.2.2.1, .int .i64 Ac.2.2.2.1, .int .i64 Ac.2.2.2.2.1, .int .i64 Ac.2.2.2.2.2]), (b1, [.int .i64 0, .int .i64 0, .int .i64 0, .int .i64 0, .int .i64 0, .int .i64 0, .int .i64 0, .int .i64 0, .int .i64 0])] [] w := W
 refine Bn (N2 := []) (NZ2 := []) (N3 := []) (NZ3 := []) W Aa Aa AB AB ?_
 obtain ⟨x5, h4, H⟩ := Ao H
 refine CO (R := []) F Aa Aa (yC fun M Z hN hZ => Bp (5 + (p0).toNat * 1) EG F Aa Aa Aa h4 Aa) Aa Aa fun a F => ?_
 refine Dt Aa ?_
 refine DT (o := 5) (m := 4) (i := p0) (l := ([Ac.2.2.1, Ac.2.2.2.1, Ac.2.2.2.2.1, Ac.2.2.2.2.2] : List Int)) (x := x5) (cs := [.int .i64 Ac.1, .int .i64 (if p0 = 0 then p1 else Ac.2.1.1), .int .i64 (if p0 = 1 then p1 else Ac.2.1.2.1), .int .i64 (if p0 = 2 then p1 else Ac.2.1.2.2.1), .int .i64 (if p0 = 3 then p1 else Ac.2.1.2.2.2), .int .i64 Ac.2.2.1, .int .i64 Ac.2.2.2.1, .int .i64 Ac.2.2.2.2.1, .int .i64 Ac.2.2.2.2.2]) (cs' := [.int .i64 Ac.1, .int .i64 (if p0 = 0 then p1 else Ac.2.1.1), .int .i64 (if p0 = 1 then p1 else Ac.2.1.2.1), .int .i64 (if p0 = 2 then p1 else Ac.2.1.2.2.1), .int .i64 (if p0 = 3 then p1 else Ac.2.1.2.2.2), .int .i64 (if p0 = 0 then x4 else Ac.2.2.1), .int .i64 (if p0 = 1 then x4 else Ac.2.2.2.1), .int .i64 (if p0 = 2 then x4 else Ac.2.2.2.2.1), .int .i64 (if p0 = 3 then x4 else Ac.2.2.2.2.2)]) 0 F W Aa Aa Aa T3 Aa Aa Aa Aa h4 (by intro k hk hn; rw [hk]; match k, hn with | 0, _ => rfl | 1, _ => rfl | 2, _ => rfl | 3, _ => rfl | (z + 4), h => exact absurd h (by omega)) fun w W => ?_
 have W : Stw ⟨Y, [], w0⟩ [(b2, [.int .i64 Ac.1, .int .i64 (if p0 = 0 then p1 else Ac.2.1.1), .int .i64 (if p0 = 1 then p1 else Ac.2.1.2.1), .int .i64 (if p0 = 2 then p1 else Ac.2.1.2.2.1), .int .i64 (if p0 = 3 then p1 else Ac.2.1.2.2.2), .int .i64 (if p0 = 0 then x4 else Ac.2.2.1), .int .i64 (if p0 = 1 then x4 else Ac.2.2.2.1), .int .i64 (if p0 = 2 then x4 else Ac.2.2.2.2.1), .int .i64 (if p0 = 3 then x4 else Ac.2.2.2.2.2)]), (b1, [.int .i64 0, .int .i64 0, .int .i64 0, .int .i64 0, .int .i64 0, .int .i64 0, .int .i64 0, .int .i64 0, .int .i64 0])] [] w := W
 refine Bn (N2 := []) (NZ2 := []) (N3 := []) (NZ3 := []) W Aa Aa AB AB ?_
 refine Gt (Ad (Ak (Ae ?_)))
 refine ls F W Aa (As (v := Value.agg #[.int .i64 Ac.1, .int .i64 (if p0 = 0 then p1 else Ac.2.1.1), .int .i64 (if p0 = 1 then p1 else Ac.2.1.2.1), .int .i64 (if p0 = 2 then p1 else Ac.2.1.2.2.1), .int .i64 (if p0 = 3 then p1 else Ac.2.1.2.2.2), .int .i64 (if p0 = 0 then x4 else Ac.2.2.1), .int .i64 (if p0 = 1 then x4 else Ac.2.2.2.1), .int .i64 (if p0 = 2 then x4 else Ac.2.2.2.2.1), .int .i64 (if p0 = 3 then x4 else Ac.2.2.2.2.2)]) 0 F Aa Aa EA Aa).q fun a w F W => ?_
 refine Bq (vs := [.int .i64 Ac.1, .int .i64 (if p0 = 0 then p1 else Ac.2.1.1), .int .i64 (if p0 = 1 then p1 else Ac.2.1.2.1), .int .i64 (if p0 = 2 then p1 else Ac.2.1.2.2.1), .int .i64 (if p0 = 3 then p1 else Ac.2.1.2.2.2), .int .i64 (if p0 = 0 then x4 else Ac.2.2.1), .int .i64 (if p0 = 1 then x4 else Ac.2.2.2.1), .int .i64 (if p0 = 2 then x4 else Ac.2.2.2.2.1), .int .i64 (if p0 = 3 then x4 else Ac.2.2.2.2.2)]) (M' := [(b2, [.int .i64 Ac.1, .int .i64 (if p0 = 0 then p1 else Ac.2.1.1), .int .i64 (if p0 = 1 then p1 else Ac.2.1.2.1), .int .i64 (if p0 = 2 then p1 else Ac.2.1.2.2.1), .int .i64 (if p0 = 3 then p1 else Ac.2.1.2.2.2), .int .i64 (if p0 = 0 then x4 else Ac.2.2.1), .int .i64 (if p0 = 1 then x4 else Ac.2.2.2.1), .int .i64 (if p0 = 2 then x4 else Ac.2.2.2.2.1), .int .i64 (if p0 = 3 then x4 else Ac.2.2.2.2.2)]), (b1, [.int .i64 Ac.1, .int .i64 (if p0 = 0 then p1 else Ac.2.1.1), .int .i64 (if p0 = 1 then p1 else Ac.2.1.2.1), .int .i64 (if p0 = 2 then p1 else Ac.2.1.2.2.1), .int .i64 (if p0 = 3 then p1 else Ac.2.1.2.2.2), .int .i64 (if p0 = 0 then x4 else Ac.2.2.1), .int .i64 (if p0 = 1 then x4 else Ac.2.2.2.1), .int .i64 (if p0 = 2 then x4 else Ac.2.2.2.2.1), .int .i64 (if p0 = 3 then x4 else Ac.2.2.2.2.2)])]) 1 F W Aa Aa Aa EA Aa Aa Aa Aa Aa fun w W => ?_
 refine Af (Ad (Aw ?_))
 have H := AH H
 subst H
 refine AE (.inl Aa) F W Aa (Er 1 F Aa Aa EA Aa) ?_
 exact ⟨rfl, W.done⟩
theorem Pd : Has Try.prog 53 := ⟨fun args w => An Try.func53 rfl (by decide) args w⟩
noncomputable def E3 (p0 : Int) (p1 : Int) (p2 : Int) (p3 : Int) : Option (Int × (Int × (Int × Int × Int × Int) × (Int × Int × Int × Int)) × (List (Int × Int × Int))) := (Ga p0 p1).bind fun x1 => some (p2, x1, ([(2, 0, p3)] : List (Int × Int × Int)))
theorem I2 (Y : Nat → Prop) (w0 : World)  (p0 : Int) (p1 : Int) (p2 : Int) (p3 : Int) (r : (Int × (Int × (Int × Int × Int × Int) × (Int × Int × Int × Int)) × (List (Int × Int × Int)))) (H : E3 p0 p1 p2 p3 = some r)  :
    Calls Try.prog 29 #[.int .i64 p0, .int .i64 p1, .int .i64 p2, .int .i64 p3] w0 fun e w' => ∃ x : Value, e = .returned (.agg #[.int .i64 r.1, .int .i64 r.2.1.1, .int .i64 r.2.1.2.1.1, .int .i64 r.2.1.2.1.2.1, .int .i64 r.2.1.2.1.2.2.1, .int .i64 r.2.1.2.1.2.2.2, .int .i64 r.2.1.2.2.1, .int .i64 r.2.1.2.2.2.1, .int .i64 r.2.1.2.2.2.2.1, .int .i64 r.2.1.2.2.2.2.2, x]) ∧ Stw ⟨Y, [], w0⟩ [] [row (x) 61 Bw r.2.2] w' := by
 refine enter Try.func29 Aa Try.ntmps29 Aa fun a F => ?_
 have W := Stw.start Y w0
 unfold E3 at H
 refine Ak (Ae ?_)
 refine B9 (cs := [.int .i64 0, .int .i64 0, .int .i64 0, .int .i64 0, .int .i64 0, .int .i64 0, .int .i64 0, .int .i64 0, .int .i64 0, .int .i64 0, .slice none 0 0]) F W Aa JQ Aa fun b1 a w F W => ?_
 refine Af (Ad (Ak (Ae ?_)))
 iterate 3 refine ls F W Aa (Ah F Aa).q fun a w F W => ?_
 obtain ⟨x1, h1, H⟩ := Ao H
 refine ls F W Aa (AQ (v := Value.agg #[.int .i64 x1.1, .int .i64 x1.2.1.1, .int .i64 x1.2.1.2.1, .int .i64 x1.2.1.2.2.1, .int .i64 x1.2.1.2.2.2, .int .i64 x1.2.2.1, .int .i64 x1.2.2.2.1, .int .i64 x1.2.2.2.2.1, .int .i64 x1.2.2.2.2.2]) F Pd Aa (fun w W => JR any w p0 p1 _ h1)) fun a w F W => ?_
 refine ls F W Aa (Ah F Aa).q fun a w F W => ?_
 refine ls F W Aa (DA (v := Value.agg #[.int .i64 2, .int .i64 0, .int .i64 p3]) Ob F Aa Aa Aa).q fun a w F W => ?_
 refine Ii (z := Value.agg #[.int .i64 0, .int .i64 0, .int .i64 0]) (cs := [.int .i64 2, .int .i64 0, .int .i64 p3]) Bw ([(2, 0, p3)] : List (Int × Int × Int)) F W Aa JX Nd Aa Aa Aa Aa Aa Aa (Kg.repL _ _ ([(2, 0, p3)] : List (Int × Int × Int))) fun v1 a w F W => ?_
 refine ls F W Aa (DA (v := Value.agg #[.int .i64 p2, .int .i64 x1.1, .int .i64 x1.2.1.1, .int .i64 x1.2.1.2.1, .int .i64 x1.2.1.2.2.1, .int .i64 x1.2.1.2.2.2, .int .i64 x1.2.2.1, .int .i64 x1.2.2.2.1, .int .i64 x1.2.2.2.2.1, .int .i64 x1.2.2.2.2.2, v1]) Om F Aa (Cp Aa Aa Aa (Cp Aa Aa Aa (Cp Aa (FM (W.one (k := 0) Aa)) Aa FB))) Aa).q fun a w F W => ?_
 refine Bq (vs := [.int .i64 p2, .int .i64 x1.1, .int .i64 x1.2.1.1, .int .i64 x1.2.1.2.1, .int .i64 x1.2.1.2.2.1, .int .i64 x1.2.1.2.2.2, .int .i64 x1.2.2.1, .int .i64 x1.2.2.2.1, .int .i64 x1.2.2.2.2.1, .int .i64 x1.2.2.2.2.2, v1]) (M' := [(b1, [.int .i64 p2, .int .i64 x1.1, .int .i64 x1.2.1.1, .int .i64 x1.2.1.2.1, .int .i64 x1.2.1.2.2.1, .int .i64 x1.2.1.2.2.2, .int .i64 x1.2.2.1, .int .i64 x1.2.2.2.1, .int .i64 x1.2.2.2.2.1, .int .i64 x1.2.2.2.2.2, v1])]) 0 F W Aa Aa Aa CF Aa Aa Aa (Am Aa (Am Aa (Am Aa (Am Aa (Am Aa (Am Aa (Am Aa (Am Aa (Am Aa (Am Aa (Am (W.one (k := 0) Aa) Cz))))))))))) Aa fun w W => ?_
 refine Af (Ad (Aw ?_))
 have H := AH H
 subst H
 refine AE (.inl Aa) F W Aa (Er 0 F Aa Aa CF Aa) ?_
 have W := W.sub (M' := []) (Z' := [row v1 61 Bw ([(2, 0, p3)] : List (Int × Int × Int))]) (List.nil_sublist _) (List.Sublist.refl _)
 exact ⟨(v1), Aa, W⟩
theorem M8 : type_of% Try.underlying35 := Try.underlying35
theorem Pn : Has Try.prog 29 := ⟨fun args w => An Try.func29 rfl (by decide) args w⟩
theorem Of : (Try.prog.info? 42).bind (·.zero) = some (.agg #[.int .i64 0, .int .i64 0, .int .i64 0, .int .i64 0, .int .i64 0, .int .i64 0, .int .i64 0, .int .i64 0, .int .i64 0, .int .i64 0, .int .i64 0, .slice none 0 0, .bool false]) := by kernel_rfl
abbrev Mh : Rp (Int × (Int × (Int × (Int × Int × Int × Int) × (Int × Int × Int × Int)) × (List (Int × Int × Int))) × Bool) := (Rp.pair (Rp.int .i64) (Rp.pair A2 Rp.bool))
theorem Ot : Et Try.prog 35 42 13 120 := Et.of M8 (by kernel_rfl) (by kernel_rfl) (by kernel_rfl) (by decide)
abbrev MQ : Rp (Int × (Int × (Int × (Int × Int × Int × Int) × (Int × Int × Int × Int)) × (Value × List (Int × Int × Int))) × Bool) := (Rp.pair (Rp.int .i64) (Rp.pair CD Rp.bool))
abbrev NI (p : Int × (Int × (Int × (Int × Int × Int × Int) × (Int × Int × Int × Int)) × (Value × List (Int × Int × Int))) × Bool) : Int × (Int × (Int × (Int × Int × Int × Int) × (Int × Int × Int × Int)) × (List (Int × Int × Int))) × Bool := (p.1, (p.2.1.1, p.2.1.2.1, p.2.1.2.2.2), p.2.2)
theorem Mo : Ex Mh MQ NI := (Ex.pair Ex.rfl' (Ex.pair (Ex.pair Ex.rfl' (Ex.pair Ex.rfl' Ex.sliceF)) Ex.rfl'))
noncomputable def BH (p0 : List (Int × Int × Int)) : Option (List (Int × Int × Int)) := (JK ([] : List (Int × Int × Int)) p0).bind fun x1 => some x1
theorem Ek (Y : Nat → Prop) (w0 : World) (v1 : Value) (p0 : List (Int × Int × Int)) (r : (List (Int × Int × Int))) (H : BH p0 = some r) (s_v1 : Sl w0 Y Bw v1 p0) :
    Calls Try.prog 78 #[v1] w0 fun e w' => ∃ x : Value, e = .returned (x) ∧ Stw ⟨Y, [], w0⟩ [] [row (x) 61 Bw r] w' := by
 refine enter Try.func78 Aa Try.ntmps78 Aa fun a F => ?_
 have W := Stw.start Y w0
 have h_v1 := W.nx s_v1
 unfold BH at H
 refine Ak (Ae ?_)
 refine ls F W Aa (Ag F Aa).q fun a w F W => ?_
 refine Af (Ad (Ak (Ak (Ae ?_))))
 refine ls F W Aa (Ah F Aa).q fun a w F W => ?_
 refine ls F W Aa (KR (r := Bw) HD F Aa (Aq h_v1)).q fun a w F W => ?_
 refine Af (Ad ?_)
 rcases KL (Aq h_v1) W with ⟨hb, hl⟩ | hb
 ·
  rw [hl] at H
  change some ([] : List (Int × Int × Int)) = _ at H
  rw [hb] at F
  refine LH F Aa ?_
  refine Ak (Ae ?_)
  refine ls F W Aa (Ag F Aa).q fun a w F W => ?_
  refine Af (Ad (Aw (AD ?_)))
  have H := AH H
  subst H
  refine AE (.inl Aa) F W Aa (Av F Aa) ?_
  have W := W.nilRow 61 Bw
  exact ⟨(Value.slice none 0 0), Aa, W⟩
 rw [hb] at F
 refine Lm F Aa ?_
 refine Ax (Ad (Ak (Ae ?_)))
 refine Ii (z := Value.agg #[.int .i64 0, .int .i64 0, .int .i64 0]) (cs := []) Bw ([] : List (Int × Int × Int)) F W Aa JX Nd Aa Aa Aa Aa Aa Aa (Kg.repL _ _ ([] : List (Int × Int × Int))) fun v2 a w F W => ?_
 refine ls F W Aa (Ah F Aa).q fun a w F W => ?_
 obtain ⟨x1, h1, H⟩ := Ao H
 refine In (r := Bw) (i := 0) F W Aa JX Aa Aa Aa Aa (F3 W s_v1) h1 Aa fun v3 a w F W => ?_
 have W : Stw ⟨Y, [], w0⟩ [] [row v3 61 Bw x1] w := W
 refine ls F W Aa (Ag F Aa).q fun a w F W => ?_
 refine Af (Ad (Aw ?_))
 have H := AH H
 subst H
 refine AE (.inl Aa) F W Aa (Av F Aa) ?_
 exact ⟨(v3), Aa, W⟩
theorem OO : Has Try.prog 78 := ⟨fun args w => An Try.func78 rfl (by decide) args w⟩
noncomputable def B7 (p0 : Int × (Int × (Int × Int × Int × Int) × (Int × Int × Int × Int)) × (List (Int × Int × Int))) : Option (Int × (Int × (Int × Int × Int × Int) × (Int × Int × Int × Int)) × (List (Int × Int × Int))) := (BH p0.2.2).bind fun x1 => some (p0.1, p0.2.1, x1)
theorem C0 (Y : Nat → Prop) (w0 : World) (v1 : Value) (p0 : Int × (Int × (Int × Int × Int × Int) × (Int × Int × Int × Int)) × (List (Int × Int × Int))) (r : (Int × (Int × (Int × Int × Int × Int) × (Int × Int × Int × Int)) × (List (Int × Int × Int)))) (H : B7 p0 = some r) (s_v1 : Sl w0 Y Bw v1 p0.2.2) :
    Calls Try.prog 59 #[.agg #[.int .i64 p0.1, .int .i64 p0.2.1.1, .int .i64 p0.2.1.2.1.1, .int .i64 p0.2.1.2.1.2.1, .int .i64 p0.2.1.2.1.2.2.1, .int .i64 p0.2.1.2.1.2.2.2, .int .i64 p0.2.1.2.2.1, .int .i64 p0.2.1.2.2.2.1, .int .i64 p0.2.1.2.2.2.2.1, .int .i64 p0.2.1.2.2.2.2.2, v1]] w0 fun e w' => ∃ x : Value, e = .returned (.agg #[.int .i64 r.1, .int .i64 r.2.1.1, .int .i64 r.2.1.2.1.1, .int .i64 r.2.1.2.1.2.1, .int .i64 r.2.1.2.1.2.2.1, .int .i64 r.2.1.2.1.2.2.2, .int .i64 r.2.1.2.2.1, .int .i64 r.2.1.2.2.2.1, .int .i64 r.2.1.2.2.2.2.1, .int .i64 r.2.1.2.2.2.2.2, x]) ∧ Stw ⟨Y, [], w0⟩ [] [row (x) 61 Bw r.2.2] w' := by
 refine enter Try.func59 Aa Try.ntmps59 Aa fun a F => ?_
 have W := Stw.start Y w0
 have h_v1 := W.nx s_v1
 unfold B7 at H
 refine Ak (Ae ?_)
 refine BU (cs := [.int .i64 p0.1, .int .i64 p0.2.1.1, .int .i64 p0.2.1.2.1.1, .int .i64 p0.2.1.2.1.2.1, .int .i64 p0.2.1.2.1.2.2.1, .int .i64 p0.2.1.2.1.2.2.2, .int .i64 p0.2.1.2.2.1, .int .i64 p0.2.1.2.2.2.1, .int .i64 p0.2.1.2.2.2.2.1, .int .i64 p0.2.1.2.2.2.2.2, v1]) F W Aa Aa Aa fun b1 a w F W => ?_
 refine B9 (cs := [.int .i64 0, .int .i64 0, .int .i64 0, .int .i64 0, .int .i64 0, .int .i64 0, .int .i64 0, .int .i64 0, .int .i64 0, .int .i64 0, .slice none 0 0]) F W Aa JQ Aa fun b2 a w F W => ?_
 refine Af (Ad (Ak (Ae ?_)))
 refine ls F W Aa (Al Cw Aa Aa Aa HN F Aa 10 Aa).q fun a w F W => ?_
 refine ls F W Aa (As (v := v1) 1 F Aa Aa HN Aa).q fun a w F W => ?_
 obtain ⟨x1, h1, H⟩ := Ao H
 refine BE (Ml := []) (Zl := []) (M := [(b2, [.int .i64 0, .int .i64 0, .int .i64 0, .int .i64 0, .int .i64 0, .int .i64 0, .int .i64 0, .int .i64 0, .int .i64 0, .int .i64 0, .slice none 0 0]), (b1, [.int .i64 p0.1, .int .i64 p0.2.1.1, .int .i64 p0.2.1.2.1.1, .int .i64 p0.2.1.2.1.2.1, .int .i64 p0.2.1.2.1.2.2.1, .int .i64 p0.2.1.2.1.2.2.2, .int .i64 p0.2.1.2.2.1, .int .i64 p0.2.1.2.2.2.1, .int .i64 p0.2.1.2.2.2.2.1, .int .i64 p0.2.1.2.2.2.2.2, v1])]) (Z := []) (β := Value) (rv := fun x => x) (MM := fun x => []) (ZZ := fun x => [row x 61 Bw x1]) F W OO Aa Aa (fun hL => Ek _ w (v1) p0.2.2 _ h1 (W.old s_v1)) fun x a w F W => ?_
 obtain ⟨v2, rfl⟩ : ∃ y, y = x := ⟨x, rfl⟩
 have W : Stw ⟨Y, [], w0⟩ [(b2, [.int .i64 0, .int .i64 0, .int .i64 0, .int .i64 0, .int .i64 0, .int .i64 0, .int .i64 0, .int .i64 0, .int .i64 0, .int .i64 0, .slice none 0 0]), (b1, [.int .i64 p0.1, .int .i64 p0.2.1.1, .int .i64 p0.2.1.2.1.1, .int .i64 p0.2.1.2.1.2.1, .int .i64 p0.2.1.2.1.2.2.1, .int .i64 p0.2.1.2.1.2.2.2, .int .i64 p0.2.1.2.2.1, .int .i64 p0.2.1.2.2.2.1, .int .i64 p0.2.1.2.2.2.2.1, .int .i64 p0.2.1.2.2.2.2.2, v1])] [row v2 61 Bw x1] w := W
 refine ls F W Aa (Al Cw Aa Aa Aa HN F Aa 10 Aa).q fun a w F W => ?_
 refine Lp (M' := [(b2, [.int .i64 0, .int .i64 0, .int .i64 0, .int .i64 0, .int .i64 0, .int .i64 0, .int .i64 0, .int .i64 0, .int .i64 0, .int .i64 0, .slice none 0 0]), (b1, [.int .i64 p0.1, .int .i64 p0.2.1.1, .int .i64 p0.2.1.2.1.1, .int .i64 p0.2.1.2.1.2.1, .int .i64 p0.2.1.2.1.2.2.1, .int .i64 p0.2.1.2.1.2.2.2, .int .i64 p0.2.1.2.2.1, .int .i64 p0.2.1.2.2.2.1, .int .i64 p0.2.1.2.2.2.2.1, .int .i64 p0.2.1.2.2.2.2.2, v2])]) 1 F W Aa Aa Aa HN (W.one (k := 0) Aa) Aa Aa fun w W => ?_
 refine Af (Ad (Ak (Ae ?_)))
 refine ls F W Aa (As (v := Value.agg #[.int .i64 p0.1, .int .i64 p0.2.1.1, .int .i64 p0.2.1.2.1.1, .int .i64 p0.2.1.2.1.2.1, .int .i64 p0.2.1.2.1.2.2.1, .int .i64 p0.2.1.2.1.2.2.2, .int .i64 p0.2.1.2.2.1, .int .i64 p0.2.1.2.2.2.1, .int .i64 p0.2.1.2.2.2.2.1, .int .i64 p0.2.1.2.2.2.2.2, v2]) 1 F Aa Aa CF Aa).q fun a w F W => ?_
 refine Bq (vs := [.int .i64 p0.1, .int .i64 p0.2.1.1, .int .i64 p0.2.1.2.1.1, .int .i64 p0.2.1.2.1.2.1, .int .i64 p0.2.1.2.1.2.2.1, .int .i64 p0.2.1.2.1.2.2.2, .int .i64 p0.2.1.2.2.1, .int .i64 p0.2.1.2.2.2.1, .int .i64 p0.2.1.2.2.2.2.1, .int .i64 p0.2.1.2.2.2.2.2, v2]) (M' := [(b2, [.int .i64 p0.1, .int .i64 p0.2.1.1, .int .i64 p0.2.1.2.1.1, .int .i64 p0.2.1.2.1.2.1, .int .i64 p0.2.1.2.1.2.2.1, .int .i64 p0.2.1.2.1.2.2.2, .int .i64 p0.2.1.2.2.1, .int .i64 p0.2.1.2.2.2.1, .int .i64 p0.2.1.2.2.2.2.1, .int .i64 p0.2.1.2.2.2.2.2, v2]), (b1, [.int .i64 p0.1, .int .i64 p0.2.1.1, .int .i64 p0.2.1.2.1.1, .int .i64 p0.2.1.2.1.2.1, .int .i64 p0.2.1.2.1.2.2.1, .int .i64 p0.2.1.2.1.2.2.2, .int .i64 p0.2.1.2.2.1, .int .i64 p0.2.1.2.2.2.1, .int .i64 p0.2.1.2.2.2.2.1, .int .i64 p0.2.1.2.2.2.2.2, v2])]) 0 F W Aa Aa Aa CF Aa Aa Aa (Am Aa (Am Aa (Am Aa (Am Aa (Am Aa (Am Aa (Am Aa (Am Aa (Am Aa (Am Aa (Am (W.one (k := 0) Aa) Cz))))))))))) Aa fun w W => ?_
 refine Af (Ad (Aw ?_))
 have H := AH H
 subst H
 refine AE (.inl Aa) F W Aa (Er 0 F Aa Aa CF Aa) ?_
 have W := W.sub (M' := []) (Z' := [row v2 61 Bw x1]) (List.nil_sublist _) (List.Sublist.refl _)
 exact ⟨(v2), Aa, W⟩
theorem NA : Has Try.prog 59 := ⟨fun args w => An Try.func59 rfl (by decide) args w⟩
noncomputable def DJ (p0 : List (Int × (Int × (Int × Int × Int × Int) × (Int × Int × Int × Int)) × (List (Int × Int × Int)))) (x1 : List (Int × (Int × (Int × Int × Int × Int) × (Int × Int × Int × Int)) × (List (Int × Int × Int)))) : ((List (Int × (Int × (Int × Int × Int × Int) × (Int × Int × Int × Int)) × (List (Int × Int × Int)))) × Int) → Option (((List (Int × (Int × (Int × Int × Int × Int) × (Int × Int × Int × Int)) × (List (Int × Int × Int)))) × Int) ⊕ (List (Int × (Int × (Int × Int × Int × Int) × (Int × Int × Int × Int)) × (List (Int × Int × Int)))))
  | (x3, x4) => (if x4 < ((Hy x1 0 (min p0.length x1.length) p0).length : Int) then (ix x3 x4).bind fun x5 => (B7 x5).bind fun x6 => (ix x3 x4).bind fun x7 => some (.inl ((DI x3 x4 x6), CJ (x4 + 1))) else some (.inr x3))
noncomputable def CR (p0 : List (Int × (Int × (Int × Int × Int × Int) × (Int × Int × Int × Int)) × (List (Int × Int × Int)))) : Option (List (Int × (Int × (Int × Int × Int × Int) × (Int × Int × Int × Int)) × (List (Int × Int × Int)))) := (mk (p0.length : Int) ((0, (0, (0, 0, 0, 0), (0, 0, 0, 0)), []) : Int × (Int × (Int × Int × Int × Int) × (Int × Int × Int × Int)) × (List (Int × Int × Int)))).bind fun x1 => (Bi (DJ p0 x1) (Hy x1 0 (min p0.length x1.length) p0, 0)).bind fun x2 => some x2
theorem E2 (Y : Nat → Prop) (w0 : World) (v1 : Value) (p0 : List (Int × (Int × (Int × Int × Int × Int) × (Int × Int × Int × Int)) × (List (Int × Int × Int)))) (r : (List (Int × (Int × (Int × Int × Int × Int) × (Int × Int × Int × Int)) × (List (Int × Int × Int))))) (H : CR p0 = some r) (s_v1 : Sl w0 Y A2 v1 p0) :
    Calls Try.prog 40 #[v1] w0 fun e w' => ∃ x : {x : Value // HC x (((p0.length : Int)).toNat)}, e = .returned (x.1) ∧ Stw ⟨Y, [], w0⟩ [] [row (x.1) 40 A2 r] w' := by
 refine enter Try.func40 Aa Try.ntmps40 Aa fun a F => ?_
 have W := Stw.start Y w0
 obtain ⟨v2, h1, s_v1⟩ := s_v1.ex Bd
 have h_v1 := W.nx s_v1
 unfold CR at H
 refine Ak (Ae ?_)
 refine ls F W Aa (Ag F Aa).q fun a w F W => ?_
 refine Af (Ad (Ak (Ae ?_)))
 refine ls F W Aa (Ah F Aa).q fun a w F W => ?_
 refine ls F W Aa (B6 (r := A2) (l := p0) D2 Aa F Aa (AU Bd h1 (Aq h_v1))).q fun a w F W => ?_
 obtain ⟨x1, h2, H⟩ := Ao H
 refine LZ (r := A2) ((0, (0, (0, 0, 0, 0), (0, 0, 0, 0)), []) : Int × (Int × (Int × Int × Int × Int) × (Int × Int × Int × Int)) × (List (Int × Int × Int))) F W Aa Ff JQ Aa Aa (fun w A => ⟨[Value.int .i64 0], [Value.int .i64 0, Value.int .i64 0, Value.int .i64 0, Value.int .i64 0, Value.int .i64 0, Value.int .i64 0, Value.int .i64 0, Value.int .i64 0, Value.int .i64 0, Value.slice none 0 0], Aa, Aa, ⟨[Value.int .i64 0, Value.int .i64 0, Value.int .i64 0, Value.int .i64 0, Value.int .i64 0, Value.int .i64 0, Value.int .i64 0, Value.int .i64 0, Value.int .i64 0], [Value.slice none 0 0], Aa, ⟨[Value.int .i64 0], [Value.int .i64 0, Value.int .i64 0, Value.int .i64 0, Value.int .i64 0, Value.int .i64 0, Value.int .i64 0, Value.int .i64 0, Value.int .i64 0], Aa, Aa, ⟨[Value.int .i64 0, Value.int .i64 0, Value.int .i64 0, Value.int .i64 0], [Value.int .i64 0, Value.int .i64 0, Value.int .i64 0, Value.int .i64 0], Aa, ⟨[Value.int .i64 0], [Value.int .i64 0, Value.int .i64 0, Value.int .i64 0], Aa, Aa, ⟨[Value.int .i64 0], [Value.int .i64 0, Value.int .i64 0], Aa, Aa, ⟨[Value.int .i64 0], [Value.int .i64 0], Aa, Aa, Aa⟩⟩⟩, ⟨[Value.int .i64 0], [Value.int .i64 0, Value.int .i64 0, Value.int .i64 0], Aa, Aa, ⟨[Value.int .i64 0], [Value.int .i64 0, Value.int .i64 0], Aa, Aa, ⟨[Value.int .i64 0], [Value.int .i64 0], Aa, Aa, Aa⟩⟩⟩⟩⟩, ⟨_, Aa, Sl.nil⟩⟩⟩) h2 Aa fun v3 h3 a w F W => ?_
 refine ls F W Aa (Ag F Aa).q fun a w F W => ?_
 refine Af (Ad (Ak (Ae ?_)))
 iterate 2 refine ls F W Aa (Ah F Aa).q fun a w F W => ?_
 refine Mu (r := A2) (k := 0) F W Aa Ff Aa Aa Aa Aa (GX.hide Bd h1 (F3 W s_v1)) fun a w F W => ?_
 have W : Stw ⟨Y, [], w0⟩ [] [row v3 40 A2 (Hy x1 0 (min p0.length x1.length) p0)] w := W
 refine Af (Ad ?_)
 obtain ⟨o1, G1, K1⟩ := Ao H
 refine AF (fun a w => ∃ x2 : List (Int × (Int × (Int × Int × Int × Int) × (Int × Int × Int × Int)) × (List (Int × Int × Int))), some (x2) = some o1 ∧ Fr 26 [] [(2, .slice none 0 0), (3, v3)] a ∧ Stw ⟨Y, [], w0⟩ [] [row v3 40 A2 x2] w) ?_ ?_
 ·
  have H := G1
  clear G1 K1
  refine Ak (Ae ?_)
  refine ls F W Aa (Ah F Aa).q fun a w F W => ?_
  refine ls F W Aa (B6 (r := A2) (l := Hy x1 0 (min p0.length x1.length) p0) D2 Aa F Aa (A7 0 Aa)).q fun a w F W => ?_
  refine ls F W Aa (Ah F Aa).q fun a w F W => ?_
  refine Af (Ad (AC ?_))
  refine BA H (fun s a w => Fr 26 [] [(2, .slice none 0 0), (3, v3), (12, v3), (13, .int .i64 ((Hy x1 0 (min p0.length x1.length) p0).length : Int)), (14, .int .i64 s.2)] a ∧ Stw ⟨Y, [], w0⟩ [] [row v3 40 A2 s.1] w) ⟨F.re ⟨rfl, Aa, Aa, Aa, Aa, trivial⟩, W⟩ fun s o a w H L2 hR => ?_
  obtain ⟨x3, x4⟩ := s
  obtain ⟨F, W⟩ := hR
  have F : Fr 26 [] [(2, .slice none 0 0), (3, v3), (12, v3), (13, .int .i64 ((Hy x1 0 (min p0.length x1.length) p0).length : Int)), (14, .int .i64 x4)] a := F
  have W : Stw ⟨Y, [], w0⟩ [] [row v3 40 A2 x3] w := W
  rw [DJ] at H
  refine Ak (Ae ?_)
  refine ls F W Aa (BL F Aa Aa).q fun a w F W => ?_
  refine Af (Ad (Ak ?_))
  refine Az F Aa (fun hb => ?_) fun hb => ?_
  ·
   have H := AK (Ba hb) H
   rw [hb] at F
   clear hb
   refine Ax (Ad (Ak (AC (Ak ?_))))
   obtain ⟨v4, h4, W⟩ := W.exR Bd
   refine Ae ?_
   refine ls F W Aa (Ah F Aa).q fun a w F W => ?_
   obtain ⟨x5, h5, H⟩ := Ao H
   obtain ⟨v5, h6, h7⟩ := Cv h4 h5
   have h8 : Ce v5 = [.int .i64 x5.1, .int .i64 x5.2.1.1, .int .i64 x5.2.1.2.1.1, .int .i64 x5.2.1.2.1.2.1, .int .i64 x5.2.1.2.1.2.2.1, .int .i64 x5.2.1.2.1.2.2.2, .int .i64 x5.2.1.2.2.1, .int .i64 x5.2.1.2.2.2.1, .int .i64 x5.2.1.2.2.2.2.1, .int .i64 x5.2.1.2.2.2.2.2, (v5.2.2.1)] := congrArg (fun q : Int × (Int × (Int × Int × Int × Int) × (Int × Int × Int × Int)) × (List (Int × Int × Int)) => ([.int .i64 q.1, .int .i64 q.2.1.1, .int .i64 q.2.1.2.1.1, .int .i64 q.2.1.2.1.2.1, .int .i64 q.2.1.2.1.2.2.1, .int .i64 q.2.1.2.1.2.2.2, .int .i64 q.2.1.2.2.1, .int .i64 q.2.1.2.2.2.1, .int .i64 q.2.1.2.2.2.2.1, .int .i64 q.2.1.2.2.2.2.2, (v5.2.2.1)] : List Value)) h7
   refine ls F W Aa (A1 (r := CD) Ff F Aa Aa (A7 0 Aa) h6).q fun a w F W => ?_
   refine ls F W Aa (AR (y := Value.agg #[.int .i64 x5.1, .int .i64 x5.2.1.1, .int .i64 x5.2.1.2.1.1, .int .i64 x5.2.1.2.1.2.1, .int .i64 x5.2.1.2.1.2.2.1, .int .i64 x5.2.1.2.1.2.2.2, .int .i64 x5.2.1.2.2.1, .int .i64 x5.2.1.2.2.2.1, .int .i64 x5.2.1.2.2.2.2.1, .int .i64 x5.2.1.2.2.2.2.2, (v5.2.2.1)]) (j := 0) (i := x4) (enc := Ce) F Aa Aa (A7 0 Aa) h6 D5 CF (by rw [h8]; rfl)).q fun a w F W => ?_
   have W := W.note (W.rowAt (k := 0) Aa h6 (Bh.snd (Bh.snd Bh.here)) (congrArg (fun q : Int × (Int × (Int × Int × Int × Int) × (Int × Int × Int × Int)) × (List (Int × Int × Int)) => q.2.2) h7))
   refine B9 (cs := [.int .i64 0, .int .i64 0, .int .i64 0, .int .i64 0, .int .i64 0, .int .i64 0, .int .i64 0, .int .i64 0, .int .i64 0, .int .i64 0, .slice none 0 0]) F W Aa JQ Aa fun b1 a w F W => ?_
   refine ls F W Aa (Ag F Aa).q fun a w F W => ?_
   refine Bq (vs := [.int .i64 x5.1, .int .i64 x5.2.1.1, .int .i64 x5.2.1.2.1.1, .int .i64 x5.2.1.2.1.2.1, .int .i64 x5.2.1.2.1.2.2.1, .int .i64 x5.2.1.2.1.2.2.2, .int .i64 x5.2.1.2.2.1, .int .i64 x5.2.1.2.2.2.1, .int .i64 x5.2.1.2.2.2.2.1, .int .i64 x5.2.1.2.2.2.2.2, (v5.2.2.1)]) (M' := [(b1, [.int .i64 x5.1, .int .i64 x5.2.1.1, .int .i64 x5.2.1.2.1.1, .int .i64 x5.2.1.2.1.2.1, .int .i64 x5.2.1.2.1.2.2.1, .int .i64 x5.2.1.2.1.2.2.2, .int .i64 x5.2.1.2.2.1, .int .i64 x5.2.1.2.2.2.1, .int .i64 x5.2.1.2.2.2.2.1, .int .i64 x5.2.1.2.2.2.2.2, (v5.2.2.1)])]) 0 F W Aa Aa Aa CF Aa Aa Aa (Am Aa (Am Aa (Am Aa (Am Aa (Am Aa (Am Aa (Am Aa (Am Aa (Am Aa (Am Aa (Am (W.oneF (k := 0) Aa) Cz))))))))))) Aa fun w W => ?_
   refine Af (Ad (Ae ?_))
   iterate 2 refine ls F W Aa (Ah F Aa).q fun a w F W => ?_
   refine ls F W Aa (As (v := Value.agg #[.int .i64 x5.1, .int .i64 x5.2.1.1, .int .i64 x5.2.1.2.1.1, .int .i64 x5.2.1.2.1.2.1, .int .i64 x5.2.1.2.1.2.2.1, .int .i64 x5.2.1.2.1.2.2.2, .int .i64 x5.2.1.2.2.1, .int .i64 x5.2.1.2.2.2.1, .int .i64 x5.2.1.2.2.2.2.1, .int .i64 x5.2.1.2.2.2.2.2, (v5.2.2.1)]) 0 F Aa Aa CF Aa).q fun a w F W => ?_
   obtain ⟨x6, h9, H⟩ := Ao H
   refine BE (Ml := []) (Zl := []) (M := [(b1, [.int .i64 x5.1, .int .i64 x5.2.1.1, .int .i64 x5.2.1.2.1.1, .int .i64 x5.2.1.2.1.2.1, .int .i64 x5.2.1.2.1.2.2.1, .int .i64 x5.2.1.2.1.2.2.2, .int .i64 x5.2.1.2.2.1, .int .i64 x5.2.1.2.2.2.1, .int .i64 x5.2.1.2.2.2.2.1, .int .i64 x5.2.1.2.2.2.2.2, (v5.2.2.1)])]) (Z := [B8 (v5.2.2.1) Bw x5.2.2, row v3 40 CD v4]) (β := Value) (rv := fun x => .agg #[.int .i64 x6.1, .int .i64 x6.2.1.1, .int .i64 x6.2.1.2.1.1, .int .i64 x6.2.1.2.1.2.1, .int .i64 x6.2.1.2.1.2.2.1, .int .i64 x6.2.1.2.1.2.2.2, .int .i64 x6.2.1.2.2.1, .int .i64 x6.2.1.2.2.2.1, .int .i64 x6.2.1.2.2.2.2.1, .int .i64 x6.2.1.2.2.2.2.2, x]) (MM := fun x => []) (ZZ := fun x => [row x 61 Bw x6.2.2]) F W NA Aa Aa (fun hL => C0 _ w ((v5.2.2.1)) x5 _ h9 (W.item (i := 0) Aa)) fun x a w F W => ?_
   obtain ⟨v6, rfl⟩ : ∃ y, y = x := ⟨x, rfl⟩
   have W : Stw ⟨Y, [], w0⟩ [(b1, [.int .i64 x5.1, .int .i64 x5.2.1.1, .int .i64 x5.2.1.2.1.1, .int .i64 x5.2.1.2.1.2.1, .int .i64 x5.2.1.2.1.2.2.1, .int .i64 x5.2.1.2.1.2.2.2, .int .i64 x5.2.1.2.2.1, .int .i64 x5.2.1.2.2.2.1, .int .i64 x5.2.1.2.2.2.2.1, .int .i64 x5.2.1.2.2.2.2.2, (v5.2.2.1)])] [row v6 61 Bw x6.2.2, B8 (v5.2.2.1) Bw x5.2.2, row v3 40 CD v4] w := W
   obtain ⟨x7, h10, H⟩ := Ao H
   obtain ⟨v7, h11, h12⟩ := Cv h4 h10
   have h13 : Ce v7 = [.int .i64 x7.1, .int .i64 x7.2.1.1, .int .i64 x7.2.1.2.1.1, .int .i64 x7.2.1.2.1.2.1, .int .i64 x7.2.1.2.1.2.2.1, .int .i64 x7.2.1.2.1.2.2.2, .int .i64 x7.2.1.2.2.1, .int .i64 x7.2.1.2.2.2.1, .int .i64 x7.2.1.2.2.2.2.1, .int .i64 x7.2.1.2.2.2.2.2, (v7.2.2.1)] := congrArg (fun q : Int × (Int × (Int × Int × Int × Int) × (Int × Int × Int × Int)) × (List (Int × Int × Int)) => ([.int .i64 q.1, .int .i64 q.2.1.1, .int .i64 q.2.1.2.1.1, .int .i64 q.2.1.2.1.2.1, .int .i64 q.2.1.2.1.2.2.1, .int .i64 q.2.1.2.1.2.2.2, .int .i64 q.2.1.2.2.1, .int .i64 q.2.1.2.2.2.1, .int .i64 q.2.1.2.2.2.2.1, .int .i64 q.2.1.2.2.2.2.2, (v7.2.2.1)] : List Value)) h12
   refine ls F W Aa (A1 (r := CD) Ff F Aa Aa (A7 2 Aa) h11).q fun a w F W => ?_
   have W := W.freeze
   have W := W.frontZ (i := 2) Aa Aa
   have W := W.hideR Bd h4
   refine E9 (r := A2) (i := x4) (j := 0) (vs := [.int .i64 x6.1, .int .i64 x6.2.1.1, .int .i64 x6.2.1.2.1.1, .int .i64 x6.2.1.2.1.2.1, .int .i64 x6.2.1.2.1.2.2.1, .int .i64 x6.2.1.2.1.2.2.2, .int .i64 x6.2.1.2.2.1, .int .i64 x6.2.1.2.2.2.1, .int .i64 x6.2.1.2.2.2.2.1, .int .i64 x6.2.1.2.2.2.2.2, v6]) (x' := x6) F W rfl rfl rfl (k := 0) rfl rfl h10 CF rfl rfl rfl (Am rfl (Am rfl (Am rfl (Am rfl (Am rfl (Am rfl (Am rfl (Am rfl (Am rfl (Am rfl (Am (W.oneF (k := 1) rfl) Cz))))))))))) (fun A cs hA hc => by obtain ⟨z, hz, hc⟩ := Bd.to hc; have e1 := D5 hc; have e2 : Ce z = [.int .i64 x7.1, .int .i64 x7.2.1.1, .int .i64 x7.2.1.2.1.1, .int .i64 x7.2.1.2.1.2.1, .int .i64 x7.2.1.2.1.2.2.1, .int .i64 x7.2.1.2.1.2.2.2, .int .i64 x7.2.1.2.2.1, .int .i64 x7.2.1.2.2.2.1, .int .i64 x7.2.1.2.2.2.2.1, .int .i64 x7.2.1.2.2.2.2.2, (z.2.2.1)] := (congrArg (fun q : Int × (Int × (Int × Int × Int × Int) × (Int × Int × Int × Int)) × (List (Int × Int × Int)) => ([.int .i64 q.1, .int .i64 q.2.1.1, .int .i64 q.2.1.2.1.1, .int .i64 q.2.1.2.1.2.1, .int .i64 q.2.1.2.1.2.2.1, .int .i64 q.2.1.2.1.2.2.2, .int .i64 q.2.1.2.2.1, .int .i64 q.2.1.2.2.2.1, .int .i64 q.2.1.2.2.2.2.1, .int .i64 q.2.1.2.2.2.2.2, (z.2.2.1)] : List Value)) hz); rw [e1, e2]; exact ⟨[Value.int .i64 x6.1], [Value.int .i64 x6.2.1.1, Value.int .i64 x6.2.1.2.1.1, Value.int .i64 x6.2.1.2.1.2.1, Value.int .i64 x6.2.1.2.1.2.2.1, Value.int .i64 x6.2.1.2.1.2.2.2, Value.int .i64 x6.2.1.2.2.1, Value.int .i64 x6.2.1.2.2.2.1, Value.int .i64 x6.2.1.2.2.2.2.1, Value.int .i64 x6.2.1.2.2.2.2.2, v6], rfl, rfl, ⟨[Value.int .i64 x6.2.1.1, Value.int .i64 x6.2.1.2.1.1, Value.int .i64 x6.2.1.2.1.2.1, Value.int .i64 x6.2.1.2.1.2.2.1, Value.int .i64 x6.2.1.2.1.2.2.2, Value.int .i64 x6.2.1.2.2.1, Value.int .i64 x6.2.1.2.2.2.1, Value.int .i64 x6.2.1.2.2.2.2.1, Value.int .i64 x6.2.1.2.2.2.2.2], [v6], rfl, ⟨[Value.int .i64 x6.2.1.1], [Value.int .i64 x6.2.1.2.1.1, Value.int .i64 x6.2.1.2.1.2.1, Value.int .i64 x6.2.1.2.1.2.2.1, Value.int .i64 x6.2.1.2.1.2.2.2, Value.int .i64 x6.2.1.2.2.1, Value.int .i64 x6.2.1.2.2.2.1, Value.int .i64 x6.2.1.2.2.2.2.1, Value.int .i64 x6.2.1.2.2.2.2.2], rfl, rfl, ⟨[Value.int .i64 x6.2.1.2.1.1, Value.int .i64 x6.2.1.2.1.2.1, Value.int .i64 x6.2.1.2.1.2.2.1, Value.int .i64 x6.2.1.2.1.2.2.2], [Value.int .i64 x6.2.1.2.2.1, Value.int .i64 x6.2.1.2.2.2.1, Value.int .i64 x6.2.1.2.2.2.2.1, Value.int .i64 x6.2.1.2.2.2.2.2], rfl, ⟨[Value.int .i64 x6.2.1.2.1.1], [Value.int .i64 x6.2.1.2.1.2.1, Value.int .i64 x6.2.1.2.1.2.2.1, Value.int .i64 x6.2.1.2.1.2.2.2], rfl, rfl, ⟨[Value.int .i64 x6.2.1.2.1.2.1], [Value.int .i64 x6.2.1.2.1.2.2.1, Value.int .i64 x6.2.1.2.1.2.2.2], rfl, rfl, ⟨[Value.int .i64 x6.2.1.2.1.2.2.1], [Value.int .i64 x6.2.1.2.1.2.2.2], rfl, rfl, rfl⟩⟩⟩, ⟨[Value.int .i64 x6.2.1.2.2.1], [Value.int .i64 x6.2.1.2.2.2.1, Value.int .i64 x6.2.1.2.2.2.2.1, Value.int .i64 x6.2.1.2.2.2.2.2], rfl, rfl, ⟨[Value.int .i64 x6.2.1.2.2.2.1], [Value.int .i64 x6.2.1.2.2.2.2.1, Value.int .i64 x6.2.1.2.2.2.2.2], rfl, rfl, ⟨[Value.int .i64 x6.2.1.2.2.2.2.1], [Value.int .i64 x6.2.1.2.2.2.2.2], rfl, rfl, rfl⟩⟩⟩⟩⟩, ⟨_, rfl, (Sl.stab (W.item (i := 1) rfl) (fun b hb _ => ⟨hA b hb, rfl⟩))⟩⟩⟩) fun w W => ?_
   refine Af (AS (Ad (Ae ?_)))
   refine ls F W Aa (Cf F Aa Aa Aa).q fun a w F W => ?_
   refine ls F W Aa (Ah F Aa).q fun a w F W => ?_
   refine Af (Ad ?_)
   have W := W.sub (M' := []) (Z' := [row v3 40 A2 (DI x3 x4 x6)]) (List.nil_sublist _) (List.Sublist.cons_cons _ (List.nil_sublist _))
   exact ⟨_, H, F.re ⟨rfl, Aa, Aa, Aa, Aa, trivial⟩, W⟩
  have H := AL (Bb hb) H
  rw [hb] at F
  clear hb
  refine Bz ?_
  iterate 2 refine B1 ?_
  refine Bx (Ad ?_)
  have H := L2 _ H
  exact ⟨_, H, F.re ⟨rfl, Aa, trivial⟩, W⟩
 rintro a w ⟨x2, hj, F, W⟩
 have hj := AH hj
 subst hj
 have H := K1
 clear G1 K1
 refine Ak (Ae ?_)
 refine ls F W Aa (Ah F Aa).q fun a w F W => ?_
 refine ls F W Aa (Ag F Aa).q fun a w F W => ?_
 refine Af (Ad (Aw ?_))
 have H := AH H
 subst H
 refine AE (.inl Aa) F W Aa (Av F Aa) ?_
 exact ⟨⟨v3, h3⟩, Aa, W⟩
theorem NH : Has Try.prog 40 := ⟨fun args w => An Try.func40 rfl (by decide) args w⟩
abbrev Mr (a : Int × (Int × (Int × (Int × Int × Int × Int) × (Int × Int × Int × Int)) × (Value × List (Int × Int × Int))) × Bool) : List Value := [.int .i64 a.1, .int .i64 a.2.1.1, .int .i64 a.2.1.2.1.1, .int .i64 a.2.1.2.1.2.1.1, .int .i64 a.2.1.2.1.2.1.2.1, .int .i64 a.2.1.2.1.2.1.2.2.1, .int .i64 a.2.1.2.1.2.1.2.2.2, .int .i64 a.2.1.2.1.2.2.1, .int .i64 a.2.1.2.1.2.2.2.1, .int .i64 a.2.1.2.1.2.2.2.2.1, .int .i64 a.2.1.2.1.2.2.2.2.2, a.2.1.2.2.1, .bool a.2.2]
theorem NM : F9 MQ Mr := (F9.pair Fl.int.to (F9.pair (F9.pair Fl.int.to (F9.pair N8.to F9.vsl)) Fl.bool.to))
theorem Nu : Ty Try.prog 42 true 13 := ⟨by kernel_rfl, by kernel_rfl⟩
noncomputable def CH (p0 : Int × (Int × Int × Int × Int) × (Int × Int × Int × Int)) : Int → Option (Int ⊕ (Unit ⊕ Bool))
  | x1 => (if x1 < 4 then (ix ([p0.2.2.1, p0.2.2.2.1, p0.2.2.2.2.1, p0.2.2.2.2.2] : List Int) x1).bind fun x2 => (if x2 < 0 then some true else (Cs x1).bind fun x4 => (if x4 < x2 then some true else (ix ([p0.2.1.1, p0.2.1.2.1, p0.2.1.2.2.1, p0.2.1.2.2.2] : List Int) x1).bind fun x5 => (if x5 < 0 then some true else (ix ([p0.2.1.1, p0.2.1.2.1, p0.2.1.2.2.1, p0.2.1.2.2.2] : List Int) x1).bind fun x6 => some (decide ((Fm .i64 x6 x2) ≠ 0))))).bind fun x3 => (if x3 = true then some (.inr (.inr false)) else some (.inl (CJ (x1 + 1)))) else some (.inr (.inl ())))
noncomputable def Dh (p0 : Int × (Int × Int × Int × Int) × (Int × Int × Int × Int)) : Option Bool := (if (decide (p0.1 ≠ (-1)) && (decide (p0.1 < 0) || decide (8 ≤ p0.1))) = true then some false else Fu (Bi (CH p0) 0) fun _ => some true)
theorem II (Y : Nat → Prop) (w0 : World)  (p0 : Int × (Int × Int × Int × Int) × (Int × Int × Int × Int)) (r : Bool) (H : Dh p0 = some r)  :
    Calls Try.prog 54 #[.agg #[.int .i64 p0.1, .int .i64 p0.2.1.1, .int .i64 p0.2.1.2.1, .int .i64 p0.2.1.2.2.1, .int .i64 p0.2.1.2.2.2, .int .i64 p0.2.2.1, .int .i64 p0.2.2.2.1, .int .i64 p0.2.2.2.2.1, .int .i64 p0.2.2.2.2.2]] w0 fun e w' => e = .returned (.bool r) ∧ Below w0.heap.size w0 w' := by
 refine enter Try.func54 Aa Try.ntmps54 Aa fun a F => ?_
 have W := Stw.start Y w0
 unfold Dh at H
 refine Ak (Ae ?_)
 refine BU (cs := [.int .i64 p0.1, .int .i64 p0.2.1.1, .int .i64 p0.2.1.2.1, .int .i64 p0.2.1.2.2.1, .int .i64 p0.2.1.2.2.2, .int .i64 p0.2.2.1, .int .i64 p0.2.2.2.1, .int .i64 p0.2.2.2.2.1, .int .i64 p0.2.2.2.2.2]) F W Aa Aa Aa fun b1 a w F W => ?_
 refine ls F W Aa (Ag F Aa).q fun a w F W => ?_
 refine Af (Ad (Ak ?_))
 refine AF (fun a w => Fr 49 [] [(1, .pointer (some ⟨b1, 0, none⟩)), (2, .bool false), (17, .bool (decide (p0.1 ≠ (-1)) && (decide (p0.1 < 0) || decide (8 ≤ p0.1))))] a ∧ Stw ⟨Y, [], w0⟩ [(b1, [.int .i64 p0.1, .int .i64 p0.2.1.1, .int .i64 p0.2.1.2.1, .int .i64 p0.2.1.2.2.1, .int .i64 p0.2.1.2.2.2, .int .i64 p0.2.2.1, .int .i64 p0.2.2.2.1, .int .i64 p0.2.2.2.2.1, .int .i64 p0.2.2.2.2.2])] [] w) ?_ ?_
 ·
  refine Ae ?_
  refine ls F W Aa (Al CC Aa Aa Aa T3 F Aa 0 Aa).q fun a w F W => ?_
  refine ls F W Aa (As (v := Value.int .i64 p0.1) 0 F Aa Aa T3 Aa).q fun a w F W => ?_
  refine ls F W Aa (E5 F Aa Aa).q fun a w F W => ?_
  refine ls F W Aa (Ah F Aa).q fun a w F W => ?_
  rcases Bool.eq_false_or_eq_true (decide (p0.1 ≠ (-1))) with hb0 | hb0
  ·
   rw [hb0] at F
   refine AM F W (Aj F Aa Aa Aa Aa) Aa (Ap Aa) (Al CC Aa Aa Aa T3 F Aa 0 Aa).q fun a w F W => ?_
   refine AM F W (Aj F Aa Aa Aa Aa) Aa (Ap Aa) (As (v := Value.int .i64 p0.1) 0 F Aa Aa T3 Aa).q fun a w F W => ?_
   refine AM F W (Aj F Aa Aa Aa Aa) Aa (Ap Aa) (BL F Aa Aa).q fun a w F W => ?_
   refine AM F W (Aj F Aa Aa Aa Aa) Aa (Ap Aa) (Ah F Aa).q fun a w F W => ?_
   rcases Bool.eq_false_or_eq_true (decide (p0.1 < 0)) with hb1 | hb1
   ·
    rw [hb1] at F
    iterate 3 refine Cx F Aa Aa Aa Aa Aa Aa Aa fun a F => ?_
    refine AM F W (Aj F Aa Aa Aa Aa) Aa (Ap Aa) (Ay F Aa Aa Aa).q fun a w F W => ?_
    refine ls F W Aa (Ay F Aa Aa Aa).q fun a w F W => ?_
    refine Af (Ad ?_)
    exact ⟨F.re ⟨rfl, Aa, (by show some (Value.bool true) = some (Value.bool (decide (p0.1 ≠ (-1)) && (decide (p0.1 < 0) || decide (8 ≤ p0.1)))); try rw [hb0]; try rw [hb1]; all_goals simp only [Bool.not_true, Bool.not_false, Bool.true_and, Bool.false_and, Bool.true_or, Bool.false_or, Bool.and_true, Bool.or_false, cond_true, cond_false]), trivial⟩, W⟩
   rw [hb1] at F
   refine AM F W (Aj F Aa Aa Aa Aa) Aa (Ap Aa) (Al CC Aa Aa Aa T3 F Aa 0 Aa).q fun a w F W => ?_
   refine AM F W (Aj F Aa Aa Aa Aa) Aa (Ap Aa) (As (v := Value.int .i64 p0.1) 0 F Aa Aa T3 Aa).q fun a w F W => ?_
   refine AM F W (Aj F Aa Aa Aa Aa) Aa (Ap Aa) (EF F Aa Aa).q fun a w F W => ?_
   refine AM F W (Aj F Aa Aa Aa Aa) Aa (Ap Aa) (Au F Aa Aa Aa).q fun a w F W => ?_
   refine ls F W Aa (Ay F Aa Aa Aa).q fun a w F W => ?_
   refine Af (Ad ?_)
   exact ⟨F.re ⟨rfl, Aa, (by show some (Value.bool (decide (8 ≤ p0.1))) = some (Value.bool (decide (p0.1 ≠ (-1)) && (decide (p0.1 < 0) || decide (8 ≤ p0.1)))); try rw [hb0]; try rw [hb1]; all_goals simp only [Bool.not_true, Bool.not_false, Bool.true_and, Bool.false_and, Bool.true_or, Bool.false_or, Bool.and_true, Bool.or_false, cond_true, cond_false]), trivial⟩, W⟩
  rw [hb0] at F
  iterate 4 refine Cx F Aa Aa Aa Aa Aa Aa Aa fun a F => ?_
  iterate 3 refine O8 F Aa Aa Aa Aa Aa Aa fun a F => ?_
  refine Cx F Aa Aa Aa Aa Aa Aa Aa fun a F => ?_
  refine ls F W Aa (Au F Aa Aa Aa).q fun a w F W => ?_
  refine Af (Ad ?_)
  exact ⟨F.re ⟨rfl, Aa, (by show some (Value.bool false) = some (Value.bool (decide (p0.1 ≠ (-1)) && (decide (p0.1 < 0) || decide (8 ≤ p0.1)))); try rw [hb0]; all_goals simp only [Bool.not_true, Bool.not_false, Bool.true_and, Bool.false_and, Bool.true_or, Bool.false_or, Bool.and_true, Bool.or_false, cond_true, cond_false]), trivial⟩, W⟩
 rintro a w ⟨F, W⟩
 refine Az F Aa (fun hb => ?_) fun hb => ?_
 ·
  have H := AK hb H
  rw [hb] at F
  clear hb
  refine Ak (Ae ?_)
  refine ls F W Aa (Ag F Aa).q fun a w F W => ?_
  refine Af (Ad (Aw (AD ?_)))
  have H := AH H
  subst H
  refine AE (.inl Aa) F W Aa (Av F Aa) ?_
  exact ⟨rfl, W.done⟩
 have H := AL (by rw [hb]; decide) H
 rw [hb] at F
 clear hb
 refine Ax (Ad ?_)
 obtain ⟨o1, G1, K1, L1⟩ := HM H
 refine AF (fun a w => some (Sum.inl ()) = some o1 ∧ Fr 49 [] [(2, .bool false)] a ∧ Stw ⟨Y, [], w0⟩ [(b1, [.int .i64 p0.1, .int .i64 p0.2.1.1, .int .i64 p0.2.1.2.1, .int .i64 p0.2.1.2.2.1, .int .i64 p0.2.1.2.2.2, .int .i64 p0.2.2.1, .int .i64 p0.2.2.2.1, .int .i64 p0.2.2.2.2.1, .int .i64 p0.2.2.2.2.2])] [] w) ?_ ?_
 ·
  have H := G1
  clear G1 K1
  refine Ak (Ae ?_)
  refine ls F W Aa (Al CC Aa Aa Aa Ha F Aa 5 Aa).q fun a w F W => ?_
  refine ls F W Aa (As (v := Value.agg #[.int .i64 p0.2.2.1, .int .i64 p0.2.2.2.1, .int .i64 p0.2.2.2.2.1, .int .i64 p0.2.2.2.2.2]) 0 F Aa Aa Ha Aa).q fun a w F W => ?_
  refine ls F W Aa (Ah F Aa).q fun a w F W => ?_
  refine Af (Ad (AC ?_))
  refine BA H (fun s a w => Fr 49 [] [(1, .pointer (some ⟨b1, 0, none⟩)), (2, .bool false), (19, .agg #[.int .i64 p0.2.2.1, .int .i64 p0.2.2.2.1, .int .i64 p0.2.2.2.2.1, .int .i64 p0.2.2.2.2.2]), (20, .int .i64 s)] a ∧ Stw ⟨Y, [], w0⟩ [(b1, [.int .i64 p0.1, .int .i64 p0.2.1.1, .int .i64 p0.2.1.2.1, .int .i64 p0.2.1.2.2.1, .int .i64 p0.2.1.2.2.2, .int .i64 p0.2.2.1, .int .i64 p0.2.2.2.1, .int .i64 p0.2.2.2.2.1, .int .i64 p0.2.2.2.2.2])] [] w) ⟨F.re ⟨rfl, Aa, Aa, Aa, trivial⟩, W⟩ fun s o a w H L2 hR => ?_
  obtain ⟨x1, rfl⟩ : ∃ x, x = s := ⟨s, rfl⟩
  obtain ⟨F, W⟩ := hR
  have F : Fr 49 [] [(1, .pointer (some ⟨b1, 0, none⟩)), (2, .bool false), (19, .agg #[.int .i64 p0.2.2.1, .int .i64 p0.2.2.2.1, .int .i64 p0.2.2.2.2.1, .int .i64 p0.2.2.2.2.2]), (20, .int .i64 x1)] a := F
  have W : Stw ⟨Y, [], w0⟩ [(b1, [.int .i64 p0.1, .int .i64 p0.2.1.1, .int .i64 p0.2.1.2.1, .int .i64 p0.2.1.2.2.1, .int .i64 p0.2.1.2.2.2, .int .i64 p0.2.2.1, .int .i64 p0.2.2.2.1, .int .i64 p0.2.2.2.2.1, .int .i64 p0.2.2.2.2.2])] [] w := W
  rw [CH] at H
  refine Ak (Ae ?_)
  refine ls F W Aa (BL F Aa Aa).q fun a w F W => ?_
  refine Af (Ad (Ak ?_))
  refine Az F Aa (fun hb => ?_) fun hb => ?_
  ·
   have H := AK (Ba hb) H
   rw [hb] at F
   clear hb
   refine Ax (Ad (Ak (AC (Ak (Ae ?_)))))
   refine ls F W Aa (Ah F Aa).q fun a w F W => ?_
   obtain ⟨x2, h1, H⟩ := Ao H
   refine ls F W Aa (JP (enc := Value.int .i64) (cs := [.int .i64 p0.2.2.1, .int .i64 p0.2.2.2.1, .int .i64 p0.2.2.2.2.1, .int .i64 p0.2.2.2.2.2]) EG T3 F Aa Aa Aa Aa h1).q fun a w F W => ?_
   iterate 2 refine ls F W Aa (Ag F Aa).q fun a w F W => ?_
   refine Af (Ad ?_)
   obtain ⟨o3, G3, K3⟩ := Ao H
   refine AF (fun a w => ∃ x3 : Bool, some (x3) = some o3 ∧ Fr 49 [] [(1, .pointer (some ⟨b1, 0, none⟩)), (2, .bool false), (19, .agg #[.int .i64 p0.2.2.1, .int .i64 p0.2.2.2.1, .int .i64 p0.2.2.2.2.1, .int .i64 p0.2.2.2.2.2]), (20, .int .i64 x1), (47, .bool x3)] a ∧ Stw ⟨Y, [], w0⟩ [(b1, [.int .i64 p0.1, .int .i64 p0.2.1.1, .int .i64 p0.2.1.2.1, .int .i64 p0.2.1.2.2.1, .int .i64 p0.2.1.2.2.2, .int .i64 p0.2.2.1, .int .i64 p0.2.2.2.1, .int .i64 p0.2.2.2.2.1, .int .i64 p0.2.2.2.2.2])] [] w) ?_ ?_
   ·
    have H := G3
    clear G3 K3
    refine Ae ?_
    refine ls F W Aa (Ah F Aa).q fun a w F W => ?_
    refine ls F W Aa (BL F Aa Aa).q fun a w F W => ?_
    refine ls F W Aa (Ah F Aa).q fun a w F W => ?_
    rcases Bool.eq_false_or_eq_true (decide (x2 < 0)) with hb | hb
    ·
     have H := AK (Ba hb) H
     rw [hb] at F
     clear hb
     iterate 4 refine Cx F Aa Aa Aa Aa Aa Aa Aa fun a F => ?_
     refine ls F W Aa (Ay F Aa Aa Aa).q fun a w F W => ?_
     refine ls F W Aa (Ah F Aa).q fun a w F W => ?_
     iterate 5 refine Cx F Aa Aa Aa Aa Aa Aa Aa fun a F => ?_
     refine ls F W Aa (Ay F Aa Aa Aa).q fun a w F W => ?_
     refine ls F W Aa (Ah F Aa).q fun a w F W => ?_
     iterate 7 refine Cx F Aa Aa Aa Aa Aa Aa Aa fun a F => ?_
     refine ls F W Aa (Ay F Aa Aa Aa).q fun a w F W => ?_
     refine Af (Ad ?_)
     exact ⟨_, H, F.re ⟨rfl, Aa, Aa, Aa, Aa, trivial⟩, W⟩
    have H := AL (Bb hb) H
    rw [hb] at F
    clear hb
    iterate 2 refine AM F W (Aj F Aa Aa Aa Aa) Aa (Ap Aa) (Ah F Aa).q fun a w F W => ?_
    refine F7 (Aj F Aa Aa Aa Aa) ?_
    obtain ⟨x4, h2, H⟩ := Ao H
    refine ls F W Aa (AQ (v := Value.int .i64 x4) F Nb Aa (fun w W => D6 any w x1 _ h2)) fun a w F W => ?_
    refine AM F W (Aj F Aa Aa Aa Aa) Aa (Ap Aa) (FO F Aa Aa).q fun a w F W => ?_
    refine ls F W Aa (Au F Aa Aa Aa).q fun a w F W => ?_
    refine ls F W Aa (Ah F Aa).q fun a w F W => ?_
    rcases Bool.eq_false_or_eq_true (decide (x4 < x2)) with hb | hb
    ·
     have H := AK (Ba hb) H
     rw [hb] at F
     clear hb
     iterate 5 refine Cx F Aa Aa Aa Aa Aa Aa Aa fun a F => ?_
     refine ls F W Aa (Ay F Aa Aa Aa).q fun a w F W => ?_
     refine ls F W Aa (Ah F Aa).q fun a w F W => ?_
     iterate 7 refine Cx F Aa Aa Aa Aa Aa Aa Aa fun a F => ?_
     refine ls F W Aa (Ay F Aa Aa Aa).q fun a w F W => ?_
     refine Af (Ad ?_)
     exact ⟨_, H, F.re ⟨rfl, Aa, Aa, Aa, Aa, trivial⟩, W⟩
    have H := AL (Bb hb) H
    rw [hb] at F
    clear hb
    refine AM F W (Aj F Aa Aa Aa Aa) Aa (Ap Aa) (Ah F Aa).q fun a w F W => ?_
    refine AM F W (Aj F Aa Aa Aa Aa) Aa (Ap Aa) (Al CC Aa Aa Aa Ha F Aa 1 Aa).q fun a w F W => ?_
    obtain ⟨x5, h3, H⟩ := Ao H
    refine AM F W (Aj F Aa Aa Aa Aa) Aa (Ap Aa) (Bp (1 + (x1).toNat * 1) EG F Aa Aa Aa h3 Aa).q fun a w F W => ?_
    refine AM F W (Aj F Aa Aa Aa Aa) Aa (Ap Aa) (As (v := Value.int .i64 x5) 0 F Aa Aa T3 (Cc (base := 1) (m := 4) (l := [p0.2.1.1, p0.2.1.2.1, p0.2.1.2.2.1, p0.2.1.2.2.2]) (enc := Value.int .i64) Aa h3)).q fun a w F W => ?_
    refine AM F W (Aj F Aa Aa Aa Aa) Aa (Ap Aa) (BL F Aa Aa).q fun a w F W => ?_
    refine ls F W Aa (Au F Aa Aa Aa).q fun a w F W => ?_
    refine ls F W Aa (Ah F Aa).q fun a w F W => ?_
    rcases Bool.eq_false_or_eq_true (decide (x5 < 0)) with hb | hb
    ·
     have H := AK (Ba hb) H
     rw [hb] at F
     clear hb
     iterate 7 refine Cx F Aa Aa Aa Aa Aa Aa Aa fun a F => ?_
     refine ls F W Aa (Ay F Aa Aa Aa).q fun a w F W => ?_
     refine Af (Ad ?_)
     exact ⟨_, H, F.re ⟨rfl, Aa, Aa, Aa, Aa, trivial⟩, W⟩
    have H := AL (Bb hb) H
    rw [hb] at F
    clear hb
    refine AM F W (Aj F Aa Aa Aa Aa) Aa (Ap Aa) (Ah F Aa).q fun a w F W => ?_
    refine AM F W (Aj F Aa Aa Aa Aa) Aa (Ap Aa) (Al CC Aa Aa Aa Ha F Aa 1 Aa).q fun a w F W => ?_
    obtain ⟨x6, h4, H⟩ := Ao H
    refine AM F W (Aj F Aa Aa Aa Aa) Aa (Ap Aa) (Bp (1 + (x1).toNat * 1) EG F Aa Aa Aa h4 Aa).q fun a w F W => ?_
    refine AM F W (Aj F Aa Aa Aa Aa) Aa (Ap Aa) (As (v := Value.int .i64 x6) 0 F Aa Aa T3 (Cc (base := 1) (m := 4) (l := [p0.2.1.1, p0.2.1.2.1, p0.2.1.2.2.1, p0.2.1.2.2.2]) (enc := Value.int .i64) Aa h4)).q fun a w F W => ?_
    refine AM F W (Aj F Aa Aa Aa Aa) Aa (Ap Aa) (Ah F Aa).q fun a w F W => ?_
    refine AM F W (Aj F Aa Aa Aa Aa) Aa (Ap Aa) (Lj F Aa Aa).q fun a w F W => ?_
    refine AM F W (Aj F Aa Aa Aa Aa) Aa (Ap Aa) (E5 F Aa Aa).q fun a w F W => ?_
    refine ls F W Aa (Au F Aa Aa Aa).q fun a w F W => ?_
    refine Af (Ad ?_)
    exact ⟨_, H, F.re ⟨rfl, Aa, Aa, Aa, Aa, trivial⟩, W⟩
   rintro a w ⟨x3, hj, F, W⟩
   have hj := AH hj
   subst hj
   have H := K3
   clear G3 K3
   refine Az F Aa (fun hb => ?_) fun hb => ?_
   ·
    have H := AK hb H
    rw [hb] at F
    clear hb
    refine Ak (Ae ?_)
    refine ls F W Aa (Ag F Aa).q fun a w F W => ?_
    refine Af (Ad (Aw (AJ ?_)))
    iterate 2 refine AD ?_
    refine AJ (AD ?_)
    have H := L2 _ H
    have H := L1 _ H
    have H := AH H
    subst H
    refine AE (.inl Aa) F W Aa (Av F Aa) ?_
    exact ⟨rfl, W.done⟩
   have H := AL (by rw [hb]; decide) H
   rw [hb] at F
   clear hb
   refine Ax (AS (Ad (Ae ?_)))
   refine ls F W Aa (Cf F Aa Aa Aa).q fun a w F W => ?_
   refine ls F W Aa (Ah F Aa).q fun a w F W => ?_
   refine Af (Ad ?_)
   exact ⟨_, H, F.re ⟨rfl, Aa, Aa, Aa, trivial⟩, W⟩
  have H := AL (Bb hb) H
  rw [hb] at F
  clear hb
  refine Bz ?_
  iterate 2 refine B1 ?_
  refine Bx (Ad ?_)
  have H := L2 _ H
  exact ⟨H, F.re ⟨rfl, trivial⟩, W⟩
 rintro a w ⟨hj, F, W⟩
 have H := K1 _ hj
 clear hj G1 K1 L1
 refine Ak (Ae ?_)
 refine ls F W Aa (Ag F Aa).q fun a w F W => ?_
 refine Af (Ad (Aw ?_))
 have H := AH H
 subst H
 refine AE (.inl Aa) F W Aa (Av F Aa) ?_
 exact ⟨rfl, W.done⟩
theorem Ph : Has Try.prog 54 := ⟨fun args w => An Try.func54 rfl (by decide) args w⟩
theorem Mk : Ty Try.prog 61 true 3 := ⟨by kernel_rfl, by kernel_rfl⟩
noncomputable def Eb (p0 : Int × Int × Int) (p1 : Int) : Option Bool := (if p0.1 = 1 then (if 0 ≤ p0.2.1 then (if p0.2.1 < 4 then (if 0 ≤ p0.2.2 then (Cs p0.2.1).bind fun x2 => some (decide (p0.2.2 ≤ x2)) else some false) else some false) else some false).bind fun x1 => some x1 else (if p0.1 = 2 then some (decide (p0.2.1 = 0) && (decide (0 ≤ p0.2.2) && decide (p0.2.2 < p1))) else (if p0.1 = 3 then some (decide (p0.2.1 = 0) && decide (p0.2.2 = 0)) else some false)))
theorem JA (Y : Nat → Prop) (w0 : World)  (p0 : Int × Int × Int) (p1 : Int) (r : Bool) (H : Eb p0 p1 = some r)  :
    Calls Try.prog 74 #[.agg #[.int .i64 p0.1, .int .i64 p0.2.1, .int .i64 p0.2.2], .int .i64 p1] w0 fun e w' => e = .returned (.bool r) ∧ Below w0.heap.size w0 w' := by
 refine enter Try.func74 Aa Try.ntmps74 Aa fun a F => ?_
 have W := Stw.start Y w0
 unfold Eb at H
 refine Ak (Ae ?_)
 refine BU (cs := [.int .i64 p0.1, .int .i64 p0.2.1, .int .i64 p0.2.2]) F W Aa Aa Aa fun b1 a w F W => ?_
 refine ls F W Aa (Ag F Aa).q fun a w F W => ?_
 refine Af (Ad (Ak (Ak (Ae ?_))))
 refine ls F W Aa (Al Dd Aa Aa Aa T3 F Aa 0 Aa).q fun a w F W => ?_
 refine ls F W Aa (As (v := Value.int .i64 p0.1) 0 F Aa Aa T3 Aa).q fun a w F W => ?_
 refine Af (Ad (AC (Ak (Ae ?_))))
 refine ls F W Aa (BM F Aa Aa).q fun a w F W => ?_
 refine ls F W Aa (Ag F Aa).q fun a w F W => ?_
 refine Af (Ad ?_)
 refine Az F Aa (fun hb => ?_) fun hb => ?_
 ·
  have H := AK (Ba hb) H
  rw [hb] at F
  clear hb
  obtain ⟨o1, G1, K1⟩ := Ao H
  refine AF (fun a w => ∃ x1 : Bool, some (x1) = some o1 ∧ Fr 56 [] [(4, .bool x1)] a ∧ Stw ⟨Y, [], w0⟩ [(b1, [.int .i64 p0.1, .int .i64 p0.2.1, .int .i64 p0.2.2])] [] w) ?_ ?_
  ·
   have H := G1
   clear G1 K1
   refine Cq W MO (by kernel_rfl) ?_
   refine qs F Aa (Al Dd Aa Aa Aa T3 F Aa 1 Aa).q fun a F => ?_
   refine qs F Aa (As (v := Value.int .i64 p0.2.1) 0 F Aa Aa T3 Aa).q fun a F => ?_
   refine qs F Aa (EF F Aa Aa).q fun a F => ?_
   refine qs F Aa (Ah F Aa).q fun a F => ?_
   rcases Bool.eq_false_or_eq_true (decide (0 ≤ p0.2.1)) with hb | hb
   ·
    have H := AK (Ba hb) H
    rw [hb] at F
    clear hb
    refine BC F (Aj F Aa Aa Aa Aa) Aa (Ap Aa) (Al Dd Aa Aa Aa T3 F Aa 1 Aa).q fun a F => ?_
    refine BC F (Aj F Aa Aa Aa Aa) Aa (Ap Aa) (As (v := Value.int .i64 p0.2.1) 0 F Aa Aa T3 Aa).q fun a F => ?_
    refine BC F (Aj F Aa Aa Aa Aa) Aa (Ap Aa) (BL F Aa Aa).q fun a F => ?_
    refine qs F Aa (Ay F Aa Aa Aa).q fun a F => ?_
    refine qs F Aa (Ah F Aa).q fun a F => ?_
    rcases Bool.eq_false_or_eq_true (decide (p0.2.1 < 4)) with hb | hb
    ·
     have H := AK (Ba hb) H
     rw [hb] at F
     clear hb
     refine BC F (Aj F Aa Aa Aa Aa) Aa (Ap Aa) (Al Dd Aa Aa Aa T3 F Aa 2 Aa).q fun a F => ?_
     refine BC F (Aj F Aa Aa Aa Aa) Aa (Ap Aa) (As (v := Value.int .i64 p0.2.2) 0 F Aa Aa T3 Aa).q fun a F => ?_
     refine BC F (Aj F Aa Aa Aa Aa) Aa (Ap Aa) (EF F Aa Aa).q fun a F => ?_
     refine qs F Aa (Ay F Aa Aa Aa).q fun a F => ?_
     refine qs F Aa (Ah F Aa).q fun a F => ?_
     rcases Bool.eq_false_or_eq_true (decide (0 ≤ p0.2.2)) with hb | hb
     ·
      have H := AK (Ba hb) H
      rw [hb] at F
      clear hb
      refine BC F (Aj F Aa Aa Aa Aa) Aa (Ap Aa) (Al Dd Aa Aa Aa T3 F Aa 2 Aa).q fun a F => ?_
      refine BC F (Aj F Aa Aa Aa Aa) Aa (Ap Aa) (As (v := Value.int .i64 p0.2.2) 0 F Aa Aa T3 Aa).q fun a F => ?_
      refine BC F (Aj F Aa Aa Aa Aa) Aa (Ap Aa) (Al Dd Aa Aa Aa T3 F Aa 1 Aa).q fun a F => ?_
      refine BC F (Aj F Aa Aa Aa Aa) Aa (Ap Aa) (As (v := Value.int .i64 p0.2.1) 0 F Aa Aa T3 Aa).q fun a F => ?_
      obtain ⟨x2, h1, H⟩ := Ao H
      refine BC F (Aj F Aa Aa Aa Aa) Aa (Ap Aa) (AQ (v := Value.int .i64 x2) F Nb Aa (fun w W => D6 any w p0.2.1 _ h1)) fun a F => ?_
      refine BC F (Aj F Aa Aa Aa Aa) Aa (Ap Aa) (GY F Aa Aa).q fun a F => ?_
      refine qs F Aa (Ay F Aa Aa Aa).q fun a F => ?_
      refine qs F Aa (Ag F Aa).q fun a F => ?_
      refine AW fun w W => ?_
      refine Ad ?_
      exact ⟨_, H, F.re ⟨rfl, trivial⟩, W⟩
     have H := AL (Bb hb) H
     rw [hb] at F
     clear hb
     iterate 6 refine B3 F (BB F Aa Aa Aa Aa Aa) Aa Aa fun a F => ?_
     refine qs F Aa (Au F Aa Aa Aa).q fun a F => ?_
     refine qs F Aa (Ag F Aa).q fun a F => ?_
     refine AW fun w W => ?_
     refine Ad ?_
     exact ⟨_, H, F.re ⟨rfl, trivial⟩, W⟩
    have H := AL (Bb hb) H
    rw [hb] at F
    clear hb
    iterate 3 refine B3 F (BB F Aa Aa Aa Aa Aa) Aa Aa fun a F => ?_
    refine qs F Aa (Au F Aa Aa Aa).q fun a F => ?_
    refine qs F Aa (Ah F Aa).q fun a F => ?_
    iterate 6 refine B3 F (BB F Aa Aa Aa Aa Aa) Aa Aa fun a F => ?_
    refine qs F Aa (Au F Aa Aa Aa).q fun a F => ?_
    refine qs F Aa (Ag F Aa).q fun a F => ?_
    refine AW fun w W => ?_
    refine Ad ?_
    exact ⟨_, H, F.re ⟨rfl, trivial⟩, W⟩
   have H := AL (Bb hb) H
   rw [hb] at F
   clear hb
   iterate 3 refine B3 F (BB F Aa Aa Aa Aa Aa) Aa Aa fun a F => ?_
   refine qs F Aa (Au F Aa Aa Aa).q fun a F => ?_
   refine qs F Aa (Ah F Aa).q fun a F => ?_
   iterate 3 refine B3 F (BB F Aa Aa Aa Aa Aa) Aa Aa fun a F => ?_
   refine qs F Aa (Au F Aa Aa Aa).q fun a F => ?_
   refine qs F Aa (Ah F Aa).q fun a F => ?_
   iterate 6 refine B3 F (BB F Aa Aa Aa Aa Aa) Aa Aa fun a F => ?_
   refine qs F Aa (Au F Aa Aa Aa).q fun a F => ?_
   refine qs F Aa (Ag F Aa).q fun a F => ?_
   refine AW fun w W => ?_
   refine Ad ?_
   exact ⟨_, H, F.re ⟨rfl, trivial⟩, W⟩
  rintro a w ⟨x1, hj, F, W⟩
  have hj := AH hj
  subst hj
  have H := K1
  clear G1 K1
  refine Aw (AJ (AD ?_))
  have H := AH H
  subst H
  refine AE (.inl Aa) F W Aa (Av F Aa) ?_
  exact ⟨rfl, W.done⟩
 have H := AL (Bb hb) H
 rw [hb] at F
 clear hb
 refine Ak (Ae ?_)
 refine ls F W Aa (BM F Aa Aa).q fun a w F W => ?_
 refine ls F W Aa (Ag F Aa).q fun a w F W => ?_
 refine Af (Ad ?_)
 refine Az F Aa (fun hb => ?_) fun hb => ?_
 ·
  have H := AK (Ba hb) H
  rw [hb] at F
  clear hb
  refine AF (fun a w => Fr 56 [] [(4, .bool (decide (p0.2.1 = 0) && (decide (0 ≤ p0.2.2) && decide (p0.2.2 < p1))))] a ∧ Stw ⟨Y, [], w0⟩ [(b1, [.int .i64 p0.1, .int .i64 p0.2.1, .int .i64 p0.2.2])] [] w) ?_ ?_
  ·
   refine Ae ?_
   refine ls F W Aa (Al Dd Aa Aa Aa T3 F Aa 1 Aa).q fun a w F W => ?_
   refine ls F W Aa (As (v := Value.int .i64 p0.2.1) 0 F Aa Aa T3 Aa).q fun a w F W => ?_
   refine ls F W Aa (BM F Aa Aa).q fun a w F W => ?_
   refine ls F W Aa (Ah F Aa).q fun a w F W => ?_
   rcases Bool.eq_false_or_eq_true (decide (p0.2.1 = 0)) with hb0 | hb0
   ·
    rw [hb0] at F
    refine AM F W (Aj F Aa Aa Aa Aa) Aa (Ap Aa) (Al Dd Aa Aa Aa T3 F Aa 2 Aa).q fun a w F W => ?_
    refine AM F W (Aj F Aa Aa Aa Aa) Aa (Ap Aa) (As (v := Value.int .i64 p0.2.2) 0 F Aa Aa T3 Aa).q fun a w F W => ?_
    refine AM F W (Aj F Aa Aa Aa Aa) Aa (Ap Aa) (EF F Aa Aa).q fun a w F W => ?_
    refine ls F W Aa (Ay F Aa Aa Aa).q fun a w F W => ?_
    refine ls F W Aa (Ah F Aa).q fun a w F W => ?_
    rcases Bool.eq_false_or_eq_true (decide (0 ≤ p0.2.2)) with hb1 | hb1
    ·
     rw [hb1] at F
     refine AM F W (Aj F Aa Aa Aa Aa) Aa (Ap Aa) (Al Dd Aa Aa Aa T3 F Aa 2 Aa).q fun a w F W => ?_
     refine AM F W (Aj F Aa Aa Aa Aa) Aa (Ap Aa) (As (v := Value.int .i64 p0.2.2) 0 F Aa Aa T3 Aa).q fun a w F W => ?_
     refine AM F W (Aj F Aa Aa Aa Aa) Aa (Ap Aa) (Ah F Aa).q fun a w F W => ?_
     refine AM F W (Aj F Aa Aa Aa Aa) Aa (Ap Aa) (BL F Aa Aa).q fun a w F W => ?_
     refine ls F W Aa (Ay F Aa Aa Aa).q fun a w F W => ?_
     refine ls F W Aa (Ag F Aa).q fun a w F W => ?_
     refine Af (Ad ?_)
     exact ⟨F.re ⟨(by show some (Value.bool (decide (p0.2.2 < p1))) = some (Value.bool (decide (p0.2.1 = 0) && (decide (0 ≤ p0.2.2) && decide (p0.2.2 < p1)))); try rw [hb0]; try rw [hb1]; all_goals simp only [Bool.not_true, Bool.not_false, Bool.true_and, Bool.false_and, Bool.true_or, Bool.false_or, Bool.and_true, Bool.or_false, cond_true, cond_false]), trivial⟩, W⟩
    rw [hb1] at F
    iterate 4 refine Cx F Aa Aa Aa Aa Aa Aa Aa fun a F => ?_
    refine ls F W Aa (Au F Aa Aa Aa).q fun a w F W => ?_
    refine ls F W Aa (Ag F Aa).q fun a w F W => ?_
    refine Af (Ad ?_)
    exact ⟨F.re ⟨(by show some (Value.bool false) = some (Value.bool (decide (p0.2.1 = 0) && (decide (0 ≤ p0.2.2) && decide (p0.2.2 < p1)))); try rw [hb0]; try rw [hb1]; all_goals simp only [Bool.not_true, Bool.not_false, Bool.true_and, Bool.false_and, Bool.true_or, Bool.false_or, Bool.and_true, Bool.or_false, cond_true, cond_false]), trivial⟩, W⟩
   rw [hb0] at F
   iterate 3 refine Cx F Aa Aa Aa Aa Aa Aa Aa fun a F => ?_
   refine ls F W Aa (Au F Aa Aa Aa).q fun a w F W => ?_
   refine ls F W Aa (Ah F Aa).q fun a w F W => ?_
   iterate 4 refine Cx F Aa Aa Aa Aa Aa Aa Aa fun a F => ?_
   refine ls F W Aa (Au F Aa Aa Aa).q fun a w F W => ?_
   refine ls F W Aa (Ag F Aa).q fun a w F W => ?_
   refine Af (Ad ?_)
   exact ⟨F.re ⟨(by show some (Value.bool false) = some (Value.bool (decide (p0.2.1 = 0) && (decide (0 ≤ p0.2.2) && decide (p0.2.2 < p1)))); try rw [hb0]; all_goals simp only [Bool.not_true, Bool.not_false, Bool.true_and, Bool.false_and, Bool.true_or, Bool.false_or, Bool.and_true, Bool.or_false, cond_true, cond_false]), trivial⟩, W⟩
  rintro a w ⟨F, W⟩
  refine Aw (AJ (AD ?_))
  have H := AH H
  subst H
  refine AE (.inl Aa) F W Aa (Av F Aa) ?_
  exact ⟨rfl, W.done⟩
 have H := AL (Bb hb) H
 rw [hb] at F
 clear hb
 refine Ak (Ae ?_)
 refine ls F W Aa (BM F Aa Aa).q fun a w F W => ?_
 refine ls F W Aa (Ag F Aa).q fun a w F W => ?_
 refine Af (Ad ?_)
 refine Az F Aa (fun hb => ?_) fun hb => ?_
 ·
  have H := AK (Ba hb) H
  rw [hb] at F
  clear hb
  refine AF (fun a w => Fr 56 [] [(4, .bool (decide (p0.2.1 = 0) && decide (p0.2.2 = 0)))] a ∧ Stw ⟨Y, [], w0⟩ [(b1, [.int .i64 p0.1, .int .i64 p0.2.1, .int .i64 p0.2.2])] [] w) ?_ ?_
  ·
   refine Ae ?_
   refine ls F W Aa (Al Dd Aa Aa Aa T3 F Aa 1 Aa).q fun a w F W => ?_
   refine ls F W Aa (As (v := Value.int .i64 p0.2.1) 0 F Aa Aa T3 Aa).q fun a w F W => ?_
   refine ls F W Aa (BM F Aa Aa).q fun a w F W => ?_
   refine ls F W Aa (Ah F Aa).q fun a w F W => ?_
   rcases Bool.eq_false_or_eq_true (decide (p0.2.1 = 0)) with hb0 | hb0
   ·
    rw [hb0] at F
    refine AM F W (Aj F Aa Aa Aa Aa) Aa (Ap Aa) (Al Dd Aa Aa Aa T3 F Aa 2 Aa).q fun a w F W => ?_
    refine AM F W (Aj F Aa Aa Aa Aa) Aa (Ap Aa) (As (v := Value.int .i64 p0.2.2) 0 F Aa Aa T3 Aa).q fun a w F W => ?_
    refine AM F W (Aj F Aa Aa Aa Aa) Aa (Ap Aa) (BM F Aa Aa).q fun a w F W => ?_
    refine ls F W Aa (Ay F Aa Aa Aa).q fun a w F W => ?_
    refine ls F W Aa (Ag F Aa).q fun a w F W => ?_
    refine Af (Ad ?_)
    exact ⟨F.re ⟨(by show some (Value.bool (decide (p0.2.2 = 0))) = some (Value.bool (decide (p0.2.1 = 0) && decide (p0.2.2 = 0))); try rw [hb0]; all_goals simp only [Bool.not_true, Bool.not_false, Bool.true_and, Bool.false_and, Bool.true_or, Bool.false_or, Bool.and_true, Bool.or_false, cond_true, cond_false]), trivial⟩, W⟩
   rw [hb0] at F
   iterate 3 refine Cx F Aa Aa Aa Aa Aa Aa Aa fun a F => ?_
   refine ls F W Aa (Au F Aa Aa Aa).q fun a w F W => ?_
   refine ls F W Aa (Ag F Aa).q fun a w F W => ?_
   refine Af (Ad ?_)
   exact ⟨F.re ⟨(by show some (Value.bool false) = some (Value.bool (decide (p0.2.1 = 0) && decide (p0.2.2 = 0))); try rw [hb0]; all_goals simp only [Bool.not_true, Bool.not_false, Bool.true_and, Bool.false_and, Bool.true_or, Bool.false_or, Bool.and_true, Bool.or_false, cond_true, cond_false]), trivial⟩, W⟩
  rintro a w ⟨F, W⟩
  refine Aw (AJ (AD ?_))
  have H := AH H
  subst H
  refine AE (.inl Aa) F W Aa (Av F Aa) ?_
  exact ⟨rfl, W.done⟩
 have H := AL (Bb hb) H
 rw [hb] at F
 clear hb
 refine Ax (AS (Ad (Ak (Ae ?_))))
 refine ls F W Aa (Ag F Aa).q fun a w F W => ?_
 refine Af (Ad (Aw ?_))
 have H := AH H
 subst H
 refine AE (.inl Aa) F W Aa (Av F Aa) ?_
 exact ⟨rfl, W.done⟩
theorem OT : Has Try.prog 74 := ⟨fun args w => An Try.func74 rfl (by decide) args w⟩
noncomputable def DC (p0 : List (Int × Int × Int)) (p1 : Int) : Int → Option (Int ⊕ (Unit ⊕ Bool))
  | x1 => (if x1 < (p0.length : Int) then (ix p0 x1).bind fun x2 => (Eb x2 p1).bind fun x3 => (if (!x3) = true then some (.inr (.inr false)) else some (.inl (CJ (x1 + 1)))) else some (.inr (.inl ())))
noncomputable def Ed (p0 : List (Int × Int × Int)) (p1 : Int) : Option Bool := (if 16 < (p0.length : Int) then some false else Fu (Bi (DC p0 p1) 0) fun _ => some true)
theorem Jt (Y : Nat → Prop) (w0 : World) (v1 : Value) (p0 : List (Int × Int × Int)) (p1 : Int) (r : Bool) (H : Ed p0 p1 = some r) (h_v1 : Sl w0 (NX []) Bw v1 p0) :
    Calls Try.prog 55 #[v1, .int .i64 p1] w0 fun e w' => e = .returned (.bool r) ∧ Below w0.heap.size w0 w' := by
 refine enter Try.func55 Aa Try.ntmps55 Aa fun a F => ?_
 have W := Stw.start Y w0
 unfold Ed at H
 refine Ak (Ae ?_)
 refine ls F W Aa (Ag F Aa).q fun a w F W => ?_
 refine Af (Ad (Ak (Ak (Ae ?_))))
 refine ls F W Aa (Ah F Aa).q fun a w F W => ?_
 refine ls F W Aa (B6 (r := Bw) (l := p0) HD Aa F Aa (Aq h_v1)).q fun a w F W => ?_
 refine ls F W Aa (FO F Aa Aa).q fun a w F W => ?_
 refine Af (Ad ?_)
 refine Az F Aa (fun hb => ?_) fun hb => ?_
 ·
  have H := AK (Ba hb) H
  rw [hb] at F
  clear hb
  refine Ak (Ae ?_)
  refine ls F W Aa (Ag F Aa).q fun a w F W => ?_
  refine Af (Ad (Aw (AD ?_)))
  have H := AH H
  subst H
  refine AE (.inl Aa) F W Aa (Av F Aa) ?_
  exact ⟨rfl, W.done⟩
 have H := AL (Bb hb) H
 rw [hb] at F
 clear hb
 refine Ax (Ad ?_)
 obtain ⟨o1, G1, K1, L1⟩ := HM H
 refine AF (fun a w => some (Sum.inl ()) = some o1 ∧ Fr 21 [] [(4, .bool false)] a ∧ Stw ⟨Y, [], w0⟩ [] [] w) ?_ ?_
 ·
  have H := G1
  clear G1 K1
  refine Ak (Ae ?_)
  refine ls F W Aa (Ah F Aa).q fun a w F W => ?_
  refine ls F W Aa (B6 (r := Bw) (l := p0) HD Aa F Aa (Aq h_v1)).q fun a w F W => ?_
  refine ls F W Aa (Ah F Aa).q fun a w F W => ?_
  refine Af (Ad (AC ?_))
  refine BA H (fun s a w => Fr 21 [] [(1, .int .i64 p1), (4, .bool false), (10, v1), (11, .int .i64 (p0.length : Int)), (12, .int .i64 s)] a ∧ Stw ⟨Y, [], w0⟩ [] [] w) ⟨F.re ⟨rfl, Aa, Aa, Aa, Aa, trivial⟩, W⟩ fun s o a w H L2 hR => ?_
  obtain ⟨x1, rfl⟩ : ∃ x, x = s := ⟨s, rfl⟩
  obtain ⟨F, W⟩ := hR
  have F : Fr 21 [] [(1, .int .i64 p1), (4, .bool false), (10, v1), (11, .int .i64 (p0.length : Int)), (12, .int .i64 x1)] a := F
  have W : Stw ⟨Y, [], w0⟩ [] [] w := W
  rw [DC] at H
  refine Ak (Ae ?_)
  refine ls F W Aa (BL F Aa Aa).q fun a w F W => ?_
  refine Af (Ad (Ak ?_))
  refine Az F Aa (fun hb => ?_) fun hb => ?_
  ·
   have H := AK (Ba hb) H
   rw [hb] at F
   clear hb
   refine Ax (Ad (Ak (AC (Ak (Ae ?_)))))
   obtain ⟨x2, h1, H⟩ := Ao H
   refine ls F W Aa (A1 (r := Bw) JX F Aa Aa (Aq h_v1) h1).q fun a w F W => ?_
   refine ls F W Aa (AR (y := Value.agg #[.int .i64 x2.1, .int .i64 x2.2.1, .int .i64 x2.2.2]) (j := 0) (i := x1) F Aa Aa (Aq h_v1) h1 Kg.to Mk Aa).q fun a w F W => ?_
   refine B9 (cs := [.int .i64 0, .int .i64 0, .int .i64 0]) F W Aa Nd Aa fun b1 a w F W => ?_
   refine Bq (vs := [.int .i64 x2.1, .int .i64 x2.2.1, .int .i64 x2.2.2]) (M' := [(b1, [.int .i64 x2.1, .int .i64 x2.2.1, .int .i64 x2.2.2])]) 0 F W Aa Aa Aa Mk Aa Aa Aa Aa Aa fun w W => ?_
   refine Af (Ad (Ak (Ae ?_)))
   refine ls F W Aa (As (v := Value.agg #[.int .i64 x2.1, .int .i64 x2.2.1, .int .i64 x2.2.2]) 0 F Aa Aa Mk Aa).q fun a w F W => ?_
   refine ls F W Aa (Ah F Aa).q fun a w F W => ?_
   obtain ⟨x3, h2, H⟩ := Ao H
   refine ls F W Aa (AQ (v := Value.bool x3) F OT Aa (fun w W => JA any w x2 p1 _ h2)) fun a w F W => ?_
   refine ls F W Aa (Fk F Aa).q fun a w F W => ?_
   refine Af (Ad ?_)
   refine Az F Aa (fun hb => ?_) fun hb => ?_
   ·
    have H := AK hb H
    rw [hb] at F
    clear hb
    refine Ak (Ae ?_)
    refine ls F W Aa (Ag F Aa).q fun a w F W => ?_
    refine Af (Ad (Aw (AJ ?_)))
    iterate 2 refine AD ?_
    refine AJ (AD ?_)
    have H := L2 _ H
    have H := L1 _ H
    have H := AH H
    subst H
    refine AE (.inl Aa) F W Aa (Av F Aa) ?_
    exact ⟨rfl, W.done⟩
   have H := AL (by rw [hb]; decide) H
   rw [hb] at F
   clear hb
   refine Ax (AS (Ad (Ae ?_)))
   refine ls F W Aa (Cf F Aa Aa Aa).q fun a w F W => ?_
   refine ls F W Aa (Ah F Aa).q fun a w F W => ?_
   refine Af (Ad ?_)
   have W := W.sub (M' := []) (Z' := []) (List.nil_sublist _) (List.Sublist.refl _)
   exact ⟨_, H, F.re ⟨rfl, Aa, Aa, Aa, Aa, trivial⟩, W⟩
  have H := AL (Bb hb) H
  rw [hb] at F
  clear hb
  refine Bz ?_
  iterate 2 refine B1 ?_
  refine Bx (Ad ?_)
  have H := L2 _ H
  exact ⟨H, F.re ⟨rfl, trivial⟩, W⟩
 rintro a w ⟨hj, F, W⟩
 have H := K1 _ hj
 clear hj G1 K1 L1
 refine Ak (Ae ?_)
 refine ls F W Aa (Ag F Aa).q fun a w F W => ?_
 refine Af (Ad (Aw ?_))
 have H := AH H
 subst H
 refine AE (.inl Aa) F W Aa (Av F Aa) ?_
 exact ⟨rfl, W.done⟩
theorem OA : Has Try.prog 55 := ⟨fun args w => An Try.func55 rfl (by decide) args w⟩
noncomputable def Dm (p0 : Int × (Int × (Int × Int × Int × Int) × (Int × Int × Int × Int)) × (List (Int × Int × Int))) (p1 : Int) : Option Bool := (if 0 ≤ p0.1 then (if p0.1 < 65536 then (Dh p0.2.1).bind fun x2 => (if x2 = true then (Ed p0.2.2 p1).bind fun x3 => some x3 else some false) else some false) else some false).bind fun x1 => some x1
theorem GO (Y : Nat → Prop) (w0 : World) (v1 : Value) (p0 : Int × (Int × (Int × Int × Int × Int) × (Int × Int × Int × Int)) × (List (Int × Int × Int))) (p1 : Int) (r : Bool) (H : Dm p0 p1 = some r) (h_v1 : Sl w0 (NX []) Bw v1 p0.2.2) :
    Calls Try.prog 30 #[.agg #[.int .i64 p0.1, .int .i64 p0.2.1.1, .int .i64 p0.2.1.2.1.1, .int .i64 p0.2.1.2.1.2.1, .int .i64 p0.2.1.2.1.2.2.1, .int .i64 p0.2.1.2.1.2.2.2, .int .i64 p0.2.1.2.2.1, .int .i64 p0.2.1.2.2.2.1, .int .i64 p0.2.1.2.2.2.2.1, .int .i64 p0.2.1.2.2.2.2.2, v1], .int .i64 p1] w0 fun e w' => e = .returned (.bool r) ∧ Below w0.heap.size w0 w' := by
 refine enter Try.func30 Aa Try.ntmps30 Aa fun a F => ?_
 have W := Stw.start Y w0
 unfold Dm at H
 refine Ak (Ae ?_)
 refine BU (cs := [.int .i64 p0.1, .int .i64 p0.2.1.1, .int .i64 p0.2.1.2.1.1, .int .i64 p0.2.1.2.1.2.1, .int .i64 p0.2.1.2.1.2.2.1, .int .i64 p0.2.1.2.1.2.2.2, .int .i64 p0.2.1.2.2.1, .int .i64 p0.2.1.2.2.2.1, .int .i64 p0.2.1.2.2.2.2.1, .int .i64 p0.2.1.2.2.2.2.2, v1]) F W Aa Aa Aa fun b1 a w F W => ?_
 refine ls F W Aa (Ag F Aa).q fun a w F W => ?_
 refine Af (Ad ?_)
 obtain ⟨o1, G1, K1⟩ := Ao H
 refine AF (fun a w => ∃ x1 : Bool, some (x1) = some o1 ∧ Fr 24 [] [(4, .bool x1)] a ∧ Stw ⟨Y, [], w0⟩ [(b1, [.int .i64 p0.1, .int .i64 p0.2.1.1, .int .i64 p0.2.1.2.1.1, .int .i64 p0.2.1.2.1.2.1, .int .i64 p0.2.1.2.1.2.2.1, .int .i64 p0.2.1.2.1.2.2.2, .int .i64 p0.2.1.2.2.1, .int .i64 p0.2.1.2.2.2.1, .int .i64 p0.2.1.2.2.2.2.1, .int .i64 p0.2.1.2.2.2.2.2, v1])] [] w) ?_ ?_
 ·
  have H := G1
  clear G1 K1
  refine Ae ?_
  refine ls F W Aa (Al Cw Aa Aa Aa T3 F Aa 0 Aa).q fun a w F W => ?_
  refine ls F W Aa (As (v := Value.int .i64 p0.1) 0 F Aa Aa T3 Aa).q fun a w F W => ?_
  refine ls F W Aa (EF F Aa Aa).q fun a w F W => ?_
  refine ls F W Aa (Ah F Aa).q fun a w F W => ?_
  rcases Bool.eq_false_or_eq_true (decide (0 ≤ p0.1)) with hb | hb
  ·
   have H := AK (Ba hb) H
   rw [hb] at F
   clear hb
   refine AM F W (Aj F Aa Aa Aa Aa) Aa (Ap Aa) (Al Cw Aa Aa Aa T3 F Aa 0 Aa).q fun a w F W => ?_
   refine AM F W (Aj F Aa Aa Aa Aa) Aa (Ap Aa) (As (v := Value.int .i64 p0.1) 0 F Aa Aa T3 Aa).q fun a w F W => ?_
   refine AM F W (Aj F Aa Aa Aa Aa) Aa (Ap Aa) (BL F Aa Aa).q fun a w F W => ?_
   refine ls F W Aa (Ay F Aa Aa Aa).q fun a w F W => ?_
   refine ls F W Aa (Ah F Aa).q fun a w F W => ?_
   rcases Bool.eq_false_or_eq_true (decide (p0.1 < 65536)) with hb | hb
   ·
    have H := AK (Ba hb) H
    rw [hb] at F
    clear hb
    refine AM F W (Aj F Aa Aa Aa Aa) Aa (Ap Aa) (Al Cw Aa Aa Aa EA F Aa 1 Aa).q fun a w F W => ?_
    refine AM F W (Aj F Aa Aa Aa Aa) Aa (Ap Aa) (As (v := Value.agg #[.int .i64 p0.2.1.1, .int .i64 p0.2.1.2.1.1, .int .i64 p0.2.1.2.1.2.1, .int .i64 p0.2.1.2.1.2.2.1, .int .i64 p0.2.1.2.1.2.2.2, .int .i64 p0.2.1.2.2.1, .int .i64 p0.2.1.2.2.2.1, .int .i64 p0.2.1.2.2.2.2.1, .int .i64 p0.2.1.2.2.2.2.2]) 0 F Aa Aa EA Aa).q fun a w F W => ?_
    refine F7 (Aj F Aa Aa Aa Aa) ?_
    obtain ⟨x2, h1, H⟩ := Ao H
    refine ls F W Aa (AQ (v := Value.bool x2) F Ph Aa (fun w W => II any w p0.2.1 _ h1)) fun a w F W => ?_
    refine ls F W Aa (Ay F Aa Aa Aa).q fun a w F W => ?_
    refine ls F W Aa (Ah F Aa).q fun a w F W => ?_
    rcases Bool.eq_false_or_eq_true x2 with hb | hb
    ·
     have H := AK hb H
     rw [hb] at F
     clear hb
     refine AM F W (Aj F Aa Aa Aa Aa) Aa (Ap Aa) (Al Cw Aa Aa Aa HN F Aa 10 Aa).q fun a w F W => ?_
     refine AM F W (Aj F Aa Aa Aa Aa) Aa (Ap Aa) (As (v := v1) 0 F Aa Aa HN Aa).q fun a w F W => ?_
     refine AM F W (Aj F Aa Aa Aa Aa) Aa (Ap Aa) (Ah F Aa).q fun a w F W => ?_
     refine F7 (Aj F Aa Aa Aa Aa) ?_
     obtain ⟨x3, h2, H⟩ := Ao H
     refine ls F W Aa (AQ (v := Value.bool x3) F OA Aa (fun w W => Jt any w (v1) p0.2.2 p1 _ h2 (((Aq h_v1) : CB _ _ _ _ _ _) w W).nx)) fun a w F W => ?_
     refine ls F W Aa (Ay F Aa Aa Aa).q fun a w F W => ?_
     refine ls F W Aa (Ag F Aa).q fun a w F W => ?_
     refine Af (Ad ?_)
     exact ⟨_, H, F.re ⟨rfl, trivial⟩, W⟩
    have H := AL (by rw [hb]; decide) H
    rw [hb] at F
    clear hb
    iterate 4 refine Cx F Aa Aa Aa Aa Aa Aa Aa fun a F => ?_
    refine ls F W Aa (Au F Aa Aa Aa).q fun a w F W => ?_
    refine ls F W Aa (Ag F Aa).q fun a w F W => ?_
    refine Af (Ad ?_)
    exact ⟨_, H, F.re ⟨rfl, trivial⟩, W⟩
   have H := AL (Bb hb) H
   rw [hb] at F
   clear hb
   iterate 3 refine Cx F Aa Aa Aa Aa Aa Aa Aa fun a F => ?_
   refine ls F W Aa (Au F Aa Aa Aa).q fun a w F W => ?_
   refine ls F W Aa (Ah F Aa).q fun a w F W => ?_
   iterate 4 refine Cx F Aa Aa Aa Aa Aa Aa Aa fun a F => ?_
   refine ls F W Aa (Au F Aa Aa Aa).q fun a w F W => ?_
   refine ls F W Aa (Ag F Aa).q fun a w F W => ?_
   refine Af (Ad ?_)
   exact ⟨_, H, F.re ⟨rfl, trivial⟩, W⟩
  have H := AL (Bb hb) H
  rw [hb] at F
  clear hb
  iterate 3 refine Cx F Aa Aa Aa Aa Aa Aa Aa fun a F => ?_
  refine ls F W Aa (Au F Aa Aa Aa).q fun a w F W => ?_
  refine ls F W Aa (Ah F Aa).q fun a w F W => ?_
  iterate 3 refine Cx F Aa Aa Aa Aa Aa Aa Aa fun a F => ?_
  refine ls F W Aa (Au F Aa Aa Aa).q fun a w F W => ?_
  refine ls F W Aa (Ah F Aa).q fun a w F W => ?_
  iterate 4 refine Cx F Aa Aa Aa Aa Aa Aa Aa fun a F => ?_
  refine ls F W Aa (Au F Aa Aa Aa).q fun a w F W => ?_
  refine ls F W Aa (Ag F Aa).q fun a w F W => ?_
  refine Af (Ad ?_)
  exact ⟨_, H, F.re ⟨rfl, trivial⟩, W⟩
 rintro a w ⟨x1, hj, F, W⟩
 have hj := AH hj
 subst hj
 have H := K1
 clear G1 K1
 refine Aw ?_
 have H := AH H
 subst H
 refine AE (.inl Aa) F W Aa (Av F Aa) ?_
 exact ⟨rfl, W.done⟩
end Go.Proofs.Ytkjjioigbpkifaa
