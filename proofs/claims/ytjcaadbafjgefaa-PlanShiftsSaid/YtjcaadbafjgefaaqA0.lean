/- The functions of layer 24, lifted. Conditions: none. -/
import Derived.Test.YtjcaadbafjgefaaRows
import Derived.Test.YtjcaadbafjgefaaqQT
import Derived.Test.YtjcaadbafjgefaaqOT
import Derived.Test.YtjcaadbafjgefaaqOD
import Derived.Test.YtjcaadbafjgefaaqOC
import Derived.Test.YtjcaadbafjgefaaqOM
import Derived.Test.YtjcaadbafjgefaaqOX
namespace Go.Proofs.Ytjcaadbafjgefaa
open Go Go.RowKit
set_option linter.unusedVariables false
set_option linter.unusedSimpArgs false
set_option maxRecDepth 20000
theorem u22_ : type_of% Try.underlying22 := Try.underlying22
theorem u23_ : type_of% Try.underlying23 := Try.underlying23
theorem u25_ : type_of% Try.underlying25 := Try.underlying25
theorem u62_ : type_of% Try.underlying62 := Try.underlying62
theorem u64_ : type_of% Try.underlying64 := Try.underlying64
theorem u145_ : type_of% Try.underlying145 := Try.underlying145
theorem u148_ : type_of% Try.underlying148 := Try.underlying148
abbrev R62 : Rp (Int × Int × Int × Int × Int × Int) := (Rp.pair (Rp.int .i64) (Rp.pair (Rp.int .i64) (Rp.pair (Rp.int .i64) (Rp.pair (Rp.int .i64) (Rp.pair (Rp.int .i64) (Rp.int .i64))))))
abbrev R64 : Rp (Int × Int) := (Rp.pair (Rp.int .i64) (Rp.int .i64))
abbrev ER46 (p : Value × List Int) : List Int := p.2
theorem EX46 : Ex (Rp.slice (Rp.int .i64)) (Rp.vsl (Rp.int .i64)) ER46 := Ex.sliceF
theorem T25 : Ty Try.prog 25 true 3 := ⟨by kernel_rfl, by kernel_rfl⟩
theorem T3 : Ty Try.prog 3 false 1 := ⟨by kernel_rfl, by kernel_rfl⟩
theorem T22 : Ty Try.prog 22 false 1 := ⟨by kernel_rfl, by kernel_rfl⟩
theorem T23 : Ty Try.prog 23 false 1 := ⟨by kernel_rfl, by kernel_rfl⟩
abbrev KE148 (x : Int × Int) : Value := .agg #[.int .i64 x.1, .int .i64 x.2]
abbrev KE149 (x : Unit) : Value := .agg #[]
theorem L22 : Et Try.prog 22 62 6 48 := Et.of u22_ (by kernel_rfl) (by kernel_rfl) (by kernel_rfl) (by decide)
def E62 (a : Int × Int × Int × Int × Int × Int) : List Value := [.int .i64 a.1, .int .i64 a.2.1, .int .i64 a.2.2.1, .int .i64 a.2.2.2.1, .int .i64 a.2.2.2.2.1, .int .i64 a.2.2.2.2.2]
theorem F62 : Fl R62 E62 := (Fl.pair Fl.int (Fl.pair Fl.int (Fl.pair Fl.int (Fl.pair Fl.int (Fl.pair Fl.int Fl.int)))))
theorem T62 : Ty Try.prog 62 true 6 := ⟨by kernel_rfl, by kernel_rfl⟩
theorem Z62 : (Try.prog.info? 62).bind (·.zero) = some (.agg #[.int .i64 0, .int .i64 0, .int .i64 0, .int .i64 0, .int .i64 0, .int .i64 0]) := by kernel_rfl
theorem B148 : Bt Try.prog 148 [.int .i64 0, .int .i64 0] [(0, 1), (1, 1)] := ⟨⟨.agg #[.int .i64 0, .int .i64 0], by kernel_rfl, rfl⟩, ⟨_, u148_, fun w => by kernel_rfl⟩⟩
theorem Z148 : (Try.prog.info? 148).bind (·.zero) = some (.agg #[.int .i64 0, .int .i64 0]) := by kernel_rfl
abbrev R148 : Rp (Int × Int) := (Rp.pair (Rp.int .i64) (Rp.int .i64))
def E148 (a : Int × Int) : List Value := [.int .i64 a.1, .int .i64 a.2]
theorem F148 : Fl R148 E148 := (Fl.pair Fl.int Fl.int)
theorem L145 : Et Try.prog 145 148 2 16 := Et.of u145_ (by kernel_rfl) (by kernel_rfl) (by kernel_rfl) (by decide)
theorem L23 : Et Try.prog 23 64 2 16 := Et.of u23_ (by kernel_rfl) (by kernel_rfl) (by kernel_rfl) (by decide)
def E64 (a : Int × Int) : List Value := [.int .i64 a.1, .int .i64 a.2]
theorem F64 : Fl R64 E64 := (Fl.pair Fl.int Fl.int)
theorem T64 : Ty Try.prog 64 true 2 := ⟨by kernel_rfl, by kernel_rfl⟩
theorem Z64 : (Try.prog.info? 64).bind (·.zero) = some (.agg #[.int .i64 0, .int .i64 0]) := by kernel_rfl
noncomputable def topo_places_l1 (p0 : Int × (List (Int × Int × Int × Int × Int × Int)) × (List (Int × Int))) : ((List (Int × Int)) × Int) → Option (((List (Int × Int)) × Int) ⊕ (List (Int × Int)))
  | (x2, x3) => (if x3 < (p0.2.1.length : Int) then (ix p0.2.1 x3).bind fun x4 => (app x2 ([(x4.1, x4.2.1), (x4.2.2.1, x4.2.2.2.1)] : List (Int × Int))).bind fun x5 => some (.inl (x5, w64 (x3 + 1))) else some (.inr x2))
noncomputable def topo_places_l2 (p0 : Int × (List (Int × Int × Int × Int × Int × Int)) × (List (Int × Int))) : ((List (Int × Int)) × Int) → Option (((List (Int × Int)) × Int) ⊕ (List (Int × Int)))
  | (x7, x8) => (if x8 < (p0.2.2.length : Int) then (ix p0.2.2 x8).bind fun x9 => (app x7 ([x9] : List (Int × Int))).bind fun x10 => some (.inl (x10, w64 (x8 + 1))) else some (.inr x7))
noncomputable def topo_places (p0 : Int × (List (Int × Int × Int × Int × Int × Int)) × (List (Int × Int))) : Option (List (Int × Int)) := (loopW (topo_places_l1 p0) ([], 0)).bind fun x1 => (loopW (topo_places_l2 p0) (x1, 0)).bind fun x6 => some x6
theorem topo_places_c (Y : Nat → Prop) (w0 : World) (v1 : Value) (v2 : Value) (p0 : Int × (List (Int × Int × Int × Int × Int × Int)) × (List (Int × Int))) (r : (List (Int × Int))) (H : topo_places p0 = some r) (h_v1 : Sl w0 (NX []) R62 v1 p0.2.1) (h_v2 : Sl w0 (NX []) R64 v2 p0.2.2) :
    Calls Try.prog 86 #[.agg #[.int .i64 p0.1, v1, v2]] w0 fun e w' => ∃ x : Value, e = .returned (x) ∧ Stw ⟨Y, [], w0⟩ [] [row (x) 148 R148 r] w' := by
 refine enter Try.func86 rfl Try.ntmps86 rfl (fun a hF => ?_)
 have hW := Stw.start Y w0
 unfold topo_places at H
 refine c_seq (reg_list ?_)
 refine l_box (cs := [.int .i64 p0.1, v1, v2]) hF hW rfl rfl rfl (fun b1 a w hF hW => ?_)
 refine ls hF hW rfl ((y_assign hF rfl).q) (fun a w hF hW => ?_)
 refine ls_nil (c_then ?_)
 refine c_seq (reg_list ?_)
 refine ls hF hW rfl ((y_assign hF rfl).q) (fun a w hF hW => ?_)
 refine ls_nil (c_then ?_)
 obtain ⟨o1, G1, K1⟩ := bindE H
 refine c_seqJ (fun a w => ∃ x1 : List (Int × Int), ∃ v3 : Value, some (x1) = some o1 ∧ Fr 46 [] [(1, .pointer (some ⟨b1, 0, none⟩)), (2, .slice none 0 0), (3, v3)] a ∧ Stw ⟨Y, [], w0⟩ [(b1, [.int .i64 p0.1, v1, v2])] [row v3 148 R148 x1] w) ?_ ?_
 ·
  have H := G1
  clear G1 K1
  refine c_seq (reg_list ?_)
  refine ls hF hW rfl ((y_fieldAddr u25_ rfl rfl rfl T22 hF rfl 1 rfl).q) (fun a w hF hW => ?_)
  refine ls hF hW rfl ((y_load (v := v1) 0 hF rfl rfl T22 rfl).q) (fun a w hF hW => ?_)
  refine ls hF hW rfl ((y_len (r := R62) (l := p0.2.1) u22_ rfl hF rfl (rdc_ro h_v1)).q) (fun a w hF hW => ?_)
  refine ls hF hW rfl ((y_move hF rfl).q) (fun a w hF hW => ?_)
  refine ls_nil (c_then ?_)
  refine wp_block ?_
  have hW := hW.nilRow 148 R148
  refine c_loopW H (fun s a w => ∃ v4 : Value, Fr 46 [] [(1, .pointer (some ⟨b1, 0, none⟩)), (2, .slice none 0 0), (3, v4), (9, v1), (10, .int .i64 (p0.2.1.length : Int)), (11, .int .i64 s.2)] a ∧ Stw ⟨Y, [], w0⟩ [(b1, [.int .i64 p0.1, v1, v2])] [row v4 148 R148 s.1] w) ⟨(Value.slice none 0 0), hF.re ⟨rfl, rfl, rfl, rfl, rfl, rfl, trivial⟩, hW⟩ (fun s o a w H L2 hR => ?_)
  obtain ⟨x2, x3⟩ := s
  obtain ⟨v4, hF, hW⟩ := hR
  have hF : Fr 46 [] [(1, .pointer (some ⟨b1, 0, none⟩)), (2, .slice none 0 0), (3, v4), (9, v1), (10, .int .i64 (p0.2.1.length : Int)), (11, .int .i64 x3)] a := hF
  have hW : Stw ⟨Y, [], w0⟩ [(b1, [.int .i64 p0.1, v1, v2])] [row v4 148 R148 x2] w := hW
  rw [topo_places_l1] at H
  refine c_seq (reg_list ?_)
  refine ls hF hW rfl ((y_lss hF rfl rfl).q) (fun a w hF hW => ?_)
  refine ls_nil (c_then ?_)
  refine c_seq ?_
  refine c_cond hF rfl (fun hb => ?_) (fun hb => ?_)
  ·
   have H := iteT (of_decide_eq_true hb) H
   rw [hb] at hF
   clear hb
   refine wp_skip ?_
   refine c_then ?_
   refine c_seq ?_
   refine wp_block ?_
   refine c_seq (reg_list ?_)
   obtain ⟨x4, h1, H⟩ := bindE H
   refine ls hF hW rfl ((y_index (r := R62) L22 hF rfl rfl (rdc_ro h_v1) h1).q) (fun a w hF hW => ?_)
   refine ls hF hW rfl ((y_load_el (y := Value.agg #[.int .i64 x4.1, .int .i64 x4.2.1, .int .i64 x4.2.2.1, .int .i64 x4.2.2.2.1, .int .i64 x4.2.2.2.2.1, .int .i64 x4.2.2.2.2.2]) (j := 0) (i := x3) hF rfl rfl (rdc_ro h_v1) h1 F62.to T62 rfl).q) (fun a w hF hW => ?_)
   refine l_alloc (cs := [.int .i64 0, .int .i64 0, .int .i64 0, .int .i64 0, .int .i64 0, .int .i64 0]) hF hW rfl Z62 rfl (fun b2 a w hF hW => ?_)
   refine l_store (vs := [.int .i64 x4.1, .int .i64 x4.2.1, .int .i64 x4.2.2.1, .int .i64 x4.2.2.2.1, .int .i64 x4.2.2.2.2.1, .int .i64 x4.2.2.2.2.2]) (M' := [(b2, [.int .i64 x4.1, .int .i64 x4.2.1, .int .i64 x4.2.2.1, .int .i64 x4.2.2.2.1, .int .i64 x4.2.2.2.2.1, .int .i64 x4.2.2.2.2.2]), (b1, [.int .i64 p0.1, v1, v2])]) 0 hF hW rfl rfl rfl T62 rfl rfl rfl rfl rfl (fun w hW => ?_)
   refine ls_nil (c_then ?_)
   refine reg_list ?_
   refine ls hF hW rfl ((y_move hF rfl).q) (fun a w hF hW => ?_)
   refine ls hF hW rfl ((y_fieldAddr u62_ rfl rfl rfl T3 hF rfl 0 rfl).q) (fun a w hF hW => ?_)
   refine ls hF hW rfl ((y_load (v := Value.int .i64 x4.1) 0 hF rfl rfl T3 rfl).q) (fun a w hF hW => ?_)
   refine ls hF hW rfl ((y_fieldAddr u62_ rfl rfl rfl T3 hF rfl 1 rfl).q) (fun a w hF hW => ?_)
   refine ls hF hW rfl ((y_load (v := Value.int .i64 x4.2.1) 0 hF rfl rfl T3 rfl).q) (fun a w hF hW => ?_)
   refine ls hF hW rfl ((y_build (v := Value.agg #[.int .i64 x4.1, .int .i64 x4.2.1]) B148 hF rfl rfl rfl).q) (fun a w hF hW => ?_)
   refine ls hF hW rfl ((y_fieldAddr u62_ rfl rfl rfl T3 hF rfl 2 rfl).q) (fun a w hF hW => ?_)
   refine ls hF hW rfl ((y_load (v := Value.int .i64 x4.2.2.1) 0 hF rfl rfl T3 rfl).q) (fun a w hF hW => ?_)
   refine ls hF hW rfl ((y_fieldAddr u62_ rfl rfl rfl T3 hF rfl 3 rfl).q) (fun a w hF hW => ?_)
   refine ls hF hW rfl ((y_load (v := Value.int .i64 x4.2.2.2.1) 0 hF rfl rfl T3 rfl).q) (fun a w hF hW => ?_)
   refine ls hF hW rfl ((y_build (v := Value.agg #[.int .i64 x4.2.2.1, .int .i64 x4.2.2.2.1]) B148 hF rfl rfl rfl).q) (fun a w hF hW => ?_)
   refine l_lit (z := Value.agg #[.int .i64 0, .int .i64 0]) (cs := [.int .i64 x4.1, .int .i64 x4.2.1, .int .i64 x4.2.2.1, .int .i64 x4.2.2.2.1]) R148 ([(x4.1, x4.2.1), (x4.2.2.1, x4.2.2.2.1)] : List (Int × Int)) hF hW rfl L145 Z148 rfl rfl rfl rfl rfl rfl (F148.repL _ _ ([(x4.1, x4.2.1), (x4.2.2.1, x4.2.2.2.1)] : List (Int × Int))) (fun v5 a w hF hW => ?_)
   obtain ⟨x5, h2, H⟩ := bindE H
   refine l_append (r := R148) (i := 1) hF hW rfl L145 rfl rfl rfl rfl (src_row hW 0 rfl) h2 rfl (fun v6 a w hF hW => ?_)
   have hW : Stw ⟨Y, [], w0⟩ [(b2, [.int .i64 x4.1, .int .i64 x4.2.1, .int .i64 x4.2.2.1, .int .i64 x4.2.2.2.1, .int .i64 x4.2.2.2.2.1, .int .i64 x4.2.2.2.2.2]), (b1, [.int .i64 p0.1, v1, v2])] [row v6 148 R148 x5, row v5 148 R148 ([(x4.1, x4.2.1), (x4.2.2.1, x4.2.2.2.1)] : List (Int × Int))] w := hW
   refine ls hF hW rfl ((y_assign hF rfl).q) (fun a w hF hW => ?_)
   refine ls_nil ?_
   refine b_normal ?_
   refine c_then ?_
   refine reg_list ?_
   refine ls hF hW rfl ((y_add hF rfl rfl rfl).q) (fun a w hF hW => ?_)
   refine ls hF hW rfl ((y_move hF rfl).q) (fun a w hF hW => ?_)
   refine ls_nil (c_then ?_)
   have hW := hW.frontM (i := 1) rfl rfl
   have hW := hW.sub (M' := [(b1, [.int .i64 p0.1, v1, v2])]) (Z' := [row v6 148 R148 x5]) (List.Sublist.cons_cons _ (List.nil_sublist _)) (List.Sublist.cons_cons _ (List.nil_sublist _))
   exact ⟨_, H, (v6), hF.re ⟨rfl, rfl, rfl, rfl, rfl, rfl, trivial⟩, hW⟩
  ·
   have H := iteF (of_decide_eq_false hb) H
   rw [hb] at hF
   clear hb
   refine wp_exit ?_
   iterate 2 refine e_then ?_
   refine e_block ?_
   refine c_then ?_
   have H := L2 _ H
   exact ⟨_, (v4), H, hF.re ⟨rfl, rfl, rfl, trivial⟩, hW⟩
 rintro a w ⟨x1, v3, hj, hF, hW⟩
 have hj := Option.some.inj hj
 subst hj
 have H := K1
 clear G1 K1
 obtain ⟨o3, G3, K3⟩ := bindE H
 refine c_seqJ (fun a w => ∃ x6 : List (Int × Int), ∃ v7 : Value, some (x6) = some o3 ∧ Fr 46 [] [(2, .slice none 0 0), (3, v7)] a ∧ Stw ⟨Y, [], w0⟩ [(b1, [.int .i64 p0.1, v1, v2])] [row v7 148 R148 x6] w) ?_ ?_
 ·
  have H := G3
  clear G3 K3
  refine c_seq (reg_list ?_)
  refine ls hF hW rfl ((y_fieldAddr u25_ rfl rfl rfl T23 hF rfl 2 rfl).q) (fun a w hF hW => ?_)
  refine ls hF hW rfl ((y_load (v := v2) 0 hF rfl rfl T23 rfl).q) (fun a w hF hW => ?_)
  refine ls hF hW rfl ((y_len (r := R64) (l := p0.2.2) u23_ rfl hF rfl (rdc_ro h_v2)).q) (fun a w hF hW => ?_)
  refine ls hF hW rfl ((y_move hF rfl).q) (fun a w hF hW => ?_)
  refine ls_nil (c_then ?_)
  refine wp_block ?_
  refine c_loopW H (fun s a w => ∃ v8 : Value, Fr 46 [] [(2, .slice none 0 0), (3, v8), (30, v2), (31, .int .i64 (p0.2.2.length : Int)), (32, .int .i64 s.2)] a ∧ Stw ⟨Y, [], w0⟩ [(b1, [.int .i64 p0.1, v1, v2])] [row v8 148 R148 s.1] w) ⟨(v3), hF.re ⟨rfl, rfl, rfl, rfl, rfl, trivial⟩, hW⟩ (fun s o a w H L4 hR => ?_)
  obtain ⟨x7, x8⟩ := s
  obtain ⟨v8, hF, hW⟩ := hR
  have hF : Fr 46 [] [(2, .slice none 0 0), (3, v8), (30, v2), (31, .int .i64 (p0.2.2.length : Int)), (32, .int .i64 x8)] a := hF
  have hW : Stw ⟨Y, [], w0⟩ [(b1, [.int .i64 p0.1, v1, v2])] [row v8 148 R148 x7] w := hW
  rw [topo_places_l2] at H
  refine c_seq (reg_list ?_)
  refine ls hF hW rfl ((y_lss hF rfl rfl).q) (fun a w hF hW => ?_)
  refine ls_nil (c_then ?_)
  refine c_seq ?_
  refine c_cond hF rfl (fun hb => ?_) (fun hb => ?_)
  ·
   have H := iteT (of_decide_eq_true hb) H
   rw [hb] at hF
   clear hb
   refine wp_skip ?_
   refine c_then ?_
   refine c_seq ?_
   refine wp_block ?_
   refine c_seq (reg_list ?_)
   obtain ⟨x9, h3, H⟩ := bindE H
   refine ls hF hW rfl ((y_index (r := R64) L23 hF rfl rfl (rdc_ro h_v2) h3).q) (fun a w hF hW => ?_)
   refine ls hF hW rfl ((y_load_el (y := Value.agg #[.int .i64 x9.1, .int .i64 x9.2]) (j := 0) (i := x8) hF rfl rfl (rdc_ro h_v2) h3 F64.to T64 rfl).q) (fun a w hF hW => ?_)
   refine l_alloc (cs := [.int .i64 0, .int .i64 0]) hF hW rfl Z64 rfl (fun b3 a w hF hW => ?_)
   refine l_store (vs := [.int .i64 x9.1, .int .i64 x9.2]) (M' := [(b3, [.int .i64 x9.1, .int .i64 x9.2]), (b1, [.int .i64 p0.1, v1, v2])]) 0 hF hW rfl rfl rfl T64 rfl rfl rfl rfl rfl (fun w hW => ?_)
   refine ls_nil (c_then ?_)
   refine reg_list ?_
   refine ls hF hW rfl ((y_move hF rfl).q) (fun a w hF hW => ?_)
   refine ls hF hW rfl ((y_fieldAddr u64_ rfl rfl rfl T3 hF rfl 0 rfl).q) (fun a w hF hW => ?_)
   refine ls hF hW rfl ((y_load (v := Value.int .i64 x9.1) 0 hF rfl rfl T3 rfl).q) (fun a w hF hW => ?_)
   refine ls hF hW rfl ((y_fieldAddr u64_ rfl rfl rfl T3 hF rfl 1 rfl).q) (fun a w hF hW => ?_)
   refine ls hF hW rfl ((y_load (v := Value.int .i64 x9.2) 0 hF rfl rfl T3 rfl).q) (fun a w hF hW => ?_)
   refine ls hF hW rfl ((y_build (v := Value.agg #[.int .i64 x9.1, .int .i64 x9.2]) B148 hF rfl rfl rfl).q) (fun a w hF hW => ?_)
   refine l_lit (z := Value.agg #[.int .i64 0, .int .i64 0]) (cs := [.int .i64 x9.1, .int .i64 x9.2]) R148 ([x9] : List (Int × Int)) hF hW rfl L145 Z148 rfl rfl rfl rfl rfl rfl (F148.repL _ _ ([x9] : List (Int × Int))) (fun v9 a w hF hW => ?_)
   obtain ⟨x10, h4, H⟩ := bindE H
   refine l_append (r := R148) (i := 1) hF hW rfl L145 rfl rfl rfl rfl (src_row hW 0 rfl) h4 rfl (fun v10 a w hF hW => ?_)
   have hW : Stw ⟨Y, [], w0⟩ [(b3, [.int .i64 x9.1, .int .i64 x9.2]), (b1, [.int .i64 p0.1, v1, v2])] [row v10 148 R148 x10, row v9 148 R148 ([x9] : List (Int × Int))] w := hW
   refine ls hF hW rfl ((y_assign hF rfl).q) (fun a w hF hW => ?_)
   refine ls_nil ?_
   refine b_normal ?_
   refine c_then ?_
   refine reg_list ?_
   refine ls hF hW rfl ((y_add hF rfl rfl rfl).q) (fun a w hF hW => ?_)
   refine ls hF hW rfl ((y_move hF rfl).q) (fun a w hF hW => ?_)
   refine ls_nil (c_then ?_)
   have hW := hW.frontM (i := 1) rfl rfl
   have hW := hW.sub (M' := [(b1, [.int .i64 p0.1, v1, v2])]) (Z' := [row v10 148 R148 x10]) (List.Sublist.cons_cons _ (List.nil_sublist _)) (List.Sublist.cons_cons _ (List.nil_sublist _))
   exact ⟨_, H, (v10), hF.re ⟨rfl, rfl, rfl, rfl, rfl, trivial⟩, hW⟩
  ·
   have H := iteF (of_decide_eq_false hb) H
   rw [hb] at hF
   clear hb
   refine wp_exit ?_
   iterate 2 refine e_then ?_
   refine e_block ?_
   refine c_then ?_
   have H := L4 _ H
   exact ⟨_, (v8), H, hF.re ⟨rfl, rfl, trivial⟩, hW⟩
 rintro a w ⟨x6, v7, hj, hF, hW⟩
 have hj := Option.some.inj hj
 subst hj
 have H := K3
 clear G3 K3
 refine c_seq (reg_list ?_)
 refine ls hF hW rfl ((y_move hF rfl).q) (fun a w hF hW => ?_)
 refine ls hF hW rfl ((y_assign hF rfl).q) (fun a w hF hW => ?_)
 refine ls_nil (c_then ?_)
 refine wp_ret ?_
 have H := Option.some.inj H
 subst H
 refine post1 (.inl rfl) hF hW rfl (rv_tmp hF rfl) ?_
 have hW := hW.sub (M' := []) (Z' := [row v7 148 R148 x6]) (List.nil_sublist _) (List.Sublist.refl _)
 exact ⟨(v7), rfl, hW⟩

theorem u3_ : type_of% Try.underlying3 := Try.underlying3
theorem u149_ : type_of% Try.underlying149 := Try.underlying149
theorem H86 : Has Try.prog 86 := ⟨fun args w => run_callFunc_body Try.func86 rfl (by decide) args w⟩
theorem T148 : Ty Try.prog 148 true 2 := ⟨by kernel_rfl, by kernel_rfl⟩
theorem QD148 (dd : Nat) (x0 : Int) (x1 : Int) (y0 : Int) (y1 : Int) (w : World) : (Op.equalIn (dd + 2) 148 (.agg #[.int .i64 x0, .int .i64 x1]) (.agg #[.int .i64 y0, .int .i64 y1])).run Try.prog w = .ok (decide (x0 = y0 ∧ x1 = y1)) w :=
  eq_struct (d := dd + 1) (rs := [decide (x0 = y0), decide (x1 = y1)]) u148_ (by kernel_rfl) ⟨rfl, fld_int (d := dd + 0) rfl rfl u3_ T3 rfl rfl, rfl, fld_int (d := dd + 0) rfl rfl u3_ T3 rfl rfl, trivial⟩ (by simp) w
theorem G148 : Try.prog.eqGuardType Try.prog.depth 148 = false := by kernel_rfl
theorem Q148 (x0 : Int) (x1 : Int) (y0 : Int) (y1 : Int) (w : World) : (Op.equalIn 10000 148 (.agg #[.int .i64 x0, .int .i64 x1]) (.agg #[.int .i64 y0, .int .i64 y1])).run Try.prog w = .ok (decide (x0 = y0 ∧ x1 = y1)) w := QD148 9998 x0 x1 y0 y1 w
theorem KK148 : KeyEnc Try.prog 148 KE148 := ⟨⟨_, u148_, .inl fun _ _ => rfl⟩, fun x y w => (Q148 x.1 x.2 y.1 y.2 w).trans (by congr 1; exact decide_eq_decide.2 (by simp only [Prod.ext_iff])), fun b x w => checkKey_struct (m := 9999) (cs := List.toArray [.int .i64 x.1, .int .i64 x.2]) u148_ ⟨⟨_, part_int T3 rfl, checkKey_int (m := 9998) u3_⟩, ⟨_, part_int T3 rfl, checkKey_int (m := 9998) u3_⟩, trivial⟩ b w, fun x => by simp [Instr.sameBits]⟩
theorem Z149 : (Try.prog.info? 149).bind (·.zero) = some (.agg #[]) := by kernel_rfl
theorem T149 : Ty Try.prog 149 true 0 := ⟨by kernel_rfl, by kernel_rfl⟩
theorem B149 : Bt Try.prog 149 [] [] := ⟨⟨.agg #[], by kernel_rfl, rfl⟩, ⟨_, u149_, fun w => by kernel_rfl⟩⟩
def topo_wrongLink (p0 : Int × Int × Int × Int × Int × Int) : Bool := (decide (p0.1 = p0.2.2.1) || (decide (p0.2.2.2.2.1 < 1) || (decide (p0.2.2.2.2.2 < p0.2.2.2.2.1) || decide (1000 < p0.2.2.2.2.2))))
theorem topo_wrongLink_c (Y : Nat → Prop) (w0 : World)  (p0 : Int × Int × Int × Int × Int × Int) (r : Bool) (H : topo_wrongLink p0 = r)  :
    Calls Try.prog 88 #[.agg #[.int .i64 p0.1, .int .i64 p0.2.1, .int .i64 p0.2.2.1, .int .i64 p0.2.2.2.1, .int .i64 p0.2.2.2.2.1, .int .i64 p0.2.2.2.2.2]] w0 fun e w' => e = .returned (.bool r) ∧ Below w0.heap.size w0 w' := by
 refine enter Try.func88 rfl Try.ntmps88 rfl (fun a hF => ?_)
 have hW := Stw.start Y w0
 unfold topo_wrongLink at H
 refine c_seq (reg_list ?_)
 refine l_box (cs := [.int .i64 p0.1, .int .i64 p0.2.1, .int .i64 p0.2.2.1, .int .i64 p0.2.2.2.1, .int .i64 p0.2.2.2.2.1, .int .i64 p0.2.2.2.2.2]) hF hW rfl rfl rfl (fun b1 a w hF hW => ?_)
 refine ls hF hW rfl ((y_assign hF rfl).q) (fun a w hF hW => ?_)
 refine ls_nil (c_then ?_)
 refine c_seqJ (fun a w => Fr 25 [] [(2, .bool (decide (p0.1 = p0.2.2.1) || (decide (p0.2.2.2.2.1 < 1) || (decide (p0.2.2.2.2.2 < p0.2.2.2.2.1) || decide (1000 < p0.2.2.2.2.2)))))] a ∧ Stw ⟨Y, [], w0⟩ [(b1, [.int .i64 p0.1, .int .i64 p0.2.1, .int .i64 p0.2.2.1, .int .i64 p0.2.2.2.1, .int .i64 p0.2.2.2.2.1, .int .i64 p0.2.2.2.2.2])] [] w) ?_ ?_
 ·
  refine reg_list ?_
  refine ls hF hW rfl ((y_fieldAddr u62_ rfl rfl rfl T3 hF rfl 0 rfl).q) (fun a w hF hW => ?_)
  refine ls hF hW rfl ((y_load (v := Value.int .i64 p0.1) 0 hF rfl rfl T3 rfl).q) (fun a w hF hW => ?_)
  refine ls hF hW rfl ((y_fieldAddr u62_ rfl rfl rfl T3 hF rfl 2 rfl).q) (fun a w hF hW => ?_)
  refine ls hF hW rfl ((y_load (v := Value.int .i64 p0.2.2.1) 0 hF rfl rfl T3 rfl).q) (fun a w hF hW => ?_)
  refine ls hF hW rfl ((y_eql hF rfl rfl).q) (fun a w hF hW => ?_)
  refine ls hF hW rfl ((y_move hF rfl).q) (fun a w hF hW => ?_)
  rcases Bool.eq_false_or_eq_true (decide (p0.1 = p0.2.2.1)) with hb0 | hb0
  ·
   rw [hb0] at hF
   iterate 3 refine lsn hF rfl rfl rfl rfl rfl rfl rfl (fun a hF => ?_)
   refine ls hF hW rfl ((y_pick_t hF rfl rfl rfl).q) (fun a w hF hW => ?_)
   refine ls hF hW rfl ((y_move hF rfl).q) (fun a w hF hW => ?_)
   iterate 5 refine lsn hF rfl rfl rfl rfl rfl rfl rfl (fun a hF => ?_)
   refine ls hF hW rfl ((y_pick_t hF rfl rfl rfl).q) (fun a w hF hW => ?_)
   refine ls hF hW rfl ((y_move hF rfl).q) (fun a w hF hW => ?_)
   iterate 3 refine lsn hF rfl rfl rfl rfl rfl rfl rfl (fun a hF => ?_)
   refine ls hF hW rfl ((y_pick_t hF rfl rfl rfl).q) (fun a w hF hW => ?_)
   refine ls hF hW rfl ((y_assign hF rfl).q) (fun a w hF hW => ?_)
   refine ls_nil (c_then ?_)
   exact ⟨hF.re ⟨(by show some (Value.bool true) = some (Value.bool (decide (p0.1 = p0.2.2.1) || (decide (p0.2.2.2.2.1 < 1) || (decide (p0.2.2.2.2.2 < p0.2.2.2.2.1) || decide (1000 < p0.2.2.2.2.2))))); try rw [hb0]; all_goals simp only [Bool.not_true, Bool.not_false, Bool.true_and, Bool.false_and, Bool.true_or, Bool.false_or, Bool.and_true, Bool.or_false, cond_true, cond_false]), trivial⟩, hW⟩
  ·
   rw [hb0] at hF
   refine ls_w hF hW (wanted_y hF rfl rfl rfl rfl) rfl (Nat.le_of_ble_eq_true rfl) ((y_fieldAddr u62_ rfl rfl rfl T3 hF rfl 4 rfl).q) (fun a w hF hW => ?_)
   refine ls_w hF hW (wanted_y hF rfl rfl rfl rfl) rfl (Nat.le_of_ble_eq_true rfl) ((y_load (v := Value.int .i64 p0.2.2.2.2.1) 0 hF rfl rfl T3 rfl).q) (fun a w hF hW => ?_)
   refine ls_w hF hW (wanted_y hF rfl rfl rfl rfl) rfl (Nat.le_of_ble_eq_true rfl) ((y_lss hF rfl rfl).q) (fun a w hF hW => ?_)
   refine ls hF hW rfl ((y_pick_f hF rfl rfl rfl).q) (fun a w hF hW => ?_)
   refine ls hF hW rfl ((y_move hF rfl).q) (fun a w hF hW => ?_)
   rcases Bool.eq_false_or_eq_true (decide (p0.2.2.2.2.1 < 1)) with hb1 | hb1
   ·
    rw [hb1] at hF
    iterate 5 refine lsn hF rfl rfl rfl rfl rfl rfl rfl (fun a hF => ?_)
    refine ls hF hW rfl ((y_pick_t hF rfl rfl rfl).q) (fun a w hF hW => ?_)
    refine ls hF hW rfl ((y_move hF rfl).q) (fun a w hF hW => ?_)
    iterate 3 refine lsn hF rfl rfl rfl rfl rfl rfl rfl (fun a hF => ?_)
    refine ls hF hW rfl ((y_pick_t hF rfl rfl rfl).q) (fun a w hF hW => ?_)
    refine ls hF hW rfl ((y_assign hF rfl).q) (fun a w hF hW => ?_)
    refine ls_nil (c_then ?_)
    exact ⟨hF.re ⟨(by show some (Value.bool true) = some (Value.bool (decide (p0.1 = p0.2.2.1) || (decide (p0.2.2.2.2.1 < 1) || (decide (p0.2.2.2.2.2 < p0.2.2.2.2.1) || decide (1000 < p0.2.2.2.2.2))))); try rw [hb1]; try rw [hb0]; all_goals simp only [Bool.not_true, Bool.not_false, Bool.true_and, Bool.false_and, Bool.true_or, Bool.false_or, Bool.and_true, Bool.or_false, cond_true, cond_false]), trivial⟩, hW⟩
   ·
    rw [hb1] at hF
    refine ls_w hF hW (wanted_y hF rfl rfl rfl rfl) rfl (Nat.le_of_ble_eq_true rfl) ((y_fieldAddr u62_ rfl rfl rfl T3 hF rfl 5 rfl).q) (fun a w hF hW => ?_)
    refine ls_w hF hW (wanted_y hF rfl rfl rfl rfl) rfl (Nat.le_of_ble_eq_true rfl) ((y_load (v := Value.int .i64 p0.2.2.2.2.2) 0 hF rfl rfl T3 rfl).q) (fun a w hF hW => ?_)
    refine ls_w hF hW (wanted_y hF rfl rfl rfl rfl) rfl (Nat.le_of_ble_eq_true rfl) ((y_fieldAddr u62_ rfl rfl rfl T3 hF rfl 4 rfl).q) (fun a w hF hW => ?_)
    refine ls_w hF hW (wanted_y hF rfl rfl rfl rfl) rfl (Nat.le_of_ble_eq_true rfl) ((y_load (v := Value.int .i64 p0.2.2.2.2.1) 0 hF rfl rfl T3 rfl).q) (fun a w hF hW => ?_)
    refine ls_w hF hW (wanted_y hF rfl rfl rfl rfl) rfl (Nat.le_of_ble_eq_true rfl) ((y_lss hF rfl rfl).q) (fun a w hF hW => ?_)
    refine ls hF hW rfl ((y_pick_f hF rfl rfl rfl).q) (fun a w hF hW => ?_)
    refine ls hF hW rfl ((y_move hF rfl).q) (fun a w hF hW => ?_)
    rcases Bool.eq_false_or_eq_true (decide (p0.2.2.2.2.2 < p0.2.2.2.2.1)) with hb2 | hb2
    ·
     rw [hb2] at hF
     iterate 3 refine lsn hF rfl rfl rfl rfl rfl rfl rfl (fun a hF => ?_)
     refine ls hF hW rfl ((y_pick_t hF rfl rfl rfl).q) (fun a w hF hW => ?_)
     refine ls hF hW rfl ((y_assign hF rfl).q) (fun a w hF hW => ?_)
     refine ls_nil (c_then ?_)
     exact ⟨hF.re ⟨(by show some (Value.bool true) = some (Value.bool (decide (p0.1 = p0.2.2.1) || (decide (p0.2.2.2.2.1 < 1) || (decide (p0.2.2.2.2.2 < p0.2.2.2.2.1) || decide (1000 < p0.2.2.2.2.2))))); try rw [hb2]; try rw [hb1]; try rw [hb0]; all_goals simp only [Bool.not_true, Bool.not_false, Bool.true_and, Bool.false_and, Bool.true_or, Bool.false_or, Bool.and_true, Bool.or_false, cond_true, cond_false]), trivial⟩, hW⟩
    ·
     rw [hb2] at hF
     refine ls_w hF hW (wanted_y hF rfl rfl rfl rfl) rfl (Nat.le_of_ble_eq_true rfl) ((y_fieldAddr u62_ rfl rfl rfl T3 hF rfl 5 rfl).q) (fun a w hF hW => ?_)
     refine ls_w hF hW (wanted_y hF rfl rfl rfl rfl) rfl (Nat.le_of_ble_eq_true rfl) ((y_load (v := Value.int .i64 p0.2.2.2.2.2) 0 hF rfl rfl T3 rfl).q) (fun a w hF hW => ?_)
     refine ls_w hF hW (wanted_y hF rfl rfl rfl rfl) rfl (Nat.le_of_ble_eq_true rfl) ((y_gtr hF rfl rfl).q) (fun a w hF hW => ?_)
     refine ls hF hW rfl ((y_pick_f hF rfl rfl rfl).q) (fun a w hF hW => ?_)
     refine ls hF hW rfl ((y_assign hF rfl).q) (fun a w hF hW => ?_)
     refine ls_nil (c_then ?_)
     exact ⟨hF.re ⟨(by show some (Value.bool (decide (1000 < p0.2.2.2.2.2))) = some (Value.bool (decide (p0.1 = p0.2.2.1) || (decide (p0.2.2.2.2.1 < 1) || (decide (p0.2.2.2.2.2 < p0.2.2.2.2.1) || decide (1000 < p0.2.2.2.2.2))))); try rw [hb2]; try rw [hb1]; try rw [hb0]; all_goals simp only [Bool.not_true, Bool.not_false, Bool.true_and, Bool.false_and, Bool.true_or, Bool.false_or, Bool.and_true, Bool.or_false, cond_true, cond_false]), trivial⟩, hW⟩
 rintro a w ⟨hF, hW⟩
 refine wp_ret ?_
 subst H
 refine post1 (.inl rfl) hF hW rfl (rv_tmp hF rfl) ?_
 exact ⟨rfl, hW.done⟩

theorem H88 : Has Try.prog 88 := ⟨fun args w => run_callFunc_body Try.func88 rfl (by decide) args w⟩
noncomputable def slices_IndexFunc_api_Link_api_Link_l1 (p0 : List (Int × Int × Int × Int × Int × Int)) : Int → Option (Int ⊕ (Unit ⊕ Int))
  | x1 => (if x1 < (p0.length : Int) then (ix p0 x1).bind fun x2 => (if (topo_wrongLink x2) = true then some (.inr (.inr x1)) else some (.inl (w64 (x1 + 1)))) else some (.inr (.inl ())))
noncomputable def slices_IndexFunc_api_Link_api_Link (p0 : List (Int × Int × Int × Int × Int × Int)) : Option Int := orR (loopW (slices_IndexFunc_api_Link_api_Link_l1 p0) 0) fun _ => some (-1)
theorem slices_IndexFunc_api_Link_api_Link_c (Y : Nat → Prop) (w0 : World) (v1 : Value) (p0 : List (Int × Int × Int × Int × Int × Int)) (r : Int) (H : slices_IndexFunc_api_Link_api_Link p0 = some r) (h_v1 : Sl w0 (NX []) R62 v1 p0) :
    Calls Try.prog 108 #[v1, .func (.func 88) #[] #[]] w0 fun e w' => e = .returned (.int .i64 r) ∧ Below w0.heap.size w0 w' := by
 refine enter Try.func108 rfl Try.ntmps108 rfl (fun a hF => ?_)
 have hW := Stw.start Y w0
 unfold slices_IndexFunc_api_Link_api_Link at H
 refine c_seq (reg_list ?_)
 refine ls hF hW rfl ((y_assign hF rfl).q) (fun a w hF hW => ?_)
 refine ls_nil (c_then ?_)
 obtain ⟨o1, G1, K1, L1⟩ := orE H
 refine c_seqJ (fun a w => some (Sum.inl ()) = some o1 ∧ Fr 19 [] [(4, .int .i64 0)] a ∧ Stw ⟨Y, [], w0⟩ [] [] w) ?_ ?_
 ·
  have H := G1
  clear G1 K1
  refine c_seq (reg_list ?_)
  refine ls hF hW rfl ((y_move hF rfl).q) (fun a w hF hW => ?_)
  refine ls hF hW rfl ((y_len (r := R62) (l := p0) u22_ rfl hF rfl (rdc_ro h_v1)).q) (fun a w hF hW => ?_)
  refine ls hF hW rfl ((y_move hF rfl).q) (fun a w hF hW => ?_)
  refine ls_nil (c_then ?_)
  refine wp_block ?_
  refine c_loopW H (fun s a w => Fr 19 [] [(0, v1), (1, .func (.func 88) #[] #[]), (4, .int .i64 0), (7, .int .i64 (p0.length : Int)), (8, .int .i64 s)] a ∧ Stw ⟨Y, [], w0⟩ [] [] w) ⟨hF.re ⟨rfl, rfl, rfl, rfl, rfl, trivial⟩, hW⟩ (fun s o a w H L2 hR => ?_)
  obtain ⟨x1, rfl⟩ : ∃ x, x = s := ⟨s, rfl⟩
  obtain ⟨hF, hW⟩ := hR
  have hF : Fr 19 [] [(0, v1), (1, .func (.func 88) #[] #[]), (4, .int .i64 0), (7, .int .i64 (p0.length : Int)), (8, .int .i64 x1)] a := hF
  have hW : Stw ⟨Y, [], w0⟩ [] [] w := hW
  rw [slices_IndexFunc_api_Link_api_Link_l1] at H
  refine c_seq (reg_list ?_)
  refine ls hF hW rfl ((y_lss hF rfl rfl).q) (fun a w hF hW => ?_)
  refine ls_nil (c_then ?_)
  refine c_seq ?_
  refine c_cond hF rfl (fun hb => ?_) (fun hb => ?_)
  ·
   have H := iteT (of_decide_eq_true hb) H
   rw [hb] at hF
   clear hb
   refine wp_skip ?_
   refine c_then ?_
   refine c_seq ?_
   refine wp_block ?_
   refine c_seq (reg_list ?_)
   refine ls hF hW rfl ((y_move hF rfl).q) (fun a w hF hW => ?_)
   refine ls hF hW rfl ((y_assign hF rfl).q) (fun a w hF hW => ?_)
   refine ls_nil (c_then ?_)
   refine c_seq (reg_list ?_)
   iterate 3 refine ls hF hW rfl ((y_move hF rfl).q) (fun a w hF hW => ?_)
   obtain ⟨x2, h1, H⟩ := bindE H
   refine ls hF hW rfl ((y_index (r := R62) L22 hF rfl rfl (rdc_ro h_v1) h1).q) (fun a w hF hW => ?_)
   refine ls hF hW rfl ((y_load_el (y := Value.agg #[.int .i64 x2.1, .int .i64 x2.2.1, .int .i64 x2.2.2.1, .int .i64 x2.2.2.2.1, .int .i64 x2.2.2.2.2.1, .int .i64 x2.2.2.2.2.2]) (j := 0) (i := x1) hF rfl rfl (rdc_ro h_v1) h1 F62.to T62 rfl).q) (fun a w hF hW => ?_)
   refine ls hF hW rfl (y_callV (ws := [.agg #[.int .i64 x2.1, .int .i64 x2.2.1, .int .i64 x2.2.2.1, .int .i64 x2.2.2.2.1, .int .i64 x2.2.2.2.2.1, .int .i64 x2.2.2.2.2.2]]) (v := Value.bool (topo_wrongLink x2)) hF H88 rfl (fun w hW => topo_wrongLink_c any w x2 _ rfl)) (fun a w hF hW => ?_)
   refine ls_nil (c_then ?_)
   refine c_cond hF rfl (fun hb => ?_) (fun hb => ?_)
   ·
    have H := iteT hb H
    rw [hb] at hF
    clear hb
    refine c_seq (reg_list ?_)
    refine ls hF hW rfl ((y_move hF rfl).q) (fun a w hF hW => ?_)
    refine ls hF hW rfl ((y_assign hF rfl).q) (fun a w hF hW => ?_)
    refine ls_nil (c_then ?_)
    refine wp_ret ?_
    refine r_block ?_
    iterate 2 refine r_then ?_
    refine r_block ?_
    refine r_then ?_
    have H := L2 _ H
    have H := L1 _ H
    have H := Option.some.inj H
    subst H
    refine post1 (.inl rfl) hF hW rfl (rv_tmp hF rfl) ?_
    exact ⟨rfl, hW.done⟩
   ·
    have H := iteF (by rw [hb]; decide) H
    rw [hb] at hF
    clear hb
    refine wp_skip ?_
    refine b_normal ?_
    refine c_then ?_
    refine reg_list ?_
    refine ls hF hW rfl ((y_add hF rfl rfl rfl).q) (fun a w hF hW => ?_)
    refine ls hF hW rfl ((y_move hF rfl).q) (fun a w hF hW => ?_)
    refine ls_nil (c_then ?_)
    exact ⟨_, H, hF.re ⟨rfl, rfl, rfl, rfl, rfl, trivial⟩, hW⟩
  ·
   have H := iteF (of_decide_eq_false hb) H
   rw [hb] at hF
   clear hb
   refine wp_exit ?_
   iterate 2 refine e_then ?_
   refine e_block ?_
   refine c_then ?_
   have H := L2 _ H
   exact ⟨H, hF.re ⟨rfl, trivial⟩, hW⟩
 rintro a w ⟨hj, hF, hW⟩
 have H := K1 _ hj
 clear hj G1 K1 L1
 refine c_seq (reg_list ?_)
 refine ls hF hW rfl ((y_assign hF rfl).q) (fun a w hF hW => ?_)
 refine ls_nil (c_then ?_)
 refine wp_ret ?_
 have H := Option.some.inj H
 subst H
 refine post1 (.inl rfl) hF hW rfl (rv_tmp hF rfl) ?_
 exact ⟨rfl, hW.done⟩

theorem H108 : Has Try.prog 108 := ⟨fun args w => run_callFunc_body Try.func108 rfl (by decide) args w⟩
noncomputable def slices_ContainsFunc_api_Link_api_Link (p0 : List (Int × Int × Int × Int × Int × Int)) : Option Bool := (slices_IndexFunc_api_Link_api_Link p0).bind fun x1 => some (decide (0 ≤ x1))
theorem slices_ContainsFunc_api_Link_api_Link_c (Y : Nat → Prop) (w0 : World) (v1 : Value) (p0 : List (Int × Int × Int × Int × Int × Int)) (r : Bool) (H : slices_ContainsFunc_api_Link_api_Link p0 = some r) (h_v1 : Sl w0 (NX []) R62 v1 p0) :
    Calls Try.prog 87 #[v1, .func (.func 88) #[] #[]] w0 fun e w' => e = .returned (.bool r) ∧ Below w0.heap.size w0 w' := by
 refine enter Try.func87 rfl Try.ntmps87 rfl (fun a hF => ?_)
 have hW := Stw.start Y w0
 unfold slices_ContainsFunc_api_Link_api_Link at H
 refine c_seq (reg_list ?_)
 refine ls hF hW rfl ((y_assign hF rfl).q) (fun a w hF hW => ?_)
 refine ls_nil (c_then ?_)
 refine c_seq (reg_list ?_)
 iterate 2 refine ls hF hW rfl ((y_move hF rfl).q) (fun a w hF hW => ?_)
 obtain ⟨x1, h1, H⟩ := bindE H
 refine ls hF hW rfl (y_call (v := Value.int .i64 x1) hF H108 rfl (fun w hW => slices_IndexFunc_api_Link_api_Link_c any w (v1) p0 _ h1 (((rdc_ro h_v1) : Rdc _ _ _ _ _ _) w hW).nx)) (fun a w hF hW => ?_)
 refine ls hF hW rfl ((y_geq hF rfl rfl).q) (fun a w hF hW => ?_)
 refine ls hF hW rfl ((y_assign hF rfl).q) (fun a w hF hW => ?_)
 refine ls_nil (c_then ?_)
 refine wp_ret ?_
 have H := Option.some.inj H
 subst H
 refine post1 (.inl rfl) hF hW rfl (rv_tmp hF rfl) ?_
 exact ⟨rfl, hW.done⟩

theorem u144_ : type_of% Try.underlying144 := Try.underlying144
theorem H87 : Has Try.prog 87 := ⟨fun args w => run_callFunc_body Try.func87 rfl (by decide) args w⟩
noncomputable def topo_Right_l1 (p0 : Int × (List (Int × Int × Int × Int × Int × Int)) × (List (Int × Int))) (x2 : (List (Int × Int))) : (Int × (List ((Int × Int) × Unit))) → Option ((Int × (List ((Int × Int) × Unit))) ⊕ ((List ((Int × Int) × Unit)) ⊕ Bool))
  | (x3, x4) => (if x3 < (x2.length : Int) then (ix x2 x3).bind fun x5 => (if (decide (x5.1 < 0) || (decide (p0.1 ≤ x5.1) || (decide (x5.2 < 0) || decide (8 ≤ x5.2)))) = true then some (.inr (.inr false)) else (if ((mget x4 x5).isSome) = true then some (.inr (.inr false)) else some (.inl (w64 (x3 + 1), mput x4 x5 ())))) else some (.inr (.inl x4)))
noncomputable def topo_Right (p0 : Int × (List (Int × Int × Int × Int × Int × Int)) × (List (Int × Int))) : Option Bool := (if (decide (p0.1 < 1) || (decide (8 < p0.1) || (decide (24 < (p0.2.1.length : Int)) || decide (8 < (p0.2.2.length : Int))))) = true then some false else orR ((topo_places p0).bind fun x2 => loopW (topo_Right_l1 p0 x2) (0, ([] : List ((Int × Int) × Unit)))) fun x1 => (slices_ContainsFunc_api_Link_api_Link p0.2.1).bind fun x6 => some (!x6))
theorem topo_Right_c (Y : Nat → Prop) (w0 : World) (v1 : Value) (v2 : Value) (p0 : Int × (List (Int × Int × Int × Int × Int × Int)) × (List (Int × Int))) (r : Bool) (H : topo_Right p0 = some r) (h_v1 : Sl w0 (NX []) R62 v1 p0.2.1) (h_v2 : Sl w0 (NX []) R64 v2 p0.2.2) :
    Calls Try.prog 66 #[.agg #[.int .i64 p0.1, v1, v2]] w0 fun e w' => e = .returned (.bool r) ∧ Below w0.heap.size w0 w' := by
 refine enter Try.func66 rfl Try.ntmps66 rfl (fun a hF => ?_)
 have hW := Stw.start Y w0
 unfold topo_Right at H
 refine c_seq (reg_list ?_)
 refine l_box (cs := [.int .i64 p0.1, v1, v2]) hF hW rfl rfl rfl (fun b1 a w hF hW => ?_)
 refine ls hF hW rfl ((y_assign hF rfl).q) (fun a w hF hW => ?_)
 refine ls_nil (c_then ?_)
 refine c_seq ?_
 refine c_seqJ (fun a w => Fr 71 [] [(1, .pointer (some ⟨b1, 0, none⟩)), (2, .bool false), (27, .bool (decide (p0.1 < 1) || (decide (8 < p0.1) || (decide (24 < (p0.2.1.length : Int)) || decide (8 < (p0.2.2.length : Int))))))] a ∧ Stw ⟨Y, [], w0⟩ [(b1, [.int .i64 p0.1, v1, v2])] [] w) ?_ ?_
 ·
  refine reg_list ?_
  refine ls hF hW rfl ((y_fieldAddr u25_ rfl rfl rfl T3 hF rfl 0 rfl).q) (fun a w hF hW => ?_)
  refine ls hF hW rfl ((y_load (v := Value.int .i64 p0.1) 0 hF rfl rfl T3 rfl).q) (fun a w hF hW => ?_)
  refine ls hF hW rfl ((y_lss hF rfl rfl).q) (fun a w hF hW => ?_)
  refine ls hF hW rfl ((y_move hF rfl).q) (fun a w hF hW => ?_)
  rcases Bool.eq_false_or_eq_true (decide (p0.1 < 1)) with hb0 | hb0
  ·
   rw [hb0] at hF
   iterate 3 refine lsn hF rfl rfl rfl rfl rfl rfl rfl (fun a hF => ?_)
   refine ls hF hW rfl ((y_pick_t hF rfl rfl rfl).q) (fun a w hF hW => ?_)
   refine ls hF hW rfl ((y_move hF rfl).q) (fun a w hF hW => ?_)
   iterate 4 refine lsn hF rfl rfl rfl rfl rfl rfl rfl (fun a hF => ?_)
   refine ls hF hW rfl ((y_pick_t hF rfl rfl rfl).q) (fun a w hF hW => ?_)
   refine ls hF hW rfl ((y_move hF rfl).q) (fun a w hF hW => ?_)
   iterate 4 refine lsn hF rfl rfl rfl rfl rfl rfl rfl (fun a hF => ?_)
   refine ls hF hW rfl ((y_pick_t hF rfl rfl rfl).q) (fun a w hF hW => ?_)
   refine ls_nil (c_then ?_)
   exact ⟨hF.re ⟨rfl, rfl, (by show some (Value.bool true) = some (Value.bool (decide (p0.1 < 1) || (decide (8 < p0.1) || (decide (24 < (p0.2.1.length : Int)) || decide (8 < (p0.2.2.length : Int)))))); try rw [hb0]; all_goals simp only [Bool.not_true, Bool.not_false, Bool.true_and, Bool.false_and, Bool.true_or, Bool.false_or, Bool.and_true, Bool.or_false, cond_true, cond_false]), trivial⟩, hW⟩
  ·
   rw [hb0] at hF
   refine ls_w hF hW (wanted_y hF rfl rfl rfl rfl) rfl (Nat.le_of_ble_eq_true rfl) ((y_fieldAddr u25_ rfl rfl rfl T3 hF rfl 0 rfl).q) (fun a w hF hW => ?_)
   refine ls_w hF hW (wanted_y hF rfl rfl rfl rfl) rfl (Nat.le_of_ble_eq_true rfl) ((y_load (v := Value.int .i64 p0.1) 0 hF rfl rfl T3 rfl).q) (fun a w hF hW => ?_)
   refine ls_w hF hW (wanted_y hF rfl rfl rfl rfl) rfl (Nat.le_of_ble_eq_true rfl) ((y_gtr hF rfl rfl).q) (fun a w hF hW => ?_)
   refine ls hF hW rfl ((y_pick_f hF rfl rfl rfl).q) (fun a w hF hW => ?_)
   refine ls hF hW rfl ((y_move hF rfl).q) (fun a w hF hW => ?_)
   rcases Bool.eq_false_or_eq_true (decide (8 < p0.1)) with hb1 | hb1
   ·
    rw [hb1] at hF
    iterate 4 refine lsn hF rfl rfl rfl rfl rfl rfl rfl (fun a hF => ?_)
    refine ls hF hW rfl ((y_pick_t hF rfl rfl rfl).q) (fun a w hF hW => ?_)
    refine ls hF hW rfl ((y_move hF rfl).q) (fun a w hF hW => ?_)
    iterate 4 refine lsn hF rfl rfl rfl rfl rfl rfl rfl (fun a hF => ?_)
    refine ls hF hW rfl ((y_pick_t hF rfl rfl rfl).q) (fun a w hF hW => ?_)
    refine ls_nil (c_then ?_)
    exact ⟨hF.re ⟨rfl, rfl, (by show some (Value.bool true) = some (Value.bool (decide (p0.1 < 1) || (decide (8 < p0.1) || (decide (24 < (p0.2.1.length : Int)) || decide (8 < (p0.2.2.length : Int)))))); try rw [hb0]; try rw [hb1]; all_goals simp only [Bool.not_true, Bool.not_false, Bool.true_and, Bool.false_and, Bool.true_or, Bool.false_or, Bool.and_true, Bool.or_false, cond_true, cond_false]), trivial⟩, hW⟩
   ·
    rw [hb1] at hF
    refine ls_w hF hW (wanted_y hF rfl rfl rfl rfl) rfl (Nat.le_of_ble_eq_true rfl) ((y_fieldAddr u25_ rfl rfl rfl T22 hF rfl 1 rfl).q) (fun a w hF hW => ?_)
    refine ls_w hF hW (wanted_y hF rfl rfl rfl rfl) rfl (Nat.le_of_ble_eq_true rfl) ((y_load (v := v1) 0 hF rfl rfl T22 rfl).q) (fun a w hF hW => ?_)
    refine ls_w hF hW (wanted_y hF rfl rfl rfl rfl) rfl (Nat.le_of_ble_eq_true rfl) ((y_len (r := R62) (l := p0.2.1) u22_ rfl hF rfl (rdc_ro h_v1)).q) (fun a w hF hW => ?_)
    refine ls_w hF hW (wanted_y hF rfl rfl rfl rfl) rfl (Nat.le_of_ble_eq_true rfl) ((y_gtr hF rfl rfl).q) (fun a w hF hW => ?_)
    refine ls hF hW rfl ((y_pick_f hF rfl rfl rfl).q) (fun a w hF hW => ?_)
    refine ls hF hW rfl ((y_move hF rfl).q) (fun a w hF hW => ?_)
    rcases Bool.eq_false_or_eq_true (decide (24 < (p0.2.1.length : Int))) with hb2 | hb2
    ·
     rw [hb2] at hF
     iterate 4 refine lsn hF rfl rfl rfl rfl rfl rfl rfl (fun a hF => ?_)
     refine ls hF hW rfl ((y_pick_t hF rfl rfl rfl).q) (fun a w hF hW => ?_)
     refine ls_nil (c_then ?_)
     exact ⟨hF.re ⟨rfl, rfl, (by show some (Value.bool true) = some (Value.bool (decide (p0.1 < 1) || (decide (8 < p0.1) || (decide (24 < (p0.2.1.length : Int)) || decide (8 < (p0.2.2.length : Int)))))); try rw [hb2]; try rw [hb0]; try rw [hb1]; all_goals simp only [Bool.not_true, Bool.not_false, Bool.true_and, Bool.false_and, Bool.true_or, Bool.false_or, Bool.and_true, Bool.or_false, cond_true, cond_false]), trivial⟩, hW⟩
    ·
     rw [hb2] at hF
     refine ls_w hF hW (wanted_y hF rfl rfl rfl rfl) rfl (Nat.le_of_ble_eq_true rfl) ((y_fieldAddr u25_ rfl rfl rfl T23 hF rfl 2 rfl).q) (fun a w hF hW => ?_)
     refine ls_w hF hW (wanted_y hF rfl rfl rfl rfl) rfl (Nat.le_of_ble_eq_true rfl) ((y_load (v := v2) 0 hF rfl rfl T23 rfl).q) (fun a w hF hW => ?_)
     refine ls_w hF hW (wanted_y hF rfl rfl rfl rfl) rfl (Nat.le_of_ble_eq_true rfl) ((y_len (r := R64) (l := p0.2.2) u23_ rfl hF rfl (rdc_ro h_v2)).q) (fun a w hF hW => ?_)
     refine ls_w hF hW (wanted_y hF rfl rfl rfl rfl) rfl (Nat.le_of_ble_eq_true rfl) ((y_gtr hF rfl rfl).q) (fun a w hF hW => ?_)
     refine ls hF hW rfl ((y_pick_f hF rfl rfl rfl).q) (fun a w hF hW => ?_)
     refine ls_nil (c_then ?_)
     exact ⟨hF.re ⟨rfl, rfl, (by show some (Value.bool (decide (8 < (p0.2.2.length : Int)))) = some (Value.bool (decide (p0.1 < 1) || (decide (8 < p0.1) || (decide (24 < (p0.2.1.length : Int)) || decide (8 < (p0.2.2.length : Int)))))); try rw [hb2]; try rw [hb0]; try rw [hb1]; all_goals simp only [Bool.not_true, Bool.not_false, Bool.true_and, Bool.false_and, Bool.true_or, Bool.false_or, Bool.and_true, Bool.or_false, cond_true, cond_false]), trivial⟩, hW⟩
 rintro a w ⟨hF, hW⟩
 refine c_cond hF rfl (fun hb => ?_) (fun hb => ?_)
 ·
  have H := iteT hb H
  rw [hb] at hF
  clear hb
  refine c_seq (reg_list ?_)
  refine ls hF hW rfl ((y_assign hF rfl).q) (fun a w hF hW => ?_)
  refine ls_nil (c_then ?_)
  refine wp_ret ?_
  refine r_then ?_
  have H := Option.some.inj H
  subst H
  refine post1 (.inl rfl) hF hW rfl (rv_tmp hF rfl) ?_
  exact ⟨rfl, hW.done⟩
 ·
  have H := iteF (by rw [hb]; decide) H
  rw [hb] at hF
  clear hb
  refine wp_skip ?_
  refine c_then ?_
  refine c_seq (reg_list ?_)
  refine l_mapmake KE148 KE149 hF hW rfl (fun b2 a w hF hW => ?_)
  have hW : Stw ⟨Y, [], w0⟩ [(b1, [.int .i64 p0.1, v1, v2])] [mp b2 KE148 KE149 ([] : List ((Int × Int) × Unit))] w := hW
  refine ls hF hW rfl ((y_assign hF rfl).q) (fun a w hF hW => ?_)
  refine ls_nil (c_then ?_)
  obtain ⟨o1, G1, K1, L1⟩ := orE H
  refine c_seqJ (fun a w => ∃ x1 : List ((Int × Int) × Unit), some (Sum.inl x1) = some o1 ∧ Fr 71 [] [(1, .pointer (some ⟨b1, 0, none⟩)), (2, .bool false)] a ∧ Stw ⟨Y, [], w0⟩ [(b1, [.int .i64 p0.1, v1, v2])] [mp b2 KE148 KE149 x1] w) ?_ ?_
  ·
   have H := G1
   clear G1 K1
   refine c_seq (reg_list ?_)
   refine ls hF hW rfl ((y_load (v := Value.agg #[.int .i64 p0.1, v1, v2]) 0 hF rfl rfl T25 rfl).q) (fun a w hF hW => ?_)
   obtain ⟨x2, h1, H⟩ := bindE H
   refine l_callG (Ml := []) (Zl := []) (M := [(b1, [.int .i64 p0.1, v1, v2])]) (Z := [mp b2 KE148 KE149 ([] : List ((Int × Int) × Unit))]) (β := Value) (rv := fun x => x) (MM := fun x => []) (ZZ := fun x => [row x 148 R148 x2]) hF hW H86 rfl rfl (fun hL => topo_places_c _ w (v1) (v2) p0 _ h1 ((rdc_ro h_v1) w hW).nx ((rdc_ro h_v2) w hW).nx) (fun x a w hF hW => ?_)
   obtain ⟨v3, rfl⟩ : ∃ y, y = x := ⟨x, rfl⟩
   have hW : Stw ⟨Y, [], w0⟩ [(b1, [.int .i64 p0.1, v1, v2])] [row v3 148 R148 x2, mp b2 KE148 KE149 ([] : List ((Int × Int) × Unit))] w := hW
   refine ls hF hW rfl ((y_len (r := R148) (l := x2) u145_ rfl hF rfl (rdc_row 0 rfl)).q) (fun a w hF hW => ?_)
   refine ls hF hW rfl ((y_move hF rfl).q) (fun a w hF hW => ?_)
   refine ls_nil (c_then ?_)
   refine wp_block ?_
   have hW := hW.frontZ (i := 1) rfl rfl
   have hW := hW.frontZ (i := 1) rfl rfl
   refine c_loopW H (fun s a w => Fr 71 [] [(1, .pointer (some ⟨b1, 0, none⟩)), (2, .bool false), (3, .map (some b2)), (30, v3), (31, .int .i64 (x2.length : Int)), (32, .int .i64 s.1)] a ∧ Stw ⟨Y, [], w0⟩ [(b1, [.int .i64 p0.1, v1, v2])] [row v3 148 R148 x2, mp b2 KE148 KE149 s.2] w) ⟨hF.re ⟨rfl, rfl, rfl, rfl, rfl, rfl, trivial⟩, hW⟩ (fun s o a w H L2 hR => ?_)
   obtain ⟨x3, x4⟩ := s
   obtain ⟨hF, hW⟩ := hR
   have hF : Fr 71 [] [(1, .pointer (some ⟨b1, 0, none⟩)), (2, .bool false), (3, .map (some b2)), (30, v3), (31, .int .i64 (x2.length : Int)), (32, .int .i64 x3)] a := hF
   have hW : Stw ⟨Y, [], w0⟩ [(b1, [.int .i64 p0.1, v1, v2])] [row v3 148 R148 x2, mp b2 KE148 KE149 x4] w := hW
   rw [topo_Right_l1] at H
   refine c_seq (reg_list ?_)
   refine ls hF hW rfl ((y_lss hF rfl rfl).q) (fun a w hF hW => ?_)
   refine ls_nil (c_then ?_)
   refine c_seq ?_
   refine c_cond hF rfl (fun hb => ?_) (fun hb => ?_)
   ·
    have H := iteT (of_decide_eq_true hb) H
    rw [hb] at hF
    clear hb
    refine wp_skip ?_
    refine c_then ?_
    refine c_seq ?_
    refine wp_block ?_
    refine c_seq (reg_list ?_)
    obtain ⟨x5, h2, H⟩ := bindE H
    refine ls hF hW rfl ((y_index (r := R148) L145 hF rfl rfl (rdc_row 0 rfl) h2).q) (fun a w hF hW => ?_)
    refine ls hF hW rfl ((y_load_el (y := Value.agg #[.int .i64 x5.1, .int .i64 x5.2]) (j := 0) (i := x3) hF rfl rfl (rdc_row 0 rfl) h2 F148.to T148 rfl).q) (fun a w hF hW => ?_)
    refine l_alloc (cs := [.int .i64 0, .int .i64 0]) hF hW rfl Z148 rfl (fun b3 a w hF hW => ?_)
    refine l_store (vs := [.int .i64 x5.1, .int .i64 x5.2]) (M' := [(b3, [.int .i64 x5.1, .int .i64 x5.2]), (b1, [.int .i64 p0.1, v1, v2])]) 0 hF hW rfl rfl rfl T148 rfl rfl rfl rfl rfl (fun w hW => ?_)
    refine ls_nil (c_then ?_)
    refine c_seq ?_
    refine c_seqJ (fun a w => Fr 71 [] [(1, .pointer (some ⟨b1, 0, none⟩)), (2, .bool false), (3, .map (some b2)), (5, .pointer (some ⟨b3, 0, none⟩)), (30, v3), (31, .int .i64 (x2.length : Int)), (32, .int .i64 x3), (55, .bool (decide (x5.1 < 0) || (decide (p0.1 ≤ x5.1) || (decide (x5.2 < 0) || decide (8 ≤ x5.2)))))] a ∧ Stw ⟨Y, [], w0⟩ [(b3, [.int .i64 x5.1, .int .i64 x5.2]), (b1, [.int .i64 p0.1, v1, v2])] [row v3 148 R148 x2, mp b2 KE148 KE149 x4] w) ?_ ?_
    ·
     refine reg_list ?_
     refine ls hF hW rfl ((y_fieldAddr u148_ rfl rfl rfl T3 hF rfl 0 rfl).q) (fun a w hF hW => ?_)
     refine ls hF hW rfl ((y_load (v := Value.int .i64 x5.1) 0 hF rfl rfl T3 rfl).q) (fun a w hF hW => ?_)
     refine ls hF hW rfl ((y_lss hF rfl rfl).q) (fun a w hF hW => ?_)
     refine ls hF hW rfl ((y_move hF rfl).q) (fun a w hF hW => ?_)
     rcases Bool.eq_false_or_eq_true (decide (x5.1 < 0)) with hb0 | hb0
     ·
      rw [hb0] at hF
      iterate 5 refine lsn hF rfl rfl rfl rfl rfl rfl rfl (fun a hF => ?_)
      refine ls hF hW rfl ((y_pick_t hF rfl rfl rfl).q) (fun a w hF hW => ?_)
      refine ls hF hW rfl ((y_move hF rfl).q) (fun a w hF hW => ?_)
      iterate 3 refine lsn hF rfl rfl rfl rfl rfl rfl rfl (fun a hF => ?_)
      refine ls hF hW rfl ((y_pick_t hF rfl rfl rfl).q) (fun a w hF hW => ?_)
      refine ls hF hW rfl ((y_move hF rfl).q) (fun a w hF hW => ?_)
      iterate 3 refine lsn hF rfl rfl rfl rfl rfl rfl rfl (fun a hF => ?_)
      refine ls hF hW rfl ((y_pick_t hF rfl rfl rfl).q) (fun a w hF hW => ?_)
      refine ls_nil (c_then ?_)
      exact ⟨hF.re ⟨rfl, rfl, rfl, rfl, rfl, rfl, rfl, (by show some (Value.bool true) = some (Value.bool (decide (x5.1 < 0) || (decide (p0.1 ≤ x5.1) || (decide (x5.2 < 0) || decide (8 ≤ x5.2))))); try rw [hb0]; all_goals simp only [Bool.not_true, Bool.not_false, Bool.true_and, Bool.false_and, Bool.true_or, Bool.false_or, Bool.and_true, Bool.or_false, cond_true, cond_false]), trivial⟩, hW⟩
     ·
      rw [hb0] at hF
      refine ls_w hF hW (wanted_y hF rfl rfl rfl rfl) rfl (Nat.le_of_ble_eq_true rfl) ((y_fieldAddr u148_ rfl rfl rfl T3 hF rfl 0 rfl).q) (fun a w hF hW => ?_)
      refine ls_w hF hW (wanted_y hF rfl rfl rfl rfl) rfl (Nat.le_of_ble_eq_true rfl) ((y_load (v := Value.int .i64 x5.1) 0 hF rfl rfl T3 rfl).q) (fun a w hF hW => ?_)
      refine ls_w hF hW (wanted_y hF rfl rfl rfl rfl) rfl (Nat.le_of_ble_eq_true rfl) ((y_fieldAddr u25_ rfl rfl rfl T3 hF rfl 0 rfl).q) (fun a w hF hW => ?_)
      refine ls_w hF hW (wanted_y hF rfl rfl rfl rfl) rfl (Nat.le_of_ble_eq_true rfl) ((y_load (v := Value.int .i64 p0.1) 1 hF rfl rfl T3 rfl).q) (fun a w hF hW => ?_)
      refine ls_w hF hW (wanted_y hF rfl rfl rfl rfl) rfl (Nat.le_of_ble_eq_true rfl) ((y_geq hF rfl rfl).q) (fun a w hF hW => ?_)
      refine ls hF hW rfl ((y_pick_f hF rfl rfl rfl).q) (fun a w hF hW => ?_)
      refine ls hF hW rfl ((y_move hF rfl).q) (fun a w hF hW => ?_)
      rcases Bool.eq_false_or_eq_true (decide (p0.1 ≤ x5.1)) with hb1 | hb1
      ·
       rw [hb1] at hF
       iterate 3 refine lsn hF rfl rfl rfl rfl rfl rfl rfl (fun a hF => ?_)
       refine ls hF hW rfl ((y_pick_t hF rfl rfl rfl).q) (fun a w hF hW => ?_)
       refine ls hF hW rfl ((y_move hF rfl).q) (fun a w hF hW => ?_)
       iterate 3 refine lsn hF rfl rfl rfl rfl rfl rfl rfl (fun a hF => ?_)
       refine ls hF hW rfl ((y_pick_t hF rfl rfl rfl).q) (fun a w hF hW => ?_)
       refine ls_nil (c_then ?_)
       exact ⟨hF.re ⟨rfl, rfl, rfl, rfl, rfl, rfl, rfl, (by show some (Value.bool true) = some (Value.bool (decide (x5.1 < 0) || (decide (p0.1 ≤ x5.1) || (decide (x5.2 < 0) || decide (8 ≤ x5.2))))); try rw [hb1]; try rw [hb0]; all_goals simp only [Bool.not_true, Bool.not_false, Bool.true_and, Bool.false_and, Bool.true_or, Bool.false_or, Bool.and_true, Bool.or_false, cond_true, cond_false]), trivial⟩, hW⟩
      ·
       rw [hb1] at hF
       refine ls_w hF hW (wanted_y hF rfl rfl rfl rfl) rfl (Nat.le_of_ble_eq_true rfl) ((y_fieldAddr u148_ rfl rfl rfl T3 hF rfl 1 rfl).q) (fun a w hF hW => ?_)
       refine ls_w hF hW (wanted_y hF rfl rfl rfl rfl) rfl (Nat.le_of_ble_eq_true rfl) ((y_load (v := Value.int .i64 x5.2) 0 hF rfl rfl T3 rfl).q) (fun a w hF hW => ?_)
       refine ls_w hF hW (wanted_y hF rfl rfl rfl rfl) rfl (Nat.le_of_ble_eq_true rfl) ((y_lss hF rfl rfl).q) (fun a w hF hW => ?_)
       refine ls hF hW rfl ((y_pick_f hF rfl rfl rfl).q) (fun a w hF hW => ?_)
       refine ls hF hW rfl ((y_move hF rfl).q) (fun a w hF hW => ?_)
       rcases Bool.eq_false_or_eq_true (decide (x5.2 < 0)) with hb2 | hb2
       ·
        rw [hb2] at hF
        iterate 3 refine lsn hF rfl rfl rfl rfl rfl rfl rfl (fun a hF => ?_)
        refine ls hF hW rfl ((y_pick_t hF rfl rfl rfl).q) (fun a w hF hW => ?_)
        refine ls_nil (c_then ?_)
        exact ⟨hF.re ⟨rfl, rfl, rfl, rfl, rfl, rfl, rfl, (by show some (Value.bool true) = some (Value.bool (decide (x5.1 < 0) || (decide (p0.1 ≤ x5.1) || (decide (x5.2 < 0) || decide (8 ≤ x5.2))))); try rw [hb1]; try rw [hb0]; try rw [hb2]; all_goals simp only [Bool.not_true, Bool.not_false, Bool.true_and, Bool.false_and, Bool.true_or, Bool.false_or, Bool.and_true, Bool.or_false, cond_true, cond_false]), trivial⟩, hW⟩
       ·
        rw [hb2] at hF
        refine ls_w hF hW (wanted_y hF rfl rfl rfl rfl) rfl (Nat.le_of_ble_eq_true rfl) ((y_fieldAddr u148_ rfl rfl rfl T3 hF rfl 1 rfl).q) (fun a w hF hW => ?_)
        refine ls_w hF hW (wanted_y hF rfl rfl rfl rfl) rfl (Nat.le_of_ble_eq_true rfl) ((y_load (v := Value.int .i64 x5.2) 0 hF rfl rfl T3 rfl).q) (fun a w hF hW => ?_)
        refine ls_w hF hW (wanted_y hF rfl rfl rfl rfl) rfl (Nat.le_of_ble_eq_true rfl) ((y_geq hF rfl rfl).q) (fun a w hF hW => ?_)
        refine ls hF hW rfl ((y_pick_f hF rfl rfl rfl).q) (fun a w hF hW => ?_)
        refine ls_nil (c_then ?_)
        exact ⟨hF.re ⟨rfl, rfl, rfl, rfl, rfl, rfl, rfl, (by show some (Value.bool (decide (8 ≤ x5.2))) = some (Value.bool (decide (x5.1 < 0) || (decide (p0.1 ≤ x5.1) || (decide (x5.2 < 0) || decide (8 ≤ x5.2))))); try rw [hb1]; try rw [hb0]; try rw [hb2]; all_goals simp only [Bool.not_true, Bool.not_false, Bool.true_and, Bool.false_and, Bool.true_or, Bool.false_or, Bool.and_true, Bool.or_false, cond_true, cond_false]), trivial⟩, hW⟩
    rintro a w ⟨hF, hW⟩
    refine c_cond hF rfl (fun hb => ?_) (fun hb => ?_)
    ·
     have H := iteT hb H
     rw [hb] at hF
     clear hb
     refine c_seq (reg_list ?_)
     refine ls hF hW rfl ((y_assign hF rfl).q) (fun a w hF hW => ?_)
     refine ls_nil (c_then ?_)
     refine wp_ret ?_
     refine r_then ?_
     refine r_block ?_
     iterate 2 refine r_then ?_
     refine r_block ?_
     refine r_then ?_
     have H := L2 _ H
     have H := L1 _ H
     have H := Option.some.inj H
     subst H
     refine post1 (.inl rfl) hF hW rfl (rv_tmp hF rfl) ?_
     exact ⟨rfl, hW.done⟩
    ·
     have H := iteF (by rw [hb]; decide) H
     rw [hb] at hF
     clear hb
     refine wp_skip ?_
     refine c_then ?_
     refine c_seq ?_
     refine c_seq (reg_list ?_)
     refine ls hF hW rfl ((y_move hF rfl).q) (fun a w hF hW => ?_)
     refine ls hF hW rfl ((y_load (v := Value.agg #[.int .i64 x5.1, .int .i64 x5.2]) 0 hF rfl rfl T148 rfl).q) (fun a w hF hW => ?_)
     refine ls hF hW rfl ((y_maplook (zv := (() : Unit)) (kx := (x5 : Int × Int)) (q := 1) (E := KE148) (V := KE149) hF rfl rfl rfl KK148 u144_ Z149).q) (fun a w hF hW => ?_)
     refine ls hF hW rfl ((y_move hF rfl).q) (fun a w hF hW => ?_)
     refine ls hF hW rfl ((y_extract (v := Value.agg #[]) hF rfl rfl).q) (fun a w hF hW => ?_)
     refine ls hF hW rfl ((y_extract (v := Value.bool ((mget x4 x5).isSome)) hF rfl rfl).q) (fun a w hF hW => ?_)
     refine l_alloc (cs := []) hF hW rfl Z149 rfl (fun b4 a w hF hW => ?_)
     refine l_store (vs := []) (M' := [(b4, []), (b3, [.int .i64 x5.1, .int .i64 x5.2]), (b1, [.int .i64 p0.1, v1, v2])]) 0 hF hW rfl rfl rfl T149 rfl rfl rfl rfl rfl (fun w hW => ?_)
     refine ls hF hW rfl ((y_assign hF rfl).q) (fun a w hF hW => ?_)
     refine ls_nil (c_then ?_)
     refine c_seq (reg_list ?_)
     refine ls hF hW rfl ((y_move hF rfl).q) (fun a w hF hW => ?_)
     refine ls_nil (c_then ?_)
     refine c_cond hF rfl (fun hb => ?_) (fun hb => ?_)
     ·
      have H := iteT hb H
      rw [hb] at hF
      clear hb
      refine c_seq (reg_list ?_)
      refine ls hF hW rfl ((y_assign hF rfl).q) (fun a w hF hW => ?_)
      refine ls_nil (c_then ?_)
      refine wp_ret ?_
      refine r_then ?_
      refine r_block ?_
      iterate 2 refine r_then ?_
      refine r_block ?_
      refine r_then ?_
      have H := L2 _ H
      have H := L1 _ H
      have H := Option.some.inj H
      subst H
      refine post1 (.inl rfl) hF hW rfl (rv_tmp hF rfl) ?_
      exact ⟨rfl, hW.done⟩
     ·
      have H := iteF (by rw [hb]; decide) H
      rw [hb] at hF
      clear hb
      refine wp_skip ?_
      refine c_then ?_
      refine reg_list ?_
      refine ls hF hW rfl ((y_move hF rfl).q) (fun a w hF hW => ?_)
      refine ls hF hW rfl ((y_load (v := Value.agg #[.int .i64 x5.1, .int .i64 x5.2]) 1 hF rfl rfl T148 rfl).q) (fun a w hF hW => ?_)
      refine ls hF hW rfl ((y_build (v := Value.agg #[]) B149 hF rfl rfl rfl).q) (fun a w hF hW => ?_)
      refine l_mapput (q := 1) (kx := (x5 : Int × Int)) (vx := (() : Unit)) (E := KE148) (V := KE149) hF hW rfl rfl rfl rfl rfl KK148 u144_ (fun w hW => ?_)
      have hW : Stw ⟨Y, [], w0⟩ [(b4, []), (b3, [.int .i64 x5.1, .int .i64 x5.2]), (b1, [.int .i64 p0.1, v1, v2])] [mp b2 KE148 KE149 (mput x4 x5 ()), row v3 148 R148 x2] w := hW
      refine ls_nil ?_
      refine b_normal ?_
      refine c_then ?_
      refine reg_list ?_
      refine ls hF hW rfl ((y_add hF rfl rfl rfl).q) (fun a w hF hW => ?_)
      refine ls hF hW rfl ((y_move hF rfl).q) (fun a w hF hW => ?_)
      refine ls_nil (c_then ?_)
      have hW := hW.frontZ (i := 1) rfl rfl
      have hW := hW.frontM (i := 2) rfl rfl
      have hW := hW.sub (M' := [(b1, [.int .i64 p0.1, v1, v2])]) (Z' := [row v3 148 R148 x2, mp b2 KE148 KE149 (mput x4 x5 ())]) (List.Sublist.cons_cons _ (List.nil_sublist _)) (List.Sublist.refl _)
      exact ⟨_, H, hF.re ⟨rfl, rfl, rfl, rfl, rfl, rfl, trivial⟩, hW⟩
   ·
    have H := iteF (of_decide_eq_false hb) H
    rw [hb] at hF
    clear hb
    refine wp_exit ?_
    iterate 2 refine e_then ?_
    refine e_block ?_
    refine c_then ?_
    have hW := hW.frontZ (i := 1) rfl rfl
    have hW := hW.sub (M' := [(b1, [.int .i64 p0.1, v1, v2])]) (Z' := [mp b2 KE148 KE149 x4]) (List.Sublist.refl _) (List.Sublist.cons_cons _ (List.nil_sublist _))
    have H := L2 _ H
    exact ⟨_, H, hF.re ⟨rfl, rfl, trivial⟩, hW⟩
  rintro a w ⟨x1, hj, hF, hW⟩
  have H := K1 _ hj
  clear hj G1 K1 L1
  refine c_seq (reg_list ?_)
  refine ls hF hW rfl ((y_fieldAddr u25_ rfl rfl rfl T22 hF rfl 1 rfl).q) (fun a w hF hW => ?_)
  refine ls hF hW rfl ((y_load (v := v1) 0 hF rfl rfl T22 rfl).q) (fun a w hF hW => ?_)
  obtain ⟨x6, h3, H⟩ := bindE H
  refine ls hF hW rfl (y_call (v := Value.bool x6) hF H87 rfl (fun w hW => slices_ContainsFunc_api_Link_api_Link_c any w (v1) p0.2.1 _ h3 (((rdc_ro h_v1) : Rdc _ _ _ _ _ _) w hW).nx)) (fun a w hF hW => ?_)
  refine ls hF hW rfl ((y_not hF rfl).q) (fun a w hF hW => ?_)
  refine ls hF hW rfl ((y_assign hF rfl).q) (fun a w hF hW => ?_)
  refine ls_nil (c_then ?_)
  refine wp_ret ?_
  have H := Option.some.inj H
  subst H
  refine post1 (.inl rfl) hF hW rfl (rv_tmp hF rfl) ?_
  exact ⟨rfl, hW.done⟩

theorem u27_ : type_of% Try.underlying27 := Try.underlying27
theorem u46_ : type_of% Try.underlying46 := Try.underlying46
theorem H66 : Has Try.prog 66 := ⟨fun args w => run_callFunc_body Try.func66 rfl (by decide) args w⟩
abbrev EE46 (a : Value × List Int) : List Value := [a.1]
theorem FE46 : Flat (Rp.vsl (Rp.int .i64)) EE46 := Flat.vsl
theorem L27 : Et Try.prog 27 46 1 24 := Et.of u27_ (by kernel_rfl) (by kernel_rfl) (by kernel_rfl) (by decide)
theorem T46 : Ty Try.prog 46 false 1 := ⟨by kernel_rfl, by kernel_rfl⟩
theorem L46 : Et Try.prog 46 3 1 8 := Et.of u46_ (by kernel_rfl) (by kernel_rfl) (by kernel_rfl) (by decide)
def route_wrongPort (p0 : Int) : Bool := (decide (p0 < 0) || decide (8 ≤ p0))
theorem route_wrongPort_c (Y : Nat → Prop) (w0 : World)  (p0 : Int) (r : Bool) (H : route_wrongPort p0 = r)  :
    Calls Try.prog 68 #[.int .i64 p0] w0 fun e w' => e = .returned (.bool r) ∧ Below w0.heap.size w0 w' := by
 refine enter Try.func68 rfl Try.ntmps68 rfl (fun a hF => ?_)
 have hW := Stw.start Y w0
 unfold route_wrongPort at H
 refine c_seq (reg_list ?_)
 refine ls hF hW rfl ((y_assign hF rfl).q) (fun a w hF hW => ?_)
 refine ls_nil (c_then ?_)
 refine c_seqJ (fun a w => Fr 9 [] [(2, .bool (decide (p0 < 0) || decide (8 ≤ p0)))] a ∧ Stw ⟨Y, [], w0⟩ [] [] w) ?_ ?_
 ·
  refine reg_list ?_
  refine ls hF hW rfl ((y_move hF rfl).q) (fun a w hF hW => ?_)
  refine ls hF hW rfl ((y_lss hF rfl rfl).q) (fun a w hF hW => ?_)
  refine ls hF hW rfl ((y_move hF rfl).q) (fun a w hF hW => ?_)
  rcases Bool.eq_false_or_eq_true (decide (p0 < 0)) with hb0 | hb0
  ·
   rw [hb0] at hF
   iterate 2 refine lsn hF rfl rfl rfl rfl rfl rfl rfl (fun a hF => ?_)
   refine ls hF hW rfl ((y_pick_t hF rfl rfl rfl).q) (fun a w hF hW => ?_)
   refine ls hF hW rfl ((y_assign hF rfl).q) (fun a w hF hW => ?_)
   refine ls_nil (c_then ?_)
   exact ⟨hF.re ⟨(by show some (Value.bool true) = some (Value.bool (decide (p0 < 0) || decide (8 ≤ p0))); try rw [hb0]; all_goals simp only [Bool.not_true, Bool.not_false, Bool.true_and, Bool.false_and, Bool.true_or, Bool.false_or, Bool.and_true, Bool.or_false, cond_true, cond_false]), trivial⟩, hW⟩
  ·
   rw [hb0] at hF
   refine ls_w hF hW (wanted_y hF rfl rfl rfl rfl) rfl (Nat.le_of_ble_eq_true rfl) ((y_move hF rfl).q) (fun a w hF hW => ?_)
   refine ls_w hF hW (wanted_y hF rfl rfl rfl rfl) rfl (Nat.le_of_ble_eq_true rfl) ((y_geq hF rfl rfl).q) (fun a w hF hW => ?_)
   refine ls hF hW rfl ((y_pick_f hF rfl rfl rfl).q) (fun a w hF hW => ?_)
   refine ls hF hW rfl ((y_assign hF rfl).q) (fun a w hF hW => ?_)
   refine ls_nil (c_then ?_)
   exact ⟨hF.re ⟨(by show some (Value.bool (decide (8 ≤ p0))) = some (Value.bool (decide (p0 < 0) || decide (8 ≤ p0))); try rw [hb0]; all_goals simp only [Bool.not_true, Bool.not_false, Bool.true_and, Bool.false_and, Bool.true_or, Bool.false_or, Bool.and_true, Bool.or_false, cond_true, cond_false]), trivial⟩, hW⟩
 rintro a w ⟨hF, hW⟩
 refine wp_ret ?_
 subst H
 refine post1 (.inl rfl) hF hW rfl (rv_tmp hF rfl) ?_
 exact ⟨rfl, hW.done⟩

theorem H68 : Has Try.prog 68 := ⟨fun args w => run_callFunc_body Try.func68 rfl (by decide) args w⟩
noncomputable def slices_IndexFunc_int_int_l1 (p0 : List Int) : Int → Option (Int ⊕ (Unit ⊕ Int))
  | x1 => (if x1 < (p0.length : Int) then (ix p0 x1).bind fun x2 => (if (route_wrongPort x2) = true then some (.inr (.inr x1)) else some (.inl (w64 (x1 + 1)))) else some (.inr (.inl ())))
noncomputable def slices_IndexFunc_int_int (p0 : List Int) : Option Int := orR (loopW (slices_IndexFunc_int_int_l1 p0) 0) fun _ => some (-1)
theorem slices_IndexFunc_int_int_c (Y : Nat → Prop) (w0 : World) (v1 : Value) (p0 : List Int) (r : Int) (H : slices_IndexFunc_int_int p0 = some r) (h_v1 : Sl w0 (NX []) (Rp.int .i64) v1 p0) :
    Calls Try.prog 89 #[v1, .func (.func 68) #[] #[]] w0 fun e w' => e = .returned (.int .i64 r) ∧ Below w0.heap.size w0 w' := by
 refine enter Try.func89 rfl Try.ntmps89 rfl (fun a hF => ?_)
 have hW := Stw.start Y w0
 unfold slices_IndexFunc_int_int at H
 refine c_seq (reg_list ?_)
 refine ls hF hW rfl ((y_assign hF rfl).q) (fun a w hF hW => ?_)
 refine ls_nil (c_then ?_)
 obtain ⟨o1, G1, K1, L1⟩ := orE H
 refine c_seqJ (fun a w => some (Sum.inl ()) = some o1 ∧ Fr 19 [] [(4, .int .i64 0)] a ∧ Stw ⟨Y, [], w0⟩ [] [] w) ?_ ?_
 ·
  have H := G1
  clear G1 K1
  refine c_seq (reg_list ?_)
  refine ls hF hW rfl ((y_move hF rfl).q) (fun a w hF hW => ?_)
  refine ls hF hW rfl ((y_len (r := (Rp.int .i64)) (l := p0) u46_ rfl hF rfl (rdc_ro h_v1)).q) (fun a w hF hW => ?_)
  refine ls hF hW rfl ((y_move hF rfl).q) (fun a w hF hW => ?_)
  refine ls_nil (c_then ?_)
  refine wp_block ?_
  refine c_loopW H (fun s a w => Fr 19 [] [(0, v1), (1, .func (.func 68) #[] #[]), (4, .int .i64 0), (7, .int .i64 (p0.length : Int)), (8, .int .i64 s)] a ∧ Stw ⟨Y, [], w0⟩ [] [] w) ⟨hF.re ⟨rfl, rfl, rfl, rfl, rfl, trivial⟩, hW⟩ (fun s o a w H L2 hR => ?_)
  obtain ⟨x1, rfl⟩ : ∃ x, x = s := ⟨s, rfl⟩
  obtain ⟨hF, hW⟩ := hR
  have hF : Fr 19 [] [(0, v1), (1, .func (.func 68) #[] #[]), (4, .int .i64 0), (7, .int .i64 (p0.length : Int)), (8, .int .i64 x1)] a := hF
  have hW : Stw ⟨Y, [], w0⟩ [] [] w := hW
  rw [slices_IndexFunc_int_int_l1] at H
  refine c_seq (reg_list ?_)
  refine ls hF hW rfl ((y_lss hF rfl rfl).q) (fun a w hF hW => ?_)
  refine ls_nil (c_then ?_)
  refine c_seq ?_
  refine c_cond hF rfl (fun hb => ?_) (fun hb => ?_)
  ·
   have H := iteT (of_decide_eq_true hb) H
   rw [hb] at hF
   clear hb
   refine wp_skip ?_
   refine c_then ?_
   refine c_seq ?_
   refine wp_block ?_
   refine c_seq (reg_list ?_)
   refine ls hF hW rfl ((y_move hF rfl).q) (fun a w hF hW => ?_)
   refine ls hF hW rfl ((y_assign hF rfl).q) (fun a w hF hW => ?_)
   refine ls_nil (c_then ?_)
   refine c_seq (reg_list ?_)
   iterate 3 refine ls hF hW rfl ((y_move hF rfl).q) (fun a w hF hW => ?_)
   obtain ⟨x2, h1, H⟩ := bindE H
   refine ls hF hW rfl ((y_index (r := (Rp.int .i64)) L46 hF rfl rfl (rdc_ro h_v1) h1).q) (fun a w hF hW => ?_)
   refine ls hF hW rfl ((y_load_el (y := Value.int .i64 x2) (j := 0) (i := x1) hF rfl rfl (rdc_ro h_v1) h1 Fl.int.to T3 rfl).q) (fun a w hF hW => ?_)
   refine ls hF hW rfl (y_callV (ws := [.int .i64 x2]) (v := Value.bool (route_wrongPort x2)) hF H68 rfl (fun w hW => route_wrongPort_c any w x2 _ rfl)) (fun a w hF hW => ?_)
   refine ls_nil (c_then ?_)
   refine c_cond hF rfl (fun hb => ?_) (fun hb => ?_)
   ·
    have H := iteT hb H
    rw [hb] at hF
    clear hb
    refine c_seq (reg_list ?_)
    refine ls hF hW rfl ((y_move hF rfl).q) (fun a w hF hW => ?_)
    refine ls hF hW rfl ((y_assign hF rfl).q) (fun a w hF hW => ?_)
    refine ls_nil (c_then ?_)
    refine wp_ret ?_
    refine r_block ?_
    iterate 2 refine r_then ?_
    refine r_block ?_
    refine r_then ?_
    have H := L2 _ H
    have H := L1 _ H
    have H := Option.some.inj H
    subst H
    refine post1 (.inl rfl) hF hW rfl (rv_tmp hF rfl) ?_
    exact ⟨rfl, hW.done⟩
   ·
    have H := iteF (by rw [hb]; decide) H
    rw [hb] at hF
    clear hb
    refine wp_skip ?_
    refine b_normal ?_
    refine c_then ?_
    refine reg_list ?_
    refine ls hF hW rfl ((y_add hF rfl rfl rfl).q) (fun a w hF hW => ?_)
    refine ls hF hW rfl ((y_move hF rfl).q) (fun a w hF hW => ?_)
    refine ls_nil (c_then ?_)
    exact ⟨_, H, hF.re ⟨rfl, rfl, rfl, rfl, rfl, trivial⟩, hW⟩
  ·
   have H := iteF (of_decide_eq_false hb) H
   rw [hb] at hF
   clear hb
   refine wp_exit ?_
   iterate 2 refine e_then ?_
   refine e_block ?_
   refine c_then ?_
   have H := L2 _ H
   exact ⟨H, hF.re ⟨rfl, trivial⟩, hW⟩
 rintro a w ⟨hj, hF, hW⟩
 have H := K1 _ hj
 clear hj G1 K1 L1
 refine c_seq (reg_list ?_)
 refine ls hF hW rfl ((y_assign hF rfl).q) (fun a w hF hW => ?_)
 refine ls_nil (c_then ?_)
 refine wp_ret ?_
 have H := Option.some.inj H
 subst H
 refine post1 (.inl rfl) hF hW rfl (rv_tmp hF rfl) ?_
 exact ⟨rfl, hW.done⟩

theorem H89 : Has Try.prog 89 := ⟨fun args w => run_callFunc_body Try.func89 rfl (by decide) args w⟩
noncomputable def slices_ContainsFunc_int_int (p0 : List Int) : Option Bool := (slices_IndexFunc_int_int p0).bind fun x1 => some (decide (0 ≤ x1))
theorem slices_ContainsFunc_int_int_c (Y : Nat → Prop) (w0 : World) (v1 : Value) (p0 : List Int) (r : Bool) (H : slices_ContainsFunc_int_int p0 = some r) (h_v1 : Sl w0 (NX []) (Rp.int .i64) v1 p0) :
    Calls Try.prog 67 #[v1, .func (.func 68) #[] #[]] w0 fun e w' => e = .returned (.bool r) ∧ Below w0.heap.size w0 w' := by
 refine enter Try.func67 rfl Try.ntmps67 rfl (fun a hF => ?_)
 have hW := Stw.start Y w0
 unfold slices_ContainsFunc_int_int at H
 refine c_seq (reg_list ?_)
 refine ls hF hW rfl ((y_assign hF rfl).q) (fun a w hF hW => ?_)
 refine ls_nil (c_then ?_)
 refine c_seq (reg_list ?_)
 iterate 2 refine ls hF hW rfl ((y_move hF rfl).q) (fun a w hF hW => ?_)
 obtain ⟨x1, h1, H⟩ := bindE H
 refine ls hF hW rfl (y_call (v := Value.int .i64 x1) hF H89 rfl (fun w hW => slices_IndexFunc_int_int_c any w (v1) p0 _ h1 (((rdc_ro h_v1) : Rdc _ _ _ _ _ _) w hW).nx)) (fun a w hF hW => ?_)
 refine ls hF hW rfl ((y_geq hF rfl rfl).q) (fun a w hF hW => ?_)
 refine ls hF hW rfl ((y_assign hF rfl).q) (fun a w hF hW => ?_)
 refine ls_nil (c_then ?_)
 refine wp_ret ?_
 have H := Option.some.inj H
 subst H
 refine post1 (.inl rfl) hF hW rfl (rv_tmp hF rfl) ?_
 exact ⟨rfl, hW.done⟩

theorem H67 : Has Try.prog 67 := ⟨fun args w => run_callFunc_body Try.func67 rfl (by decide) args w⟩
noncomputable def route_Right_l1 (p0 : Int × (List (Int × Int × Int × Int × Int × Int)) × (List (Int × Int))) (p1 : List (List Int)) : Int → Option (Int ⊕ (Unit ⊕ Bool))
  | x3 => (if x3 < (p1.length : Int) then (ix p1 x3).bind fun x4 => (if (x4.length : Int) ≠ (p0.2.2.length : Int) then some true else (slices_ContainsFunc_int_int x4).bind fun x6 => some x6).bind fun x5 => (if x5 = true then some (.inr (.inr false)) else some (.inl (w64 (x3 + 1)))) else some (.inr (.inl ())))
noncomputable def route_Right (p0 : Int × (List (Int × Int × Int × Int × Int × Int)) × (List (Int × Int))) (p1 : List (List Int)) : Option Bool := ((topo_Right p0).bind fun x2 => (if (!x2) = true then some true else some (decide ((p1.length : Int) ≠ p0.1)))).bind fun x1 => (if x1 = true then some false else orR (loopW (route_Right_l1 p0 p1) 0) fun _ => some true)
theorem route_Right_c (Y : Nat → Prop) (w0 : World) (v1 : Value) (v2 : Value) (v3 : Value) (p0 : Int × (List (Int × Int × Int × Int × Int × Int)) × (List (Int × Int))) (p1 : List (List Int)) (r : Bool) (H : route_Right p0 p1 = some r) (h_v1 : Sl w0 (NX []) R62 v1 p0.2.1) (h_v2 : Sl w0 (NX []) R64 v2 p0.2.2) (h_v3 : Sl w0 (NX []) (Rp.slice (Rp.int .i64)) v3 p1) :
    Calls Try.prog 51 #[.agg #[.int .i64 p0.1, v1, v2], v3] w0 fun e w' => e = .returned (.bool r) ∧ Below w0.heap.size w0 w' := by
 refine enter Try.func51 rfl Try.ntmps51 rfl (fun a hF => ?_)
 have hW := Stw.start Y w0
 obtain ⟨v4, h1, h_v3⟩ := h_v3.ex EX46
 unfold route_Right at H
 refine c_seq (reg_list ?_)
 refine l_box (cs := [.int .i64 p0.1, v1, v2]) hF hW rfl rfl rfl (fun b1 a w hF hW => ?_)
 refine ls hF hW rfl ((y_assign hF rfl).q) (fun a w hF hW => ?_)
 refine ls_nil (c_then ?_)
 refine c_seq ?_
 obtain ⟨o1, G1, K1⟩ := bindE H
 refine c_seqJ (fun a w => ∃ x1 : Bool, some (x1) = some o1 ∧ Fr 34 [] [(1, v3), (2, .pointer (some ⟨b1, 0, none⟩)), (4, .bool false), (16, .bool x1)] a ∧ Stw ⟨Y, [], w0⟩ [(b1, [.int .i64 p0.1, v1, v2])] [] w) ?_ ?_
 ·
  have H := G1
  clear G1 K1
  refine reg_list ?_
  refine ls hF hW rfl ((y_load (v := Value.agg #[.int .i64 p0.1, v1, v2]) 0 hF rfl rfl T25 rfl).q) (fun a w hF hW => ?_)
  obtain ⟨x2, h2, H⟩ := bindE H
  refine ls hF hW rfl (y_call (v := Value.bool x2) hF H66 rfl (fun w hW => topo_Right_c any w (v1) (v2) p0 _ h2 (((rdc_ro h_v1) : Rdc _ _ _ _ _ _) w hW).nx (((rdc_ro h_v2) : Rdc _ _ _ _ _ _) w hW).nx)) (fun a w hF hW => ?_)
  refine ls hF hW rfl ((y_not hF rfl).q) (fun a w hF hW => ?_)
  refine ls hF hW rfl ((y_move hF rfl).q) (fun a w hF hW => ?_)
  rcases Bool.eq_false_or_eq_true (!x2) with hb | hb
  ·
   have H := iteT hb H
   rw [hb] at hF
   clear hb
   iterate 5 refine lsn hF rfl rfl rfl rfl rfl rfl rfl (fun a hF => ?_)
   refine ls hF hW rfl ((y_pick_t hF rfl rfl rfl).q) (fun a w hF hW => ?_)
   refine ls_nil (c_then ?_)
   exact ⟨_, H, hF.re ⟨rfl, rfl, rfl, rfl, trivial⟩, hW⟩
  ·
   have H := iteF (by rw [hb]; decide) H
   rw [hb] at hF
   clear hb
   refine ls_w hF hW (wanted_y hF rfl rfl rfl rfl) rfl (Nat.le_of_ble_eq_true rfl) ((y_move hF rfl).q) (fun a w hF hW => ?_)
   refine ls_w hF hW (wanted_y hF rfl rfl rfl rfl) rfl (Nat.le_of_ble_eq_true rfl) ((y_len (r := (Rp.slice (Rp.int .i64))) (l := p1) u27_ rfl hF rfl (rdc_hide EX46 h1 (rdc_ro h_v3))).q) (fun a w hF hW => ?_)
   refine ls_w hF hW (wanted_y hF rfl rfl rfl rfl) rfl (Nat.le_of_ble_eq_true rfl) ((y_fieldAddr u25_ rfl rfl rfl T3 hF rfl 0 rfl).q) (fun a w hF hW => ?_)
   refine ls_w hF hW (wanted_y hF rfl rfl rfl rfl) rfl (Nat.le_of_ble_eq_true rfl) ((y_load (v := Value.int .i64 p0.1) 0 hF rfl rfl T3 rfl).q) (fun a w hF hW => ?_)
   refine ls_w hF hW (wanted_y hF rfl rfl rfl rfl) rfl (Nat.le_of_ble_eq_true rfl) ((y_neq hF rfl rfl).q) (fun a w hF hW => ?_)
   refine ls hF hW rfl ((y_pick_f hF rfl rfl rfl).q) (fun a w hF hW => ?_)
   refine ls_nil (c_then ?_)
   exact ⟨_, H, hF.re ⟨rfl, rfl, rfl, rfl, trivial⟩, hW⟩
 rintro a w ⟨x1, hj, hF, hW⟩
 have hj := Option.some.inj hj
 subst hj
 have H := K1
 clear G1 K1
 refine c_cond hF rfl (fun hb => ?_) (fun hb => ?_)
 ·
  have H := iteT hb H
  rw [hb] at hF
  clear hb
  refine c_seq (reg_list ?_)
  refine ls hF hW rfl ((y_assign hF rfl).q) (fun a w hF hW => ?_)
  refine ls_nil (c_then ?_)
  refine wp_ret ?_
  refine r_then ?_
  have H := Option.some.inj H
  subst H
  refine post1 (.inl rfl) hF hW rfl (rv_tmp hF rfl) ?_
  exact ⟨rfl, hW.done⟩
 ·
  have H := iteF (by rw [hb]; decide) H
  rw [hb] at hF
  clear hb
  refine wp_skip ?_
  refine c_then ?_
  obtain ⟨o2, G2, K2, L2⟩ := orE H
  refine c_seqJ (fun a w => some (Sum.inl ()) = some o2 ∧ Fr 34 [] [(4, .bool false)] a ∧ Stw ⟨Y, [], w0⟩ [(b1, [.int .i64 p0.1, v1, v2])] [] w) ?_ ?_
  ·
   have H := G2
   clear G2 K2
   refine c_seq (reg_list ?_)
   refine ls hF hW rfl ((y_move hF rfl).q) (fun a w hF hW => ?_)
   refine ls hF hW rfl ((y_len (r := (Rp.slice (Rp.int .i64))) (l := p1) u27_ rfl hF rfl (rdc_hide EX46 h1 (rdc_ro h_v3))).q) (fun a w hF hW => ?_)
   refine ls hF hW rfl ((y_move hF rfl).q) (fun a w hF hW => ?_)
   refine ls_nil (c_then ?_)
   refine wp_block ?_
   refine c_loopW H (fun s a w => Fr 34 [] [(2, .pointer (some ⟨b1, 0, none⟩)), (4, .bool false), (17, v3), (18, .int .i64 (p1.length : Int)), (19, .int .i64 s)] a ∧ Stw ⟨Y, [], w0⟩ [(b1, [.int .i64 p0.1, v1, v2])] [] w) ⟨hF.re ⟨rfl, rfl, rfl, rfl, rfl, trivial⟩, hW⟩ (fun s o a w H L3 hR => ?_)
   obtain ⟨x3, rfl⟩ : ∃ x, x = s := ⟨s, rfl⟩
   obtain ⟨hF, hW⟩ := hR
   have hF : Fr 34 [] [(2, .pointer (some ⟨b1, 0, none⟩)), (4, .bool false), (17, v3), (18, .int .i64 (p1.length : Int)), (19, .int .i64 x3)] a := hF
   have hW : Stw ⟨Y, [], w0⟩ [(b1, [.int .i64 p0.1, v1, v2])] [] w := hW
   rw [route_Right_l1] at H
   refine c_seq (reg_list ?_)
   refine ls hF hW rfl ((y_lss hF rfl rfl).q) (fun a w hF hW => ?_)
   refine ls_nil (c_then ?_)
   refine c_seq ?_
   refine c_cond hF rfl (fun hb => ?_) (fun hb => ?_)
   ·
    have H := iteT (of_decide_eq_true hb) H
    rw [hb] at hF
    clear hb
    refine wp_skip ?_
    refine c_then ?_
    refine c_seq ?_
    refine wp_block ?_
    refine c_seq (reg_list ?_)
    obtain ⟨x4, h3, H⟩ := bindE H
    obtain ⟨v5, h4, h5⟩ := ix_ex h1 h3
    have h6 : EE46 v5 = [(v5.1)] := congrArg (fun q : List Int => ([(v5.1)] : List Value)) h5
    refine ls hF hW rfl ((y_index (r := (Rp.vsl (Rp.int .i64))) L27 hF rfl rfl (rdc_ro h_v3) h4).q) (fun a w hF hW => ?_)
    refine ls hF hW rfl ((y_load_el (y := (v5.1)) (j := 0) (i := x3) (enc := EE46) hF rfl rfl (rdc_ro h_v3) h4 FE46 T46 (by rw [h6]; rfl)).q) (fun a w hF hW => ?_)
    refine ls hF hW rfl ((y_assign hF rfl).q) (fun a w hF hW => ?_)
    refine ls_nil (c_then ?_)
    obtain ⟨o4, G4, K4⟩ := bindE H
    refine c_seqJ (fun a w => ∃ x5 : Bool, some (x5) = some o4 ∧ Fr 34 [] [(2, .pointer (some ⟨b1, 0, none⟩)), (4, .bool false), (17, v3), (18, .int .i64 (p1.length : Int)), (19, .int .i64 x3), (32, .bool x5)] a ∧ Stw ⟨Y, [], w0⟩ [(b1, [.int .i64 p0.1, v1, v2])] [] w) ?_ ?_
    ·
     have H := G4
     clear G4 K4
     refine reg_list ?_
     refine ls hF hW rfl ((y_move hF rfl).q) (fun a w hF hW => ?_)
     refine ls hF hW rfl ((y_len (r := (Rp.int .i64)) (l := x4) u46_ rfl hF rfl (rdc_at (rdc_ro h_v3) h4 Path.here (congrArg (fun q : List Int => q) h5))).q) (fun a w hF hW => ?_)
     refine ls hF hW rfl ((y_fieldAddr u25_ rfl rfl rfl T23 hF rfl 2 rfl).q) (fun a w hF hW => ?_)
     refine ls hF hW rfl ((y_load (v := v2) 0 hF rfl rfl T23 rfl).q) (fun a w hF hW => ?_)
     refine ls hF hW rfl ((y_len (r := R64) (l := p0.2.2) u23_ rfl hF rfl (rdc_ro h_v2)).q) (fun a w hF hW => ?_)
     refine ls hF hW rfl ((y_neq hF rfl rfl).q) (fun a w hF hW => ?_)
     refine ls hF hW rfl ((y_move hF rfl).q) (fun a w hF hW => ?_)
     rcases Bool.eq_false_or_eq_true (decide ((x4.length : Int) ≠ (p0.2.2.length : Int))) with hb | hb
     ·
      have H := iteT (of_decide_eq_true hb) H
      rw [hb] at hF
      clear hb
      iterate 2 refine lsn hF rfl rfl rfl rfl rfl rfl rfl (fun a hF => ?_)
      refine ls hF hW rfl ((y_pick_t hF rfl rfl rfl).q) (fun a w hF hW => ?_)
      refine ls_nil (c_then ?_)
      exact ⟨_, H, hF.re ⟨rfl, rfl, rfl, rfl, rfl, rfl, trivial⟩, hW⟩
     ·
      have H := iteF (of_decide_eq_false hb) H
      rw [hb] at hF
      clear hb
      refine ls_w hF hW (wanted_y hF rfl rfl rfl rfl) rfl (Nat.le_of_ble_eq_true rfl) ((y_move hF rfl).q) (fun a w hF hW => ?_)
      refine ls_g (wanted_y hF rfl rfl rfl rfl) ?_
      obtain ⟨x6, h7, H⟩ := bindE H
      refine ls hF hW rfl (y_call (v := Value.bool x6) hF H67 rfl (fun w hW => slices_ContainsFunc_int_int_c any w ((v5.1)) x4 _ h7 (((rdc_at (rdc_ro h_v3) h4 Path.here (congrArg (fun q : List Int => q) h5)) : Rdc _ _ _ _ _ _) w hW).nx)) (fun a w hF hW => ?_)
      refine ls hF hW rfl ((y_pick_f hF rfl rfl rfl).q) (fun a w hF hW => ?_)
      refine ls_nil (c_then ?_)
      exact ⟨_, H, hF.re ⟨rfl, rfl, rfl, rfl, rfl, rfl, trivial⟩, hW⟩
    rintro a w ⟨x5, hj, hF, hW⟩
    have hj := Option.some.inj hj
    subst hj
    have H := K4
    clear G4 K4
    refine c_cond hF rfl (fun hb => ?_) (fun hb => ?_)
    ·
     have H := iteT hb H
     rw [hb] at hF
     clear hb
     refine c_seq (reg_list ?_)
     refine ls hF hW rfl ((y_assign hF rfl).q) (fun a w hF hW => ?_)
     refine ls_nil (c_then ?_)
     refine wp_ret ?_
     refine r_block ?_
     iterate 2 refine r_then ?_
     refine r_block ?_
     refine r_then ?_
     have H := L3 _ H
     have H := L2 _ H
     have H := Option.some.inj H
     subst H
     refine post1 (.inl rfl) hF hW rfl (rv_tmp hF rfl) ?_
     exact ⟨rfl, hW.done⟩
    ·
     have H := iteF (by rw [hb]; decide) H
     rw [hb] at hF
     clear hb
     refine wp_skip ?_
     refine b_normal ?_
     refine c_then ?_
     refine reg_list ?_
     refine ls hF hW rfl ((y_add hF rfl rfl rfl).q) (fun a w hF hW => ?_)
     refine ls hF hW rfl ((y_move hF rfl).q) (fun a w hF hW => ?_)
     refine ls_nil (c_then ?_)
     exact ⟨_, H, hF.re ⟨rfl, rfl, rfl, rfl, rfl, trivial⟩, hW⟩
   ·
    have H := iteF (of_decide_eq_false hb) H
    rw [hb] at hF
    clear hb
    refine wp_exit ?_
    iterate 2 refine e_then ?_
    refine e_block ?_
    refine c_then ?_
    have H := L3 _ H
    exact ⟨H, hF.re ⟨rfl, trivial⟩, hW⟩
  rintro a w ⟨hj, hF, hW⟩
  have H := K2 _ hj
  clear hj G2 K2 L2
  refine c_seq (reg_list ?_)
  refine ls hF hW rfl ((y_assign hF rfl).q) (fun a w hF hW => ?_)
  refine ls_nil (c_then ?_)
  refine wp_ret ?_
  have H := Option.some.inj H
  subst H
  refine post1 (.inl rfl) hF hW rfl (rv_tmp hF rfl) ?_
  exact ⟨rfl, hW.done⟩

theorem H51 : Has Try.prog 51 := ⟨fun args w => run_callFunc_body Try.func51 rfl (by decide) args w⟩
theorem Z3 : (Try.prog.info? 3).bind (·.zero) = some (.int .i64 0) := by kernel_rfl
theorem MO : Try.prog.follows .mixedOrders = true := by kernel_rfl
theorem B64 : Bt Try.prog 64 [.int .i64 0, .int .i64 0] [(0, 1), (1, 1)] := ⟨⟨.agg #[.int .i64 0, .int .i64 0], by kernel_rfl, rfl⟩, ⟨_, u64_, fun w => by kernel_rfl⟩⟩
theorem QD64 (dd : Nat) (x0 : Int) (x1 : Int) (y0 : Int) (y1 : Int) (w : World) : (Op.equalIn (dd + 2) 64 (.agg #[.int .i64 x0, .int .i64 x1]) (.agg #[.int .i64 y0, .int .i64 y1])).run Try.prog w = .ok (decide (x0 = y0 ∧ x1 = y1)) w :=
  eq_struct (d := dd + 1) (rs := [decide (x0 = y0), decide (x1 = y1)]) u64_ (by kernel_rfl) ⟨rfl, fld_int (d := dd + 0) rfl rfl u3_ T3 rfl rfl, rfl, fld_int (d := dd + 0) rfl rfl u3_ T3 rfl rfl, trivial⟩ (by simp) w
theorem G64 : Try.prog.eqGuardType Try.prog.depth 64 = false := by kernel_rfl
theorem Q64 (x0 : Int) (x1 : Int) (y0 : Int) (y1 : Int) (w : World) : (Op.equalIn 10000 64 (.agg #[.int .i64 x0, .int .i64 x1]) (.agg #[.int .i64 y0, .int .i64 y1])).run Try.prog w = .ok (decide (x0 = y0 ∧ x1 = y1)) w := QD64 9998 x0 x1 y0 y1 w
noncomputable def slices_Index_api_Host_api_Host_l1 (p0 : List (Int × Int)) (p1 : Int × Int) : Int → Option (Int ⊕ (Unit ⊕ Int))
  | x1 => (if x1 < (p0.length : Int) then (ix p0 x1).bind fun x2 => (if p1.1 = x2.1 ∧ p1.2 = x2.2 then some (.inr (.inr x1)) else some (.inl (w64 (x1 + 1)))) else some (.inr (.inl ())))
noncomputable def slices_Index_api_Host_api_Host (p0 : List (Int × Int)) (p1 : Int × Int) : Option Int := orR (loopW (slices_Index_api_Host_api_Host_l1 p0 p1) 0) fun _ => some (-1)
theorem slices_Index_api_Host_api_Host_c (Y : Nat → Prop) (w0 : World) (v1 : Value) (p0 : List (Int × Int)) (p1 : Int × Int) (r : Int) (H : slices_Index_api_Host_api_Host p0 p1 = some r) (h_v1 : Sl w0 (NX []) R64 v1 p0) :
    Calls Try.prog 90 #[v1, .agg #[.int .i64 p1.1, .int .i64 p1.2]] w0 fun e w' => e = .returned (.int .i64 r) ∧ Below w0.heap.size w0 w' := by
 refine enter Try.func90 rfl Try.ntmps90 rfl (fun a hF => ?_)
 have hW := Stw.start Y w0
 unfold slices_Index_api_Host_api_Host at H
 refine c_seq (reg_list ?_)
 refine l_box (cs := [.int .i64 p1.1, .int .i64 p1.2]) hF hW rfl rfl rfl (fun b1 a w hF hW => ?_)
 refine ls hF hW rfl ((y_assign hF rfl).q) (fun a w hF hW => ?_)
 refine ls_nil (c_then ?_)
 obtain ⟨o1, G1, K1, L1⟩ := orE H
 refine c_seqJ (fun a w => some (Sum.inl ()) = some o1 ∧ Fr 19 [] [(4, .int .i64 0)] a ∧ Stw ⟨Y, [], w0⟩ [(b1, [.int .i64 p1.1, .int .i64 p1.2])] [] w) ?_ ?_
 ·
  have H := G1
  clear G1 K1
  refine c_seq (reg_list ?_)
  refine ls hF hW rfl ((y_move hF rfl).q) (fun a w hF hW => ?_)
  refine ls hF hW rfl ((y_len (r := R64) (l := p0) u23_ rfl hF rfl (rdc_ro h_v1)).q) (fun a w hF hW => ?_)
  refine ls hF hW rfl ((y_move hF rfl).q) (fun a w hF hW => ?_)
  refine ls_nil (c_then ?_)
  refine wp_block ?_
  refine c_loopW H (fun s a w => Fr 19 [] [(0, v1), (3, .pointer (some ⟨b1, 0, none⟩)), (4, .int .i64 0), (7, .int .i64 (p0.length : Int)), (8, .int .i64 s)] a ∧ Stw ⟨Y, [], w0⟩ [(b1, [.int .i64 p1.1, .int .i64 p1.2])] [] w) ⟨hF.re ⟨rfl, rfl, rfl, rfl, rfl, trivial⟩, hW⟩ (fun s o a w H L2 hR => ?_)
  obtain ⟨x1, rfl⟩ : ∃ x, x = s := ⟨s, rfl⟩
  obtain ⟨hF, hW⟩ := hR
  have hF : Fr 19 [] [(0, v1), (3, .pointer (some ⟨b1, 0, none⟩)), (4, .int .i64 0), (7, .int .i64 (p0.length : Int)), (8, .int .i64 x1)] a := hF
  have hW : Stw ⟨Y, [], w0⟩ [(b1, [.int .i64 p1.1, .int .i64 p1.2])] [] w := hW
  rw [slices_Index_api_Host_api_Host_l1] at H
  refine c_seq (reg_list ?_)
  refine ls hF hW rfl ((y_lss hF rfl rfl).q) (fun a w hF hW => ?_)
  refine ls_nil (c_then ?_)
  refine c_seq ?_
  refine c_cond hF rfl (fun hb => ?_) (fun hb => ?_)
  ·
   have H := iteT (of_decide_eq_true hb) H
   rw [hb] at hF
   clear hb
   refine wp_skip ?_
   refine c_then ?_
   refine c_seq ?_
   refine wp_block ?_
   refine c_seq (reg_list ?_)
   refine ls hF hW rfl ((y_move hF rfl).q) (fun a w hF hW => ?_)
   refine ls hF hW rfl ((y_assign hF rfl).q) (fun a w hF hW => ?_)
   refine ls_nil (c_then ?_)
   refine c_seq ?_
   refine reg_quiet hW MO (by kernel_rfl) ?_
   refine qs hF rfl ((y_load (v := Value.agg #[.int .i64 p1.1, .int .i64 p1.2]) 0 hF rfl rfl T64 rfl).q) (fun a hF => ?_)
   iterate 2 refine qs hF rfl ((y_move hF rfl).q) (fun a hF => ?_)
   obtain ⟨x2, h1, H⟩ := bindE H
   refine qs hF rfl ((y_index (r := R64) L23 hF rfl rfl (rdc_ro h_v1) h1).q) (fun a hF => ?_)
   refine qs hF rfl ((y_load_el (y := Value.agg #[.int .i64 x2.1, .int .i64 x2.2]) (j := 0) (i := x1) hF rfl rfl (rdc_ro h_v1) h1 F64.to T64 rfl).q) (fun a hF => ?_)
   refine qs hF rfl ((y_eqa (t := decide (p1.1 = x2.1 ∧ p1.2 = x2.2)) G64 (Q64 _ _ _ _) hF rfl rfl).q) (fun a hF => ?_)
   refine quiet_end (fun w hW => ?_)
   refine c_then ?_
   refine c_cond hF rfl (fun hb => ?_) (fun hb => ?_)
   ·
    have H := iteT (of_decide_eq_true hb) H
    rw [hb] at hF
    clear hb
    refine c_seq (reg_list ?_)
    refine ls hF hW rfl ((y_move hF rfl).q) (fun a w hF hW => ?_)
    refine ls hF hW rfl ((y_assign hF rfl).q) (fun a w hF hW => ?_)
    refine ls_nil (c_then ?_)
    refine wp_ret ?_
    refine r_block ?_
    iterate 2 refine r_then ?_
    refine r_block ?_
    refine r_then ?_
    have H := L2 _ H
    have H := L1 _ H
    have H := Option.some.inj H
    subst H
    refine post1 (.inl rfl) hF hW rfl (rv_tmp hF rfl) ?_
    exact ⟨rfl, hW.done⟩
   ·
    have H := iteF (of_decide_eq_false hb) H
    rw [hb] at hF
    clear hb
    refine wp_skip ?_
    refine b_normal ?_
    refine c_then ?_
    refine reg_list ?_
    refine ls hF hW rfl ((y_add hF rfl rfl rfl).q) (fun a w hF hW => ?_)
    refine ls hF hW rfl ((y_move hF rfl).q) (fun a w hF hW => ?_)
    refine ls_nil (c_then ?_)
    exact ⟨_, H, hF.re ⟨rfl, rfl, rfl, rfl, rfl, trivial⟩, hW⟩
  ·
   have H := iteF (of_decide_eq_false hb) H
   rw [hb] at hF
   clear hb
   refine wp_exit ?_
   iterate 2 refine e_then ?_
   refine e_block ?_
   refine c_then ?_
   have H := L2 _ H
   exact ⟨H, hF.re ⟨rfl, trivial⟩, hW⟩
 rintro a w ⟨hj, hF, hW⟩
 have H := K1 _ hj
 clear hj G1 K1 L1
 refine c_seq (reg_list ?_)
 refine ls hF hW rfl ((y_assign hF rfl).q) (fun a w hF hW => ?_)
 refine ls_nil (c_then ?_)
 refine wp_ret ?_
 have H := Option.some.inj H
 subst H
 refine post1 (.inl rfl) hF hW rfl (rv_tmp hF rfl) ?_
 exact ⟨rfl, hW.done⟩

theorem H90 : Has Try.prog 90 := ⟨fun args w => run_callFunc_body Try.func90 rfl (by decide) args w⟩
noncomputable def topo_HostAt (p0 : Int × (List (Int × Int × Int × Int × Int × Int)) × (List (Int × Int))) (p1 : Int) (p2 : Int) : Option Int := (slices_Index_api_Host_api_Host p0.2.2 (p1, p2)).bind fun x1 => some x1
theorem topo_HostAt_c (Y : Nat → Prop) (w0 : World) (v1 : Value) (v2 : Value) (p0 : Int × (List (Int × Int × Int × Int × Int × Int)) × (List (Int × Int))) (p1 : Int) (p2 : Int) (r : Int) (H : topo_HostAt p0 p1 p2 = some r) (h_v1 : Sl w0 (NX []) R62 v1 p0.2.1) (h_v2 : Sl w0 (NX []) R64 v2 p0.2.2) :
    Calls Try.prog 69 #[.agg #[.int .i64 p0.1, v1, v2], .int .i64 p1, .int .i64 p2] w0 fun e w' => e = .returned (.int .i64 r) ∧ Below w0.heap.size w0 w' := by
 refine enter Try.func69 rfl Try.ntmps69 rfl (fun a hF => ?_)
 have hW := Stw.start Y w0
 unfold topo_HostAt at H
 refine c_seq (reg_list ?_)
 refine l_box (cs := [.int .i64 p0.1, v1, v2]) hF hW rfl rfl rfl (fun b1 a w hF hW => ?_)
 refine ls hF hW rfl ((y_assign hF rfl).q) (fun a w hF hW => ?_)
 refine ls_nil (c_then ?_)
 refine c_seq (reg_list ?_)
 refine ls hF hW rfl ((y_fieldAddr u25_ rfl rfl rfl T23 hF rfl 2 rfl).q) (fun a w hF hW => ?_)
 refine ls hF hW rfl ((y_load (v := v2) 0 hF rfl rfl T23 rfl).q) (fun a w hF hW => ?_)
 iterate 2 refine ls hF hW rfl ((y_move hF rfl).q) (fun a w hF hW => ?_)
 refine ls hF hW rfl ((y_build (v := Value.agg #[.int .i64 p1, .int .i64 p2]) B64 hF rfl rfl rfl).q) (fun a w hF hW => ?_)
 obtain ⟨x1, h1, H⟩ := bindE H
 refine ls hF hW rfl (y_call (v := Value.int .i64 x1) hF H90 rfl (fun w hW => slices_Index_api_Host_api_Host_c any w (v2) p0.2.2 (p1, p2) _ h1 (((rdc_ro h_v2) : Rdc _ _ _ _ _ _) w hW).nx)) (fun a w hF hW => ?_)
 refine ls hF hW rfl ((y_assign hF rfl).q) (fun a w hF hW => ?_)
 refine ls_nil (c_then ?_)
 refine wp_ret ?_
 have H := Option.some.inj H
 subst H
 refine post1 (.inl rfl) hF hW rfl (rv_tmp hF rfl) ?_
 exact ⟨rfl, hW.done⟩

theorem H69 : Has Try.prog 69 := ⟨fun args w => run_callFunc_body Try.func69 rfl (by decide) args w⟩
noncomputable def topo_Peer_l1 (p0 : Int × (List (Int × Int × Int × Int × Int × Int)) × (List (Int × Int))) (p1 : Int) (p2 : Int) : Int → Option (Int ⊕ (Unit ⊕ (Int × Int × Int × Bool)))
  | x1 => (if x1 < (p0.2.1.length : Int) then (ix p0.2.1 x1).bind fun x2 => (if p1 = x2.1 ∧ p2 = x2.2.1 then some (.inr (.inr (x2.2.2.1, x2.2.2.2.1, x1, true))) else (if p1 = x2.2.2.1 ∧ p2 = x2.2.2.2.1 then some (.inr (.inr (x2.1, x2.2.1, x1, true))) else some (.inl (w64 (x1 + 1))))) else some (.inr (.inl ())))
noncomputable def topo_Peer (p0 : Int × (List (Int × Int × Int × Int × Int × Int)) × (List (Int × Int))) (p1 : Int) (p2 : Int) : Option (Int × Int × Int × Bool) := orR (loopW (topo_Peer_l1 p0 p1 p2) 0) fun _ => some (0, 0, 0, false)
theorem topo_Peer_c (Y : Nat → Prop) (w0 : World) (v1 : Value) (v2 : Value) (p0 : Int × (List (Int × Int × Int × Int × Int × Int)) × (List (Int × Int))) (p1 : Int) (p2 : Int) (r : Int × Int × Int × Bool) (H : topo_Peer p0 p1 p2 = some r) (h_v1 : Sl w0 (NX []) R62 v1 p0.2.1) (h_v2 : Sl w0 (NX []) R64 v2 p0.2.2) :
    Calls Try.prog 91 #[.agg #[.int .i64 p0.1, v1, v2], .int .i64 p1, .int .i64 p2] w0 fun e w' => e = .returned (.tuple #[.int .i64 r.1, .int .i64 r.2.1, .int .i64 r.2.2.1, .bool r.2.2.2]) ∧ Below w0.heap.size w0 w' := by
 refine enter Try.func91 rfl Try.ntmps91 rfl (fun a hF => ?_)
 have hW := Stw.start Y w0
 unfold topo_Peer at H
 refine c_seq (reg_list ?_)
 refine l_box (cs := [.int .i64 p0.1, v1, v2]) hF hW rfl rfl rfl (fun b1 a w hF hW => ?_)
 iterate 4 refine ls hF hW rfl ((y_assign hF rfl).q) (fun a w hF hW => ?_)
 refine ls_nil (c_then ?_)
 refine c_seq (reg_list ?_)
 iterate 2 refine ls hF hW rfl ((y_move hF rfl).q) (fun a w hF hW => ?_)
 refine ls hF hW rfl ((y_build (v := Value.agg #[.int .i64 p1, .int .i64 p2]) B148 hF rfl rfl rfl).q) (fun a w hF hW => ?_)
 refine l_alloc (cs := [.int .i64 0, .int .i64 0]) hF hW rfl Z148 rfl (fun b2 a w hF hW => ?_)
 refine l_store (vs := [.int .i64 p1, .int .i64 p2]) (M' := [(b2, [.int .i64 p1, .int .i64 p2]), (b1, [.int .i64 p0.1, v1, v2])]) 0 hF hW rfl rfl rfl T148 rfl rfl rfl rfl rfl (fun w hW => ?_)
 refine ls_nil (c_then ?_)
 obtain ⟨o1, G1, K1, L1⟩ := orE H
 refine c_seqJ (fun a w => some (Sum.inl ()) = some o1 ∧ Fr 49 [] [(6, .int .i64 0), (7, .int .i64 0), (8, .int .i64 0), (9, .bool false)] a ∧ Stw ⟨Y, [], w0⟩ [(b2, [.int .i64 p1, .int .i64 p2]), (b1, [.int .i64 p0.1, v1, v2])] [] w) ?_ ?_
 ·
  have H := G1
  clear G1 K1
  refine c_seq (reg_list ?_)
  refine ls hF hW rfl ((y_fieldAddr u25_ rfl rfl rfl T22 hF rfl 1 rfl).q) (fun a w hF hW => ?_)
  refine ls hF hW rfl ((y_load (v := v1) 1 hF rfl rfl T22 rfl).q) (fun a w hF hW => ?_)
  refine ls hF hW rfl ((y_len (r := R62) (l := p0.2.1) u22_ rfl hF rfl (rdc_ro h_v1)).q) (fun a w hF hW => ?_)
  refine ls hF hW rfl ((y_move hF rfl).q) (fun a w hF hW => ?_)
  refine ls_nil (c_then ?_)
  refine wp_block ?_
  have hW := hW.frontM (i := 1) rfl rfl
  have hW := hW.frontM (i := 1) rfl rfl
  refine c_loopW H (fun s a w => Fr 49 [] [(6, .int .i64 0), (7, .int .i64 0), (8, .int .i64 0), (9, .bool false), (10, .pointer (some ⟨b2, 0, none⟩)), (17, v1), (18, .int .i64 (p0.2.1.length : Int)), (19, .int .i64 s)] a ∧ Stw ⟨Y, [], w0⟩ [(b2, [.int .i64 p1, .int .i64 p2]), (b1, [.int .i64 p0.1, v1, v2])] [] w) ⟨hF.re ⟨rfl, rfl, rfl, rfl, rfl, rfl, rfl, rfl, trivial⟩, hW⟩ (fun s o a w H L2 hR => ?_)
  obtain ⟨x1, rfl⟩ : ∃ x, x = s := ⟨s, rfl⟩
  obtain ⟨hF, hW⟩ := hR
  have hF : Fr 49 [] [(6, .int .i64 0), (7, .int .i64 0), (8, .int .i64 0), (9, .bool false), (10, .pointer (some ⟨b2, 0, none⟩)), (17, v1), (18, .int .i64 (p0.2.1.length : Int)), (19, .int .i64 x1)] a := hF
  have hW : Stw ⟨Y, [], w0⟩ [(b2, [.int .i64 p1, .int .i64 p2]), (b1, [.int .i64 p0.1, v1, v2])] [] w := hW
  rw [topo_Peer_l1] at H
  refine c_seq (reg_list ?_)
  refine ls hF hW rfl ((y_lss hF rfl rfl).q) (fun a w hF hW => ?_)
  refine ls_nil (c_then ?_)
  refine c_seq ?_
  refine c_cond hF rfl (fun hb => ?_) (fun hb => ?_)
  ·
   have H := iteT (of_decide_eq_true hb) H
   rw [hb] at hF
   clear hb
   refine wp_skip ?_
   refine c_then ?_
   refine c_seq ?_
   refine wp_block ?_
   refine c_seq (reg_list ?_)
   refine ls hF hW rfl ((y_move hF rfl).q) (fun a w hF hW => ?_)
   obtain ⟨x2, h1, H⟩ := bindE H
   refine ls hF hW rfl ((y_index (r := R62) L22 hF rfl rfl (rdc_ro h_v1) h1).q) (fun a w hF hW => ?_)
   refine ls hF hW rfl ((y_load_el (y := Value.agg #[.int .i64 x2.1, .int .i64 x2.2.1, .int .i64 x2.2.2.1, .int .i64 x2.2.2.2.1, .int .i64 x2.2.2.2.2.1, .int .i64 x2.2.2.2.2.2]) (j := 0) (i := x1) hF rfl rfl (rdc_ro h_v1) h1 F62.to T62 rfl).q) (fun a w hF hW => ?_)
   refine l_alloc (cs := [.int .i64 0, .int .i64 0, .int .i64 0, .int .i64 0, .int .i64 0, .int .i64 0]) hF hW rfl Z62 rfl (fun b3 a w hF hW => ?_)
   refine ls hF hW rfl ((y_assign hF rfl).q) (fun a w hF hW => ?_)
   refine l_store (vs := [.int .i64 x2.1, .int .i64 x2.2.1, .int .i64 x2.2.2.1, .int .i64 x2.2.2.2.1, .int .i64 x2.2.2.2.2.1, .int .i64 x2.2.2.2.2.2]) (M' := [(b3, [.int .i64 x2.1, .int .i64 x2.2.1, .int .i64 x2.2.2.1, .int .i64 x2.2.2.2.1, .int .i64 x2.2.2.2.2.1, .int .i64 x2.2.2.2.2.2]), (b2, [.int .i64 p1, .int .i64 p2]), (b1, [.int .i64 p0.1, v1, v2])]) 0 hF hW rfl rfl rfl T62 rfl rfl rfl rfl rfl (fun w hW => ?_)
   refine ls_nil (c_then ?_)
   refine c_seq ?_
   refine c_seq (reg_list ?_)
   refine ls hF hW rfl ((y_load (v := Value.agg #[.int .i64 p1, .int .i64 p2]) 1 hF rfl rfl T148 rfl).q) (fun a w hF hW => ?_)
   refine ls hF hW rfl ((y_fieldAddr u62_ rfl rfl rfl T3 hF rfl 0 rfl).q) (fun a w hF hW => ?_)
   refine ls hF hW rfl ((y_load (v := Value.int .i64 x2.1) 0 hF rfl rfl T3 rfl).q) (fun a w hF hW => ?_)
   refine ls hF hW rfl ((y_fieldAddr u62_ rfl rfl rfl T3 hF rfl 1 rfl).q) (fun a w hF hW => ?_)
   refine ls hF hW rfl ((y_load (v := Value.int .i64 x2.2.1) 0 hF rfl rfl T3 rfl).q) (fun a w hF hW => ?_)
   refine ls hF hW rfl ((y_build (v := Value.agg #[.int .i64 x2.1, .int .i64 x2.2.1]) B148 hF rfl rfl rfl).q) (fun a w hF hW => ?_)
   refine ls hF hW rfl ((y_eqa (t := decide (p1 = x2.1 ∧ p2 = x2.2.1)) G148 (Q148 _ _ _ _) hF rfl rfl).q) (fun a w hF hW => ?_)
   refine ls_nil (c_then ?_)
   refine c_cond hF rfl (fun hb => ?_) (fun hb => ?_)
   ·
    have H := iteT (of_decide_eq_true hb) H
    rw [hb] at hF
    clear hb
    refine c_seq ?_
    refine reg_quiet hW MO (by kernel_rfl) ?_
    refine qs hF rfl ((y_fieldAddr u62_ rfl rfl rfl T3 hF rfl 2 rfl).q) (fun a hF => ?_)
    refine qs hF rfl ((y_load (v := Value.int .i64 x2.2.2.1) 0 hF rfl rfl T3 rfl).q) (fun a hF => ?_)
    refine qs hF rfl ((y_fieldAddr u62_ rfl rfl rfl T3 hF rfl 3 rfl).q) (fun a hF => ?_)
    refine qs hF rfl ((y_load (v := Value.int .i64 x2.2.2.2.1) 0 hF rfl rfl T3 rfl).q) (fun a hF => ?_)
    refine qs hF rfl ((y_move hF rfl).q) (fun a hF => ?_)
    iterate 4 refine qs hF rfl ((y_assign hF rfl).q) (fun a hF => ?_)
    refine quiet_end (fun w hW => ?_)
    refine c_then ?_
    refine wp_ret ?_
    refine r_then ?_
    refine r_block ?_
    iterate 2 refine r_then ?_
    refine r_block ?_
    refine r_then ?_
    have H := L2 _ H
    have H := L1 _ H
    have H := Option.some.inj H
    subst H
    refine post4 (.inl rfl) hF hW rfl (rv_tmp hF rfl) (rv_tmp hF rfl) (rv_tmp hF rfl) (rv_tmp hF rfl) ?_
    exact ⟨rfl, hW.done⟩
   ·
    have H := iteF (of_decide_eq_false hb) H
    rw [hb] at hF
    clear hb
    refine wp_skip ?_
    refine c_then ?_
    refine c_seq (reg_list ?_)
    refine ls hF hW rfl ((y_load (v := Value.agg #[.int .i64 p1, .int .i64 p2]) 1 hF rfl rfl T148 rfl).q) (fun a w hF hW => ?_)
    refine ls hF hW rfl ((y_fieldAddr u62_ rfl rfl rfl T3 hF rfl 2 rfl).q) (fun a w hF hW => ?_)
    refine ls hF hW rfl ((y_load (v := Value.int .i64 x2.2.2.1) 0 hF rfl rfl T3 rfl).q) (fun a w hF hW => ?_)
    refine ls hF hW rfl ((y_fieldAddr u62_ rfl rfl rfl T3 hF rfl 3 rfl).q) (fun a w hF hW => ?_)
    refine ls hF hW rfl ((y_load (v := Value.int .i64 x2.2.2.2.1) 0 hF rfl rfl T3 rfl).q) (fun a w hF hW => ?_)
    refine ls hF hW rfl ((y_build (v := Value.agg #[.int .i64 x2.2.2.1, .int .i64 x2.2.2.2.1]) B148 hF rfl rfl rfl).q) (fun a w hF hW => ?_)
    refine ls hF hW rfl ((y_eqa (t := decide (p1 = x2.2.2.1 ∧ p2 = x2.2.2.2.1)) G148 (Q148 _ _ _ _) hF rfl rfl).q) (fun a w hF hW => ?_)
    refine ls_nil (c_then ?_)
    refine c_cond hF rfl (fun hb => ?_) (fun hb => ?_)
    ·
     have H := iteT (of_decide_eq_true hb) H
     rw [hb] at hF
     clear hb
     refine c_seq ?_
     refine reg_quiet hW MO (by kernel_rfl) ?_
     refine qs hF rfl ((y_fieldAddr u62_ rfl rfl rfl T3 hF rfl 0 rfl).q) (fun a hF => ?_)
     refine qs hF rfl ((y_load (v := Value.int .i64 x2.1) 0 hF rfl rfl T3 rfl).q) (fun a hF => ?_)
     refine qs hF rfl ((y_fieldAddr u62_ rfl rfl rfl T3 hF rfl 1 rfl).q) (fun a hF => ?_)
     refine qs hF rfl ((y_load (v := Value.int .i64 x2.2.1) 0 hF rfl rfl T3 rfl).q) (fun a hF => ?_)
     refine qs hF rfl ((y_move hF rfl).q) (fun a hF => ?_)
     iterate 4 refine qs hF rfl ((y_assign hF rfl).q) (fun a hF => ?_)
     refine quiet_end (fun w hW => ?_)
     refine c_then ?_
     refine wp_ret ?_
     refine r_block ?_
     iterate 2 refine r_then ?_
     refine r_block ?_
     refine r_then ?_
     have H := L2 _ H
     have H := L1 _ H
     have H := Option.some.inj H
     subst H
     refine post4 (.inl rfl) hF hW rfl (rv_tmp hF rfl) (rv_tmp hF rfl) (rv_tmp hF rfl) (rv_tmp hF rfl) ?_
     exact ⟨rfl, hW.done⟩
    ·
     have H := iteF (of_decide_eq_false hb) H
     rw [hb] at hF
     clear hb
     refine wp_skip ?_
     refine b_normal ?_
     refine c_then ?_
     refine reg_list ?_
     refine ls hF hW rfl ((y_add hF rfl rfl rfl).q) (fun a w hF hW => ?_)
     refine ls hF hW rfl ((y_move hF rfl).q) (fun a w hF hW => ?_)
     refine ls_nil (c_then ?_)
     have hW := hW.frontM (i := 2) rfl rfl
     have hW := hW.frontM (i := 2) rfl rfl
     have hW := hW.sub (M' := [(b2, [.int .i64 p1, .int .i64 p2]), (b1, [.int .i64 p0.1, v1, v2])]) (Z' := []) (List.Sublist.cons_cons _ (List.Sublist.cons_cons _ (List.nil_sublist _))) (List.Sublist.refl _)
     exact ⟨_, H, hF.re ⟨rfl, rfl, rfl, rfl, rfl, rfl, rfl, rfl, trivial⟩, hW⟩
  ·
   have H := iteF (of_decide_eq_false hb) H
   rw [hb] at hF
   clear hb
   refine wp_exit ?_
   iterate 2 refine e_then ?_
   refine e_block ?_
   refine c_then ?_
   have hW := hW.frontM (i := 1) rfl rfl
   have hW := hW.frontM (i := 1) rfl rfl
   have H := L2 _ H
   exact ⟨H, hF.re ⟨rfl, rfl, rfl, rfl, trivial⟩, hW⟩
 rintro a w ⟨hj, hF, hW⟩
 have H := K1 _ hj
 clear hj G1 K1 L1
 refine c_seq (reg_list ?_)
 iterate 4 refine ls hF hW rfl ((y_assign hF rfl).q) (fun a w hF hW => ?_)
 refine ls_nil (c_then ?_)
 refine wp_ret ?_
 have H := Option.some.inj H
 subst H
 refine post4 (.inl rfl) hF hW rfl (rv_tmp hF rfl) (rv_tmp hF rfl) (rv_tmp hF rfl) (rv_tmp hF rfl) ?_
 exact ⟨rfl, hW.done⟩

theorem H91 : Has Try.prog 91 := ⟨fun args w => run_callFunc_body Try.func91 rfl (by decide) args w⟩
noncomputable def route_Next (p0 : Int × (List (Int × Int × Int × Int × Int × Int)) × (List (Int × Int))) (p1 : List (List Int)) (p2 : Int) (p3 : Int) : Option (Int × Bool) := (if p2 < 0 then some true else (if (p1.length : Int) ≤ p2 then some true else (if p3 < 0 then some true else (ix p1 p2).bind fun x2 => some (decide ((x2.length : Int) ≤ p3))))).bind fun x1 => (if x1 = true then some (0, false) else (ix p1 p2).bind fun x3 => (ix x3 p3).bind fun x4 => (topo_Peer p0 p2 x4).bind fun x5 => some (x5.1, x5.2.2.2))
theorem route_Next_c (Y : Nat → Prop) (w0 : World) (v1 : Value) (v2 : Value) (v3 : Value) (p0 : Int × (List (Int × Int × Int × Int × Int × Int)) × (List (Int × Int))) (p1 : List (List Int)) (p2 : Int) (p3 : Int) (r : Int × Bool) (H : route_Next p0 p1 p2 p3 = some r) (h_v1 : Sl w0 (NX []) R62 v1 p0.2.1) (h_v2 : Sl w0 (NX []) R64 v2 p0.2.2) (h_v3 : Sl w0 (NX []) (Rp.slice (Rp.int .i64)) v3 p1) :
    Calls Try.prog 70 #[.agg #[.int .i64 p0.1, v1, v2], v3, .int .i64 p2, .int .i64 p3] w0 fun e w' => e = .returned (.tuple #[.int .i64 r.1, .bool r.2]) ∧ Below w0.heap.size w0 w' := by
 refine enter Try.func70 rfl Try.ntmps70 rfl (fun a hF => ?_)
 have hW := Stw.start Y w0
 obtain ⟨v4, h1, h_v3⟩ := h_v3.ex EX46
 unfold route_Next at H
 refine c_seq (reg_list ?_)
 refine l_box (cs := [.int .i64 p0.1, v1, v2]) hF hW rfl rfl rfl (fun b1 a w hF hW => ?_)
 iterate 2 refine ls hF hW rfl ((y_assign hF rfl).q) (fun a w hF hW => ?_)
 refine ls_nil (c_then ?_)
 refine c_seq ?_
 obtain ⟨o1, G1, K1⟩ := bindE H
 refine c_seqJ (fun a w => ∃ x1 : Bool, some (x1) = some o1 ∧ Fr 52 [] [(1, v3), (2, .int .i64 p2), (3, .int .i64 p3), (4, .pointer (some ⟨b1, 0, none⟩)), (8, .int .i64 0), (9, .bool false), (34, .bool x1)] a ∧ Stw ⟨Y, [], w0⟩ [(b1, [.int .i64 p0.1, v1, v2])] [] w) ?_ ?_
 ·
  have H := G1
  clear G1 K1
  refine reg_list ?_
  refine ls hF hW rfl ((y_move hF rfl).q) (fun a w hF hW => ?_)
  refine ls hF hW rfl ((y_lss hF rfl rfl).q) (fun a w hF hW => ?_)
  refine ls hF hW rfl ((y_move hF rfl).q) (fun a w hF hW => ?_)
  rcases Bool.eq_false_or_eq_true (decide (p2 < 0)) with hb | hb
  ·
   have H := iteT (of_decide_eq_true hb) H
   rw [hb] at hF
   clear hb
   iterate 4 refine lsn hF rfl rfl rfl rfl rfl rfl rfl (fun a hF => ?_)
   refine ls hF hW rfl ((y_pick_t hF rfl rfl rfl).q) (fun a w hF hW => ?_)
   refine ls hF hW rfl ((y_move hF rfl).q) (fun a w hF hW => ?_)
   iterate 2 refine lsn hF rfl rfl rfl rfl rfl rfl rfl (fun a hF => ?_)
   refine ls hF hW rfl ((y_pick_t hF rfl rfl rfl).q) (fun a w hF hW => ?_)
   refine ls hF hW rfl ((y_move hF rfl).q) (fun a w hF hW => ?_)
   iterate 7 refine lsn hF rfl rfl rfl rfl rfl rfl rfl (fun a hF => ?_)
   refine ls hF hW rfl ((y_pick_t hF rfl rfl rfl).q) (fun a w hF hW => ?_)
   refine ls_nil (c_then ?_)
   exact ⟨_, H, hF.re ⟨rfl, rfl, rfl, rfl, rfl, rfl, rfl, trivial⟩, hW⟩
  ·
   have H := iteF (of_decide_eq_false hb) H
   rw [hb] at hF
   clear hb
   iterate 2 refine ls_w hF hW (wanted_y hF rfl rfl rfl rfl) rfl (Nat.le_of_ble_eq_true rfl) ((y_move hF rfl).q) (fun a w hF hW => ?_)
   refine ls_w hF hW (wanted_y hF rfl rfl rfl rfl) rfl (Nat.le_of_ble_eq_true rfl) ((y_len (r := (Rp.slice (Rp.int .i64))) (l := p1) u27_ rfl hF rfl (rdc_hide EX46 h1 (rdc_ro h_v3))).q) (fun a w hF hW => ?_)
   refine ls_w hF hW (wanted_y hF rfl rfl rfl rfl) rfl (Nat.le_of_ble_eq_true rfl) ((y_geq hF rfl rfl).q) (fun a w hF hW => ?_)
   refine ls hF hW rfl ((y_pick_f hF rfl rfl rfl).q) (fun a w hF hW => ?_)
   refine ls hF hW rfl ((y_move hF rfl).q) (fun a w hF hW => ?_)
   rcases Bool.eq_false_or_eq_true (decide ((p1.length : Int) ≤ p2)) with hb | hb
   ·
    have H := iteT (of_decide_eq_true hb) H
    rw [hb] at hF
    clear hb
    iterate 2 refine lsn hF rfl rfl rfl rfl rfl rfl rfl (fun a hF => ?_)
    refine ls hF hW rfl ((y_pick_t hF rfl rfl rfl).q) (fun a w hF hW => ?_)
    refine ls hF hW rfl ((y_move hF rfl).q) (fun a w hF hW => ?_)
    iterate 7 refine lsn hF rfl rfl rfl rfl rfl rfl rfl (fun a hF => ?_)
    refine ls hF hW rfl ((y_pick_t hF rfl rfl rfl).q) (fun a w hF hW => ?_)
    refine ls_nil (c_then ?_)
    exact ⟨_, H, hF.re ⟨rfl, rfl, rfl, rfl, rfl, rfl, rfl, trivial⟩, hW⟩
   ·
    have H := iteF (of_decide_eq_false hb) H
    rw [hb] at hF
    clear hb
    refine ls_w hF hW (wanted_y hF rfl rfl rfl rfl) rfl (Nat.le_of_ble_eq_true rfl) ((y_move hF rfl).q) (fun a w hF hW => ?_)
    refine ls_w hF hW (wanted_y hF rfl rfl rfl rfl) rfl (Nat.le_of_ble_eq_true rfl) ((y_lss hF rfl rfl).q) (fun a w hF hW => ?_)
    refine ls hF hW rfl ((y_pick_f hF rfl rfl rfl).q) (fun a w hF hW => ?_)
    refine ls hF hW rfl ((y_move hF rfl).q) (fun a w hF hW => ?_)
    rcases Bool.eq_false_or_eq_true (decide (p3 < 0)) with hb | hb
    ·
     have H := iteT (of_decide_eq_true hb) H
     rw [hb] at hF
     clear hb
     iterate 7 refine lsn hF rfl rfl rfl rfl rfl rfl rfl (fun a hF => ?_)
     refine ls hF hW rfl ((y_pick_t hF rfl rfl rfl).q) (fun a w hF hW => ?_)
     refine ls_nil (c_then ?_)
     exact ⟨_, H, hF.re ⟨rfl, rfl, rfl, rfl, rfl, rfl, rfl, trivial⟩, hW⟩
    ·
     have H := iteF (of_decide_eq_false hb) H
     rw [hb] at hF
     clear hb
     iterate 3 refine ls_w hF hW (wanted_y hF rfl rfl rfl rfl) rfl (Nat.le_of_ble_eq_true rfl) ((y_move hF rfl).q) (fun a w hF hW => ?_)
     obtain ⟨x2, h2, H⟩ := bindE H
     obtain ⟨v5, h3, h4⟩ := ix_ex h1 h2
     have h5 : EE46 v5 = [(v5.1)] := congrArg (fun q : List Int => ([(v5.1)] : List Value)) h4
     refine ls_w hF hW (wanted_y hF rfl rfl rfl rfl) rfl (Nat.le_of_ble_eq_true rfl) ((y_index (r := (Rp.vsl (Rp.int .i64))) L27 hF rfl rfl (rdc_ro h_v3) h3).q) (fun a w hF hW => ?_)
     refine ls_w hF hW (wanted_y hF rfl rfl rfl rfl) rfl (Nat.le_of_ble_eq_true rfl) ((y_load_el (y := (v5.1)) (j := 0) (i := p2) (enc := EE46) hF rfl rfl (rdc_ro h_v3) h3 FE46 T46 (by rw [h5]; rfl)).q) (fun a w hF hW => ?_)
     refine ls_w hF hW (wanted_y hF rfl rfl rfl rfl) rfl (Nat.le_of_ble_eq_true rfl) ((y_len (r := (Rp.int .i64)) (l := x2) u46_ rfl hF rfl (rdc_at (rdc_ro h_v3) h3 Path.here (congrArg (fun q : List Int => q) h4))).q) (fun a w hF hW => ?_)
     refine ls_w hF hW (wanted_y hF rfl rfl rfl rfl) rfl (Nat.le_of_ble_eq_true rfl) ((y_geq hF rfl rfl).q) (fun a w hF hW => ?_)
     refine ls hF hW rfl ((y_pick_f hF rfl rfl rfl).q) (fun a w hF hW => ?_)
     refine ls_nil (c_then ?_)
     exact ⟨_, H, hF.re ⟨rfl, rfl, rfl, rfl, rfl, rfl, rfl, trivial⟩, hW⟩
 rintro a w ⟨x1, hj, hF, hW⟩
 have hj := Option.some.inj hj
 subst hj
 have H := K1
 clear G1 K1
 refine c_cond hF rfl (fun hb => ?_) (fun hb => ?_)
 ·
  have H := iteT hb H
  rw [hb] at hF
  clear hb
  refine c_seq (reg_list ?_)
  iterate 2 refine ls hF hW rfl ((y_assign hF rfl).q) (fun a w hF hW => ?_)
  refine ls_nil (c_then ?_)
  refine wp_ret ?_
  refine r_then ?_
  have H := Option.some.inj H
  subst H
  refine post2 (.inl rfl) hF hW rfl (rv_tmp hF rfl) (rv_tmp hF rfl) ?_
  exact ⟨rfl, hW.done⟩
 ·
  have H := iteF (by rw [hb]; decide) H
  rw [hb] at hF
  clear hb
  refine wp_skip ?_
  refine c_then ?_
  refine c_seq ?_
  refine reg_quiet hW MO (by kernel_rfl) ?_
  refine qs hF rfl ((y_load (v := Value.agg #[.int .i64 p0.1, v1, v2]) 0 hF rfl rfl T25 rfl).q) (fun a hF => ?_)
  iterate 3 refine qs hF rfl ((y_move hF rfl).q) (fun a hF => ?_)
  obtain ⟨x3, h6, H⟩ := bindE H
  obtain ⟨v6, h7, h8⟩ := ix_ex h1 h6
  have h9 : EE46 v6 = [(v6.1)] := congrArg (fun q : List Int => ([(v6.1)] : List Value)) h8
  refine qs hF rfl ((y_index (r := (Rp.vsl (Rp.int .i64))) L27 hF rfl rfl (rdc_ro h_v3) h7).q) (fun a hF => ?_)
  refine qs hF rfl ((y_load_el (y := (v6.1)) (j := 0) (i := p2) (enc := EE46) hF rfl rfl (rdc_ro h_v3) h7 FE46 T46 (by rw [h9]; rfl)).q) (fun a hF => ?_)
  refine qs hF rfl ((y_move hF rfl).q) (fun a hF => ?_)
  obtain ⟨x4, h10, H⟩ := bindE H
  refine qs hF rfl ((y_index (r := (Rp.int .i64)) L46 hF rfl rfl (rdc_at (rdc_ro h_v3) h7 Path.here (congrArg (fun q : List Int => q) h8)) h10).q) (fun a hF => ?_)
  refine qs hF rfl ((y_load_el (y := Value.int .i64 x4) (j := 0) (i := p3) hF rfl rfl (rdc_at (rdc_ro h_v3) h7 Path.here (congrArg (fun q : List Int => q) h8)) h10 Fl.int.to T3 rfl).q) (fun a hF => ?_)
  obtain ⟨x5, h11, H⟩ := bindE H
  refine qs hF rfl (y_call (v := Value.tuple #[.int .i64 x5.1, .int .i64 x5.2.1, .int .i64 x5.2.2.1, .bool x5.2.2.2]) hF H91 rfl (fun w hW => topo_Peer_c any w (v1) (v2) p0 p2 x4 _ h11 (((rdc_ro h_v1) : Rdc _ _ _ _ _ _) w hW).nx (((rdc_ro h_v2) : Rdc _ _ _ _ _ _) w hW).nx)) (fun a hF => ?_)
  refine qs hF rfl ((y_move hF rfl).q) (fun a hF => ?_)
  refine qs hF rfl ((y_extract (v := Value.int .i64 x5.1) hF rfl rfl).q) (fun a hF => ?_)
  refine qs hF rfl ((y_extract (v := Value.int .i64 x5.2.1) hF rfl rfl).q) (fun a hF => ?_)
  refine qs hF rfl ((y_extract (v := Value.int .i64 x5.2.2.1) hF rfl rfl).q) (fun a hF => ?_)
  refine qs hF rfl ((y_extract (v := Value.bool x5.2.2.2) hF rfl rfl).q) (fun a hF => ?_)
  iterate 4 refine qs hF rfl ((y_assign hF rfl).q) (fun a hF => ?_)
  refine quiet_end (fun w hW => ?_)
  refine c_then ?_
  refine c_seq (reg_list ?_)
  iterate 2 refine ls hF hW rfl ((y_move hF rfl).q) (fun a w hF hW => ?_)
  iterate 2 refine ls hF hW rfl ((y_assign hF rfl).q) (fun a w hF hW => ?_)
  refine ls_nil (c_then ?_)
  refine wp_ret ?_
  have H := Option.some.inj H
  subst H
  refine post2 (.inl rfl) hF hW rfl (rv_tmp hF rfl) (rv_tmp hF rfl) ?_
  exact ⟨rfl, hW.done⟩

theorem H70 : Has Try.prog 70 := ⟨fun args w => run_callFunc_body Try.func70 rfl (by decide) args w⟩
noncomputable def route_contains_int_l1 (p0 : List Int) (p1 : Int) : Int → Option (Int ⊕ (Unit ⊕ Bool))
  | x1 => (if x1 < (p0.length : Int) then (ix p0 x1).bind fun x2 => (if p1 = x2 then some (.inr (.inr true)) else some (.inl (w64 (x1 + 1)))) else some (.inr (.inl ())))
noncomputable def route_contains_int (p0 : List Int) (p1 : Int) : Option Bool := orR (loopW (route_contains_int_l1 p0 p1) 0) fun _ => some false
theorem route_contains_int_c (Y : Nat → Prop) (w0 : World) (v1 : Value) (p0 : List Int) (p1 : Int) (r : Bool) (H : route_contains_int p0 p1 = some r) (h_v1 : Sl w0 (NX []) (Rp.int .i64) v1 p0) :
    Calls Try.prog 71 #[v1, .int .i64 p1] w0 fun e w' => e = .returned (.bool r) ∧ Below w0.heap.size w0 w' := by
 refine enter Try.func71 rfl Try.ntmps71 rfl (fun a hF => ?_)
 have hW := Stw.start Y w0
 unfold route_contains_int at H
 refine c_seq (reg_list ?_)
 refine ls hF hW rfl ((y_assign hF rfl).q) (fun a w hF hW => ?_)
 refine ls_nil (c_then ?_)
 obtain ⟨o1, G1, K1, L1⟩ := orE H
 refine c_seqJ (fun a w => some (Sum.inl ()) = some o1 ∧ Fr 17 [] [(4, .bool false)] a ∧ Stw ⟨Y, [], w0⟩ [] [] w) ?_ ?_
 ·
  have H := G1
  clear G1 K1
  refine c_seq (reg_list ?_)
  refine ls hF hW rfl ((y_move hF rfl).q) (fun a w hF hW => ?_)
  refine ls hF hW rfl ((y_len (r := (Rp.int .i64)) (l := p0) u46_ rfl hF rfl (rdc_ro h_v1)).q) (fun a w hF hW => ?_)
  refine ls hF hW rfl ((y_move hF rfl).q) (fun a w hF hW => ?_)
  refine ls_nil (c_then ?_)
  refine wp_block ?_
  refine c_loopW H (fun s a w => Fr 17 [] [(1, .int .i64 p1), (4, .bool false), (7, v1), (8, .int .i64 (p0.length : Int)), (9, .int .i64 s)] a ∧ Stw ⟨Y, [], w0⟩ [] [] w) ⟨hF.re ⟨rfl, rfl, rfl, rfl, rfl, trivial⟩, hW⟩ (fun s o a w H L2 hR => ?_)
  obtain ⟨x1, rfl⟩ : ∃ x, x = s := ⟨s, rfl⟩
  obtain ⟨hF, hW⟩ := hR
  have hF : Fr 17 [] [(1, .int .i64 p1), (4, .bool false), (7, v1), (8, .int .i64 (p0.length : Int)), (9, .int .i64 x1)] a := hF
  have hW : Stw ⟨Y, [], w0⟩ [] [] w := hW
  rw [route_contains_int_l1] at H
  refine c_seq (reg_list ?_)
  refine ls hF hW rfl ((y_lss hF rfl rfl).q) (fun a w hF hW => ?_)
  refine ls_nil (c_then ?_)
  refine c_seq ?_
  refine c_cond hF rfl (fun hb => ?_) (fun hb => ?_)
  ·
   have H := iteT (of_decide_eq_true hb) H
   rw [hb] at hF
   clear hb
   refine wp_skip ?_
   refine c_then ?_
   refine c_seq ?_
   refine wp_block ?_
   refine c_seq (reg_list ?_)
   obtain ⟨x2, h1, H⟩ := bindE H
   refine ls hF hW rfl ((y_index (r := (Rp.int .i64)) L46 hF rfl rfl (rdc_ro h_v1) h1).q) (fun a w hF hW => ?_)
   refine ls hF hW rfl ((y_load_el (y := Value.int .i64 x2) (j := 0) (i := x1) hF rfl rfl (rdc_ro h_v1) h1 Fl.int.to T3 rfl).q) (fun a w hF hW => ?_)
   refine ls hF hW rfl ((y_assign hF rfl).q) (fun a w hF hW => ?_)
   refine ls_nil (c_then ?_)
   refine c_seq (reg_list ?_)
   iterate 2 refine ls hF hW rfl ((y_move hF rfl).q) (fun a w hF hW => ?_)
   refine ls hF hW rfl ((y_eql hF rfl rfl).q) (fun a w hF hW => ?_)
   refine ls_nil (c_then ?_)
   refine c_cond hF rfl (fun hb => ?_) (fun hb => ?_)
   ·
    have H := iteT (of_decide_eq_true hb) H
    rw [hb] at hF
    clear hb
    refine c_seq (reg_list ?_)
    refine ls hF hW rfl ((y_assign hF rfl).q) (fun a w hF hW => ?_)
    refine ls_nil (c_then ?_)
    refine wp_ret ?_
    refine r_block ?_
    iterate 2 refine r_then ?_
    refine r_block ?_
    refine r_then ?_
    have H := L2 _ H
    have H := L1 _ H
    have H := Option.some.inj H
    subst H
    refine post1 (.inl rfl) hF hW rfl (rv_tmp hF rfl) ?_
    exact ⟨rfl, hW.done⟩
   ·
    have H := iteF (of_decide_eq_false hb) H
    rw [hb] at hF
    clear hb
    refine wp_skip ?_
    refine b_normal ?_
    refine c_then ?_
    refine reg_list ?_
    refine ls hF hW rfl ((y_add hF rfl rfl rfl).q) (fun a w hF hW => ?_)
    refine ls hF hW rfl ((y_move hF rfl).q) (fun a w hF hW => ?_)
    refine ls_nil (c_then ?_)
    exact ⟨_, H, hF.re ⟨rfl, rfl, rfl, rfl, rfl, trivial⟩, hW⟩
  ·
   have H := iteF (of_decide_eq_false hb) H
   rw [hb] at hF
   clear hb
   refine wp_exit ?_
   iterate 2 refine e_then ?_
   refine e_block ?_
   refine c_then ?_
   have H := L2 _ H
   exact ⟨H, hF.re ⟨rfl, trivial⟩, hW⟩
 rintro a w ⟨hj, hF, hW⟩
 have H := K1 _ hj
 clear hj G1 K1 L1
 refine c_seq (reg_list ?_)
 refine ls hF hW rfl ((y_assign hF rfl).q) (fun a w hF hW => ?_)
 refine ls_nil (c_then ?_)
 refine wp_ret ?_
 have H := Option.some.inj H
 subst H
 refine post1 (.inl rfl) hF hW rfl (rv_tmp hF rfl) ?_
 exact ⟨rfl, hW.done⟩

end Go.Proofs.Ytjcaadbafjgefaa
