/- The functions of layer 12, EV. Conditions: none. -/
import Derived.Test.YtfnmlmglmegamaacA4
namespace Go.Proofs.Ytfnmlmglmegamaa
open Go Go.RowKit
set_option linter.unusedVariables false
set_option linter.unusedSimpArgs false
set_option maxRecDepth 20000
abbrev LG (a0 : Int × (Int × (Int × (Int × Int × Int × Int) × (Int × Int × Int × Int)) × (List (Int × Int × Int))) × Bool) (a1 : Value) : List Value := [.int .i64 ((Ae a0.2.1).1), .int .i64 ((Ae a0.2.1).2.1.1), .int .i64 ((Ae a0.2.1).2.1.2.1.1), .int .i64 ((Ae a0.2.1).2.1.2.1.2.1), .int .i64 ((Ae a0.2.1).2.1.2.1.2.2.1), .int .i64 ((Ae a0.2.1).2.1.2.1.2.2.2), .int .i64 ((Ae a0.2.1).2.1.2.2.1), .int .i64 ((Ae a0.2.1).2.1.2.2.2.1), .int .i64 ((Ae a0.2.1).2.1.2.2.2.2.1), .int .i64 ((Ae a0.2.1).2.1.2.2.2.2.2), a1]
abbrev GC (a0 : Int × (Int × (Int × (Int × Int × Int × Int) × (Int × Int × Int × Int)) × (List (Int × Int × Int))) × Bool) (a1 : Value) : List Value := [.int .i64 ((Ab a0.2.1).1), .int .i64 ((Ab a0.2.1).2.1.1), .int .i64 ((Ab a0.2.1).2.1.2.1.1), .int .i64 ((Ab a0.2.1).2.1.2.1.2.1), .int .i64 ((Ab a0.2.1).2.1.2.1.2.2.1), .int .i64 ((Ab a0.2.1).2.1.2.1.2.2.2), .int .i64 ((Ab a0.2.1).2.1.2.2.1), .int .i64 ((Ab a0.2.1).2.1.2.2.2.1), .int .i64 ((Ab a0.2.1).2.1.2.2.2.2.1), .int .i64 ((Ab a0.2.1).2.1.2.2.2.2.2), a1]
noncomputable def Er (p0 : List (Int × (Int × (Int × Int × Int × Int) × (Int × Int × Int × Int)) × (List (Int × Int × Int)))) (p1 : Int × (Int × (Int × (Int × Int × Int × Int) × (Int × Int × Int × Int)) × (List (Int × Int × Int))) × Bool) (p2 : Int) (p3 : Int) : Option ((List (Int × (Int × (Int × Int × Int × Int) × (Int × Int × Int × Int)) × (List (Int × Int × Int)))) × Int) := (C0 p0).bind fun x1 => (EU p1.2.1 p2).bind fun x2 => (if (!x2) = true then some (x1, 2) else (if p1.1 = 1 then (Qi x1.length (((p0.length : Int)).toNat)).bind fun x3 => (Fw x1 p1 p3).bind fun x4 => some (x4.1, x4.2) else (if p1.1 = 2 then (CE x1 p1.2.1 ((Ae p1.2.1).1, ((Ae p1.2.1).2.1.1, ((Ae p1.2.1).2.1.2.1.1, (Ae p1.2.1).2.1.2.1.2.1, (Ae p1.2.1).2.1.2.1.2.2.1, (Ae p1.2.1).2.1.2.1.2.2.2), ((Ae p1.2.1).2.1.2.2.1, (Ae p1.2.1).2.1.2.2.2.1, (Ae p1.2.1).2.1.2.2.2.2.1, (Ae p1.2.1).2.1.2.2.2.2.2)), (Ae p1.2.1).2.2)).bind fun x5 => some (x5, 0) else (if p1.1 = 3 then (Ao x1 ((Ab p1.2.1).1, ((Ab p1.2.1).2.1.1, ((Ab p1.2.1).2.1.2.1.1, (Ab p1.2.1).2.1.2.1.2.1, (Ab p1.2.1).2.1.2.1.2.2.1, (Ab p1.2.1).2.1.2.1.2.2.2), ((Ab p1.2.1).2.1.2.2.1, (Ab p1.2.1).2.1.2.2.2.1, (Ab p1.2.1).2.1.2.2.2.2.1, (Ab p1.2.1).2.1.2.2.2.2.2)), (Ab p1.2.1).2.2)).bind fun x6 => (if (!x6) = true then some (x1, 7) else (Cu x1 p1.2.1 ((Ab p1.2.1).1, ((Ab p1.2.1).2.1.1, ((Ab p1.2.1).2.1.2.1.1, (Ab p1.2.1).2.1.2.1.2.1, (Ab p1.2.1).2.1.2.1.2.2.1, (Ab p1.2.1).2.1.2.1.2.2.2), ((Ab p1.2.1).2.1.2.2.1, (Ab p1.2.1).2.1.2.2.2.1, (Ab p1.2.1).2.1.2.2.2.2.1, (Ab p1.2.1).2.1.2.2.2.2.2)), (Ab p1.2.1).2.2)).bind fun x7 => some (x7, 0)) else (if p1.1 = 4 then (AX x1 ((Ae p1.2.1).1, ((Ae p1.2.1).2.1.1, ((Ae p1.2.1).2.1.2.1.1, (Ae p1.2.1).2.1.2.1.2.1, (Ae p1.2.1).2.1.2.1.2.2.1, (Ae p1.2.1).2.1.2.1.2.2.2), ((Ae p1.2.1).2.1.2.2.1, (Ae p1.2.1).2.1.2.2.2.1, (Ae p1.2.1).2.1.2.2.2.2.1, (Ae p1.2.1).2.1.2.2.2.2.2)), (Ae p1.2.1).2.2)).bind fun x8 => some (x8, 0) else (if p1.1 = 5 then (Ao x1 ((Ab p1.2.1).1, ((Ab p1.2.1).2.1.1, ((Ab p1.2.1).2.1.2.1.1, (Ab p1.2.1).2.1.2.1.2.1, (Ab p1.2.1).2.1.2.1.2.2.1, (Ab p1.2.1).2.1.2.1.2.2.2), ((Ab p1.2.1).2.1.2.2.1, (Ab p1.2.1).2.1.2.2.2.1, (Ab p1.2.1).2.1.2.2.2.2.1, (Ab p1.2.1).2.1.2.2.2.2.2)), (Ab p1.2.1).2.2)).bind fun x9 => (if (!x9) = true then some (x1, 7) else (AN x1 ((Ab p1.2.1).1, ((Ab p1.2.1).2.1.1, ((Ab p1.2.1).2.1.2.1.1, (Ab p1.2.1).2.1.2.1.2.1, (Ab p1.2.1).2.1.2.1.2.2.1, (Ab p1.2.1).2.1.2.1.2.2.2), ((Ab p1.2.1).2.1.2.2.1, (Ab p1.2.1).2.1.2.2.2.1, (Ab p1.2.1).2.1.2.2.2.2.1, (Ab p1.2.1).2.1.2.2.2.2.2)), (Ab p1.2.1).2.2)).bind fun x10 => some (x10, 0)) else some (x1, 2)))))))
theorem IR (Y : Nat → Prop) (w0 : World) (v1 : Value) (v2 : Value) (p0 : List (Int × (Int × (Int × Int × Int × Int) × (Int × Int × Int × Int)) × (List (Int × Int × Int)))) (p1 : Int × (Int × (Int × (Int × Int × Int × Int) × (Int × Int × Int × Int)) × (List (Int × Int × Int))) × Bool) (p2 : Int) (p3 : Int) (r : (List (Int × (Int × (Int × Int × Int × Int) × (Int × Int × Int × Int)) × (List (Int × Int × Int)))) × Int) (H : Er p0 p1 p2 p3 = some r) (s_v1 : Sl w0 Y A5 v1 p0) (s_v2 : Sl w0 Y Bl v2 p1.2.1.2.2) :
    Calls Try.prog 37 #[v1, .agg #[.int .i64 p1.1, .int .i64 p1.2.1.1, .int .i64 p1.2.1.2.1.1, .int .i64 p1.2.1.2.1.2.1.1, .int .i64 p1.2.1.2.1.2.1.2.1, .int .i64 p1.2.1.2.1.2.1.2.2.1, .int .i64 p1.2.1.2.1.2.1.2.2.2, .int .i64 p1.2.1.2.1.2.2.1, .int .i64 p1.2.1.2.1.2.2.2.1, .int .i64 p1.2.1.2.1.2.2.2.2.1, .int .i64 p1.2.1.2.1.2.2.2.2.2, v2, .bool p1.2.2], .int .i64 p2, .int .i64 p3] w0 fun e w' => ∃ x : Value, e = .returned (.tuple #[x, .int .i64 r.2]) ∧ Stw ⟨Y, [], w0⟩ [] [BD (x) A5 r.1] w' := by
 refine enter Try.func37 Aa Try.ntmps37 Aa fun a W => ?_
 have F := Stw.start Y w0
 obtain ⟨v3, h1, s_v1⟩ := s_v1.ex BH
 have h_v1 := F.nx s_v1
 have h_v2 := F.nx s_v2
 unfold Er at H
 refine vc tk 2 W F fun a w W F => ?_
 refine B1 (cs := [.int .i64 p1.1, .int .i64 p1.2.1.1, .int .i64 p1.2.1.2.1.1, .int .i64 p1.2.1.2.1.2.1.1, .int .i64 p1.2.1.2.1.2.1.2.1, .int .i64 p1.2.1.2.1.2.1.2.2.1, .int .i64 p1.2.1.2.1.2.1.2.2.2, .int .i64 p1.2.1.2.1.2.2.1, .int .i64 p1.2.1.2.1.2.2.2.1, .int .i64 p1.2.1.2.1.2.2.2.2.1, .int .i64 p1.2.1.2.1.2.2.2.2.2, v2, .bool p1.2.2]) W F Aa Aa Aa fun b1 a w W F => ?_
 refine BV tk 7 W F fun a w W F => ?_
 obtain ⟨x1, h2, H⟩ := Ah H
 refine AB (Ml := []) (Zl := []) (β := {x : Value // HP x (((p0.length : Int)).toNat)}) (rv := fun x => x.1) (MM := fun x => []) (ZZ := fun x => [row x.1 37 A5 x1]) W F QY Aa Aa (fun hL => EQ _ w (v1) p0 _ h2 (Sl.hide BH h1 (F.old s_v1))) fun x a w W F => ?_
 obtain ⟨v4, rfl⟩ : ∃ y, y = x := ⟨x, rfl⟩
 have F : Stw ⟨Y, [], w0⟩ [(b1, [.int .i64 p1.1, .int .i64 p1.2.1.1, .int .i64 p1.2.1.2.1.1, .int .i64 p1.2.1.2.1.2.1.1, .int .i64 p1.2.1.2.1.2.1.2.1, .int .i64 p1.2.1.2.1.2.1.2.2.1, .int .i64 p1.2.1.2.1.2.1.2.2.2, .int .i64 p1.2.1.2.1.2.2.1, .int .i64 p1.2.1.2.1.2.2.2.1, .int .i64 p1.2.1.2.1.2.2.2.2.1, .int .i64 p1.2.1.2.1.2.2.2.2.2, v2, .bool p1.2.2])] [row v4.1 37 A5 x1] w := F
 refine EY tk 9 [0] W F (ai fun a w W F => ?_)
 obtain ⟨x2, h3, H⟩ := Ah H
 refine ls W F Aa (AU (v := Value.bool x2) W RY Aa (fun w F => JO any w (v2) p1.2.1 p2 _ h3 (CY (Aj h_v2) F))) fun a w W F => ?_
 refine BV tk 3 W F fun a w W F => ?_
 refine B8 W Aa H (fun W H => ?_) fun W H => ?_
 ·
  refine vc tk 7 W F fun a w W F => ?_
  refine Al (Ap ?_)
  have H := Aw H
  subst H
  refine DN (.inl Aa) W F Aa (Ak W Aa) (Ak W Aa) ?_
  have F := F.freeze
  have F := F.sub (M' := []) (Z' := [BD v4.1 A5 x1]) (List.nil_sublist _) (List.Sublist.refl _)
  exact ⟨(v4.1), Aa, F⟩
 refine NF tk 16 [0] W F (ai fun a w W F => ?_)
 refine Dm W Aa (fun hb => ?_) fun hb => ?_
 ·
  have H := BW (Ci hb) H
  rw [hb] at W
  clear hb
  refine Gh tk 5 [0] W F (ai fun a w W F => ?_)
  obtain ⟨x3, h4, H⟩ := Ah H
  obtain ⟨x4, h5, H⟩ := Ah H
  refine AB (Ml := []) (Zl := [row v4.1 37 A5 x1]) (β := Value) (rv := fun x => .tuple #[x, .int .i64 x4.2]) (MM := fun x => []) (ZZ := fun x => [BD x A5 x4.1]) W F RE Aa Aa (fun hL => KB _ _ w (v4.1) (v2) x1 p1 p3 _ h5 (NK h4 v4.2) (F.old s_v2) hL) fun x a w W F => ?_
  obtain ⟨v5, rfl⟩ : ∃ y, y = x := ⟨x, rfl⟩
  have F : Stw ⟨Y, [], w0⟩ [(b1, [.int .i64 p1.1, .int .i64 p1.2.1.1, .int .i64 p1.2.1.2.1.1, .int .i64 p1.2.1.2.1.2.1.1, .int .i64 p1.2.1.2.1.2.1.2.1, .int .i64 p1.2.1.2.1.2.1.2.2.1, .int .i64 p1.2.1.2.1.2.1.2.2.2, .int .i64 p1.2.1.2.1.2.2.1, .int .i64 p1.2.1.2.1.2.2.2.1, .int .i64 p1.2.1.2.1.2.2.2.2.1, .int .i64 p1.2.1.2.1.2.2.2.2.2, v2, .bool p1.2.2])] [BD v5 A5 x4.1] w := F
  refine ls W F Aa (BE (v := v5) W Aa Aa).q fun a w W F => ?_
  refine ls W F Aa (BE (v := Value.int .i64 x4.2) W Aa Aa).q fun a w W F => ?_
  refine BV tk 4 W F fun a w W F => ?_
  refine Al (Az (Ap ?_))
  have H := Aw H
  subst H
  refine DN (.inl Aa) W F Aa (Ak W Aa) (Ak W Aa) ?_
  have F := F.sub (M' := []) (Z' := [BD v5 A5 x4.1]) (List.nil_sublist _) (List.Sublist.refl _)
  exact ⟨(v5), Aa, F⟩
 have H := BX (Ch hb) H
 rw [hb] at W
 clear hb
 refine vc tk 6 W F fun a w W F => ?_
 refine Dm W Aa (fun hb => ?_) fun hb => ?_
 ·
  have H := BW (Ci hb) H
  rw [hb] at W
  clear hb
  refine HJ ?_
  refine ER [(true, 0), (true, 1), (true, 2), (true, 3), (true, 4), (false, 5), (false, 6), (false, 7), (false, 8)] (CN ⟨Y, [], w0⟩ [(some 6, b1, [.int .i64 p1.1, .int .i64 p1.2.1.1, .int .i64 p1.2.1.2.1.1, .int .i64 p1.2.1.2.1.2.1.1, .int .i64 p1.2.1.2.1.2.1.2.1, .int .i64 p1.2.1.2.1.2.1.2.2.1, .int .i64 p1.2.1.2.1.2.1.2.2.2, .int .i64 p1.2.1.2.1.2.2.1, .int .i64 p1.2.1.2.1.2.2.2.1, .int .i64 p1.2.1.2.1.2.2.2.2.1, .int .i64 p1.2.1.2.1.2.2.2.2.2, v2, .bool p1.2.2]), (some 5, b1, [.int .i64 p1.1, .int .i64 p1.2.1.1, .int .i64 p1.2.1.2.1.1, .int .i64 p1.2.1.2.1.2.1.1, .int .i64 p1.2.1.2.1.2.1.2.1, .int .i64 p1.2.1.2.1.2.1.2.2.1, .int .i64 p1.2.1.2.1.2.1.2.2.2, .int .i64 p1.2.1.2.1.2.2.1, .int .i64 p1.2.1.2.1.2.2.2.1, .int .i64 p1.2.1.2.1.2.2.2.2.1, .int .i64 p1.2.1.2.1.2.2.2.2.2, v2, .bool p1.2.2])] []) (fun ch a d v w h => by cases d <;> exact h) MO (by kernel_rfl) F (fun w F => ⟨_, _, F, (all_cons (fun _ => (.head _)) (all_cons (fun _ => (.head _)) As)), As⟩) fun w F => ?_
  refine CZ (R := []) W Aa Aa (yC fun M Z hN hZ => Am W Aa) Aa Aa fun a W => ?_
  refine CZ (R := []) W Aa Aa (yC fun M Z hN hZ => An KQ Aa Aa Aa Fk W Aa 1 Aa) Aa Aa fun a W => ?_
  refine CZ (R := [6]) W Aa Aa (yC fun M Z hN hZ => DC (cs := [.int .i64 p1.1, .int .i64 p1.2.1.1, .int .i64 p1.2.1.2.1.1, .int .i64 p1.2.1.2.1.2.1.1, .int .i64 p1.2.1.2.1.2.1.2.1, .int .i64 p1.2.1.2.1.2.1.2.2.1, .int .i64 p1.2.1.2.1.2.1.2.2.2, .int .i64 p1.2.1.2.1.2.2.1, .int .i64 p1.2.1.2.1.2.2.2.1, .int .i64 p1.2.1.2.1.2.2.2.2.1, .int .i64 p1.2.1.2.1.2.2.2.2.2, v2, .bool p1.2.2]) (v := Value.agg #[.int .i64 p1.2.1.1, .int .i64 p1.2.1.2.1.1, .int .i64 p1.2.1.2.1.2.1.1, .int .i64 p1.2.1.2.1.2.1.2.1, .int .i64 p1.2.1.2.1.2.1.2.2.1, .int .i64 p1.2.1.2.1.2.1.2.2.2, .int .i64 p1.2.1.2.1.2.2.1, .int .i64 p1.2.1.2.1.2.2.2.1, .int .i64 p1.2.1.2.1.2.2.2.2.1, .int .i64 p1.2.1.2.1.2.2.2.2.2, v2]) W Aa (hN ((some 6), b1, [.int .i64 p1.1, .int .i64 p1.2.1.1, .int .i64 p1.2.1.2.1.1, .int .i64 p1.2.1.2.1.2.1.1, .int .i64 p1.2.1.2.1.2.1.2.1, .int .i64 p1.2.1.2.1.2.1.2.2.1, .int .i64 p1.2.1.2.1.2.1.2.2.2, .int .i64 p1.2.1.2.1.2.2.1, .int .i64 p1.2.1.2.1.2.2.2.1, .int .i64 p1.2.1.2.1.2.2.2.2.1, .int .i64 p1.2.1.2.1.2.2.2.2.2, v2, .bool p1.2.2]) (.head _) Aa) Fk Aa) (by kernel_rfl) Aa fun a W => ?_
  refine CZ (R := []) W Aa Aa (yC fun M Z hN hZ => An KQ Aa Aa Aa Fk W Aa 1 Aa) Aa Aa fun a W => ?_
  refine CZ (R := [5]) W Aa Aa (yC fun M Z hN hZ => DC (cs := [.int .i64 p1.1, .int .i64 p1.2.1.1, .int .i64 p1.2.1.2.1.1, .int .i64 p1.2.1.2.1.2.1.1, .int .i64 p1.2.1.2.1.2.1.2.1, .int .i64 p1.2.1.2.1.2.1.2.2.1, .int .i64 p1.2.1.2.1.2.1.2.2.2, .int .i64 p1.2.1.2.1.2.2.1, .int .i64 p1.2.1.2.1.2.2.2.1, .int .i64 p1.2.1.2.1.2.2.2.2.1, .int .i64 p1.2.1.2.1.2.2.2.2.2, v2, .bool p1.2.2]) (v := Value.agg #[.int .i64 p1.2.1.1, .int .i64 p1.2.1.2.1.1, .int .i64 p1.2.1.2.1.2.1.1, .int .i64 p1.2.1.2.1.2.1.2.1, .int .i64 p1.2.1.2.1.2.1.2.2.1, .int .i64 p1.2.1.2.1.2.1.2.2.2, .int .i64 p1.2.1.2.1.2.2.1, .int .i64 p1.2.1.2.1.2.2.2.1, .int .i64 p1.2.1.2.1.2.2.2.2.1, .int .i64 p1.2.1.2.1.2.2.2.2.2, v2]) W Aa (hN ((some 5), b1, [.int .i64 p1.1, .int .i64 p1.2.1.1, .int .i64 p1.2.1.2.1.1, .int .i64 p1.2.1.2.1.2.1.1, .int .i64 p1.2.1.2.1.2.1.2.1, .int .i64 p1.2.1.2.1.2.1.2.2.1, .int .i64 p1.2.1.2.1.2.1.2.2.2, .int .i64 p1.2.1.2.1.2.2.1, .int .i64 p1.2.1.2.1.2.2.2.1, .int .i64 p1.2.1.2.1.2.2.2.2.1, .int .i64 p1.2.1.2.1.2.2.2.2.2, v2, .bool p1.2.2]) (.tail _ (.head _)) Aa) Fk Aa) (by kernel_rfl) Aa fun a W => ?_
  refine En Aa ?_
  refine AB (Ml := []) (Zl := []) (β := Nat × Value) (rv := fun x => .func (.func 71) #[] #[.pointer (some ⟨x.1, 0, none⟩)]) (MM := fun x => [(x.1, [.int .i64 ((Ae p1.2.1).1), .int .i64 ((Ae p1.2.1).2.1.1), .int .i64 ((Ae p1.2.1).2.1.2.1.1), .int .i64 ((Ae p1.2.1).2.1.2.1.2.1), .int .i64 ((Ae p1.2.1).2.1.2.1.2.2.1), .int .i64 ((Ae p1.2.1).2.1.2.1.2.2.2), .int .i64 ((Ae p1.2.1).2.1.2.2.1), .int .i64 ((Ae p1.2.1).2.1.2.2.2.1), .int .i64 ((Ae p1.2.1).2.1.2.2.2.2.1), .int .i64 ((Ae p1.2.1).2.1.2.2.2.2.2), x.2])]) (ZZ := fun x => [BD x.2 Bl ((Ae p1.2.1).2.2)]) W F Rw Aa Aa (fun hL => Gk _ w (v2) p1.2.1 _ Aa (F.old s_v2)) fun x a w W F => ?_
  obtain ⟨b2, v6⟩ := x
  have F : Stw ⟨Y, [], w0⟩ [(b2, (LG p1 v6)), (b1, [.int .i64 p1.1, .int .i64 p1.2.1.1, .int .i64 p1.2.1.2.1.1, .int .i64 p1.2.1.2.1.2.1.1, .int .i64 p1.2.1.2.1.2.1.2.1, .int .i64 p1.2.1.2.1.2.1.2.2.1, .int .i64 p1.2.1.2.1.2.1.2.2.2, .int .i64 p1.2.1.2.1.2.2.1, .int .i64 p1.2.1.2.1.2.2.2.1, .int .i64 p1.2.1.2.1.2.2.2.2.1, .int .i64 p1.2.1.2.1.2.2.2.2.2, v2, .bool p1.2.2])] [BD v6 Bl ((Ae p1.2.1).2.2), row v4.1 37 A5 x1] w := F
  refine BS (N2 := []) (NZ2 := []) (N3 := [(some 6, b1, [.int .i64 p1.1, .int .i64 p1.2.1.1, .int .i64 p1.2.1.2.1.1, .int .i64 p1.2.1.2.1.2.1.1, .int .i64 p1.2.1.2.1.2.1.2.1, .int .i64 p1.2.1.2.1.2.1.2.2.1, .int .i64 p1.2.1.2.1.2.1.2.2.2, .int .i64 p1.2.1.2.1.2.2.1, .int .i64 p1.2.1.2.1.2.2.2.1, .int .i64 p1.2.1.2.1.2.2.2.2.1, .int .i64 p1.2.1.2.1.2.2.2.2.2, v2, .bool p1.2.2]), (some 5, b1, [.int .i64 p1.1, .int .i64 p1.2.1.1, .int .i64 p1.2.1.2.1.1, .int .i64 p1.2.1.2.1.2.1.1, .int .i64 p1.2.1.2.1.2.1.2.1, .int .i64 p1.2.1.2.1.2.1.2.2.1, .int .i64 p1.2.1.2.1.2.1.2.2.2, .int .i64 p1.2.1.2.1.2.2.1, .int .i64 p1.2.1.2.1.2.2.2.1, .int .i64 p1.2.1.2.1.2.2.2.2.1, .int .i64 p1.2.1.2.1.2.2.2.2.2, v2, .bool p1.2.2])]) (NZ3 := []) F Aa Aa (all_cons (fun _ => (.tail _ (.head _))) (all_cons (fun h => AG (by kernel_rfl) h) As)) As ?_
  refine En Aa ?_
  obtain ⟨x5, h6, H⟩ := Ah H
  have F := F.frontZ (i := 1) Aa Aa
  refine AB (Ml := []) (Zl := [row v4.1 37 A5 x1]) (β := Value) (rv := fun x => x) (MM := fun x => []) (ZZ := fun x => [row x 37 A5 x5]) W F Q3 Aa Aa (fun hL => Hl _ _ w (v4.1) (v2) b2 (v6) x1 p1.2.1 ((Ae p1.2.1).1, ((Ae p1.2.1).2.1.1, ((Ae p1.2.1).2.1.2.1.1, (Ae p1.2.1).2.1.2.1.2.1, (Ae p1.2.1).2.1.2.1.2.2.1, (Ae p1.2.1).2.1.2.1.2.2.2), ((Ae p1.2.1).2.1.2.2.1, (Ae p1.2.1).2.1.2.2.2.1, (Ae p1.2.1).2.1.2.2.2.2.1, (Ae p1.2.1).2.1.2.2.2.2.2)), (Ae p1.2.1).2.2) _ h6 (F.old s_v2) (Sl.nxF (F.item (i := 1) Aa) (fun g hg => GR hg)) (J0 (Ml := []) (Zl := [row v4.1 37 A5 x1]) F 0 Aa) hL) fun x a w W F => ?_
  obtain ⟨v7, rfl⟩ : ∃ y, y = x := ⟨x, rfl⟩
  have F : Stw ⟨Y, [], w0⟩ [(b2, (LG p1 v6)), (b1, [.int .i64 p1.1, .int .i64 p1.2.1.1, .int .i64 p1.2.1.2.1.1, .int .i64 p1.2.1.2.1.2.1.1, .int .i64 p1.2.1.2.1.2.1.2.1, .int .i64 p1.2.1.2.1.2.1.2.2.1, .int .i64 p1.2.1.2.1.2.1.2.2.2, .int .i64 p1.2.1.2.1.2.2.1, .int .i64 p1.2.1.2.1.2.2.2.1, .int .i64 p1.2.1.2.1.2.2.2.2.1, .int .i64 p1.2.1.2.1.2.2.2.2.2, v2, .bool p1.2.2])] [row v7 37 A5 x5, BD v6 Bl ((Ae p1.2.1).2.2)] w := F
  refine BS (N2 := []) (NZ2 := []) (N3 := [(some 6, b1, [.int .i64 p1.1, .int .i64 p1.2.1.1, .int .i64 p1.2.1.2.1.1, .int .i64 p1.2.1.2.1.2.1.1, .int .i64 p1.2.1.2.1.2.1.2.1, .int .i64 p1.2.1.2.1.2.1.2.2.1, .int .i64 p1.2.1.2.1.2.1.2.2.2, .int .i64 p1.2.1.2.1.2.2.1, .int .i64 p1.2.1.2.1.2.2.2.1, .int .i64 p1.2.1.2.1.2.2.2.2.1, .int .i64 p1.2.1.2.1.2.2.2.2.2, v2, .bool p1.2.2]), (some 5, b1, [.int .i64 p1.1, .int .i64 p1.2.1.1, .int .i64 p1.2.1.2.1.1, .int .i64 p1.2.1.2.1.2.1.1, .int .i64 p1.2.1.2.1.2.1.2.1, .int .i64 p1.2.1.2.1.2.1.2.2.1, .int .i64 p1.2.1.2.1.2.1.2.2.2, .int .i64 p1.2.1.2.1.2.2.1, .int .i64 p1.2.1.2.1.2.2.2.1, .int .i64 p1.2.1.2.1.2.2.2.2.1, .int .i64 p1.2.1.2.1.2.2.2.2.2, v2, .bool p1.2.2])]) (NZ3 := []) F Aa Aa (all_cons (fun h => AG (by kernel_rfl) h) (all_cons (fun h => AG (by kernel_rfl) h) As)) As ?_
  refine En Aa ?_
  refine ls W F Aa (BK W Aa).q fun a w W F => ?_
  refine BS (N2 := []) (NZ2 := []) (N3 := [(some 6, b1, [.int .i64 p1.1, .int .i64 p1.2.1.1, .int .i64 p1.2.1.2.1.1, .int .i64 p1.2.1.2.1.2.1.1, .int .i64 p1.2.1.2.1.2.1.2.1, .int .i64 p1.2.1.2.1.2.1.2.2.1, .int .i64 p1.2.1.2.1.2.1.2.2.2, .int .i64 p1.2.1.2.1.2.2.1, .int .i64 p1.2.1.2.1.2.2.2.1, .int .i64 p1.2.1.2.1.2.2.2.2.1, .int .i64 p1.2.1.2.1.2.2.2.2.2, v2, .bool p1.2.2]), (some 5, b1, [.int .i64 p1.1, .int .i64 p1.2.1.1, .int .i64 p1.2.1.2.1.1, .int .i64 p1.2.1.2.1.2.1.1, .int .i64 p1.2.1.2.1.2.1.2.1, .int .i64 p1.2.1.2.1.2.1.2.2.1, .int .i64 p1.2.1.2.1.2.1.2.2.2, .int .i64 p1.2.1.2.1.2.2.1, .int .i64 p1.2.1.2.1.2.2.2.1, .int .i64 p1.2.1.2.1.2.2.2.2.1, .int .i64 p1.2.1.2.1.2.2.2.2.2, v2, .bool p1.2.2])]) (NZ3 := []) F Aa Aa (all_cons (fun h => AG (by kernel_rfl) h) (all_cons (fun h => AG (by kernel_rfl) h) As)) As ?_
  refine En Aa ?_
  refine ls W F Aa (BK W Aa).q fun a w W F => ?_
  refine BS (N2 := []) (NZ2 := []) (N3 := [(some 6, b1, [.int .i64 p1.1, .int .i64 p1.2.1.1, .int .i64 p1.2.1.2.1.1, .int .i64 p1.2.1.2.1.2.1.1, .int .i64 p1.2.1.2.1.2.1.2.1, .int .i64 p1.2.1.2.1.2.1.2.2.1, .int .i64 p1.2.1.2.1.2.1.2.2.2, .int .i64 p1.2.1.2.1.2.2.1, .int .i64 p1.2.1.2.1.2.2.2.1, .int .i64 p1.2.1.2.1.2.2.2.2.1, .int .i64 p1.2.1.2.1.2.2.2.2.2, v2, .bool p1.2.2]), (some 5, b1, [.int .i64 p1.1, .int .i64 p1.2.1.1, .int .i64 p1.2.1.2.1.1, .int .i64 p1.2.1.2.1.2.1.1, .int .i64 p1.2.1.2.1.2.1.2.1, .int .i64 p1.2.1.2.1.2.1.2.2.1, .int .i64 p1.2.1.2.1.2.1.2.2.2, .int .i64 p1.2.1.2.1.2.2.1, .int .i64 p1.2.1.2.1.2.2.2.1, .int .i64 p1.2.1.2.1.2.2.2.2.1, .int .i64 p1.2.1.2.1.2.2.2.2.2, v2, .bool p1.2.2])]) (NZ3 := []) F Aa Aa (all_cons (fun h => AG (by kernel_rfl) h) (all_cons (fun h => AG (by kernel_rfl) h) As)) As ?_
  refine GI (Ad (Al (Az (Ap ?_))))
  have H := Aw H
  subst H
  refine DN (.inl Aa) W F Aa (Ak W Aa) (Ak W Aa) ?_
  have F := F.freeze
  have F := F.sub (M' := []) (Z' := [BD v7 A5 x5]) (List.nil_sublist _) (List.Sublist.cons_cons _ (List.nil_sublist _))
  exact ⟨(v7), Aa, F⟩
 have H := BX (Ch hb) H
 rw [hb] at W
 clear hb
 refine vc tk 6 W F fun a w W F => ?_
 refine Dm W Aa (fun hb => ?_) fun hb => ?_
 ·
  have H := BW (Ci hb) H
  rw [hb] at W
  clear hb
  refine Gh tk 6 [0] W F (ai fun a w W F => ?_)
  refine AB (Ml := []) (Zl := []) (β := Nat × Value) (rv := fun x => .func (.func 73) #[] #[.pointer (some ⟨x.1, 0, none⟩)]) (MM := fun x => [(x.1, [.int .i64 ((Ab p1.2.1).1), .int .i64 ((Ab p1.2.1).2.1.1), .int .i64 ((Ab p1.2.1).2.1.2.1.1), .int .i64 ((Ab p1.2.1).2.1.2.1.2.1), .int .i64 ((Ab p1.2.1).2.1.2.1.2.2.1), .int .i64 ((Ab p1.2.1).2.1.2.1.2.2.2), .int .i64 ((Ab p1.2.1).2.1.2.2.1), .int .i64 ((Ab p1.2.1).2.1.2.2.2.1), .int .i64 ((Ab p1.2.1).2.1.2.2.2.2.1), .int .i64 ((Ab p1.2.1).2.1.2.2.2.2.2), x.2])]) (ZZ := fun x => [BD x.2 Bl ((Ab p1.2.1).2.2)]) W F PI Aa Aa (fun hL => Dd _ w (v2) p1.2.1 _ Aa (F.old s_v2)) fun x a w W F => ?_
  obtain ⟨b3, v8⟩ := x
  have F : Stw ⟨Y, [], w0⟩ [(b3, (GC p1 v8)), (b1, [.int .i64 p1.1, .int .i64 p1.2.1.1, .int .i64 p1.2.1.2.1.1, .int .i64 p1.2.1.2.1.2.1.1, .int .i64 p1.2.1.2.1.2.1.2.1, .int .i64 p1.2.1.2.1.2.1.2.2.1, .int .i64 p1.2.1.2.1.2.1.2.2.2, .int .i64 p1.2.1.2.1.2.2.1, .int .i64 p1.2.1.2.1.2.2.2.1, .int .i64 p1.2.1.2.1.2.2.2.2.1, .int .i64 p1.2.1.2.1.2.2.2.2.2, v2, .bool p1.2.2])] [BD v8 Bl ((Ab p1.2.1).2.2), row v4.1 37 A5 x1] w := F
  obtain ⟨x6, h7, H⟩ := Ah H
  refine ls W F Aa (AU (v := Value.bool x6) W Qs Aa (fun w F => BB any w (v4.1) b3 (v8) x1 ((Ab p1.2.1).1, ((Ab p1.2.1).2.1.1, ((Ab p1.2.1).2.1.2.1.1, (Ab p1.2.1).2.1.2.1.2.1, (Ab p1.2.1).2.1.2.1.2.2.1, (Ab p1.2.1).2.1.2.1.2.2.2), ((Ab p1.2.1).2.1.2.2.1, (Ab p1.2.1).2.1.2.2.2.1, (Ab p1.2.1).2.1.2.2.2.2.1, (Ab p1.2.1).2.1.2.2.2.2.2)), (Ab p1.2.1).2.2) _ h7 (CY (A4 1 Aa) F) (CY (Ds 0 Aa) F) (NH F 0 Aa))) fun a w W F => ?_
  refine BV tk 3 W F fun a w W F => ?_
  refine B8 W Aa H (fun W H => ?_) fun W H => ?_
  ·
   refine vc tk 7 W F fun a w W F => ?_
   refine Al (Ap (Az (Ap ?_)))
   have H := Aw H
   subst H
   refine DN (.inl Aa) W F Aa (Ak W Aa) (Ak W Aa) ?_
   have F := F.frontZ (i := 1) Aa Aa
   have F := F.freeze
   have F := F.sub (M' := []) (Z' := [BD v4.1 A5 x1]) (List.nil_sublist _) (List.Sublist.cons_cons _ (List.nil_sublist _))
   exact ⟨(v4.1), Aa, F⟩
  refine E8 tk 3 W F fun a w W F => ?_
  refine ER [(true, 0), (true, 1), (true, 2), (true, 3), (true, 4), (false, 5), (false, 6), (false, 7), (false, 8)] (CN ⟨Y, [], w0⟩ [(some 6, b1, [.int .i64 p1.1, .int .i64 p1.2.1.1, .int .i64 p1.2.1.2.1.1, .int .i64 p1.2.1.2.1.2.1.1, .int .i64 p1.2.1.2.1.2.1.2.1, .int .i64 p1.2.1.2.1.2.1.2.2.1, .int .i64 p1.2.1.2.1.2.1.2.2.2, .int .i64 p1.2.1.2.1.2.2.1, .int .i64 p1.2.1.2.1.2.2.2.1, .int .i64 p1.2.1.2.1.2.2.2.2.1, .int .i64 p1.2.1.2.1.2.2.2.2.2, v2, .bool p1.2.2]), (some 5, b1, [.int .i64 p1.1, .int .i64 p1.2.1.1, .int .i64 p1.2.1.2.1.1, .int .i64 p1.2.1.2.1.2.1.1, .int .i64 p1.2.1.2.1.2.1.2.1, .int .i64 p1.2.1.2.1.2.1.2.2.1, .int .i64 p1.2.1.2.1.2.1.2.2.2, .int .i64 p1.2.1.2.1.2.2.1, .int .i64 p1.2.1.2.1.2.2.2.1, .int .i64 p1.2.1.2.1.2.2.2.2.1, .int .i64 p1.2.1.2.1.2.2.2.2.2, v2, .bool p1.2.2])] []) (fun ch a d v w h => by cases d <;> exact h) MO (by kernel_rfl) F (fun w F => ⟨_, _, F, (all_cons (fun _ => (.tail _ (.head _))) (all_cons (fun _ => (.tail _ (.head _))) As)), As⟩) fun w F => ?_
  refine CZ (R := []) W Aa Aa (yC fun M Z hN hZ => Am W Aa) Aa Aa fun a W => ?_
  refine CZ (R := []) W Aa Aa (yC fun M Z hN hZ => An KQ Aa Aa Aa Fk W Aa 1 Aa) Aa Aa fun a W => ?_
  refine CZ (R := [6]) W Aa Aa (yC fun M Z hN hZ => DC (cs := [.int .i64 p1.1, .int .i64 p1.2.1.1, .int .i64 p1.2.1.2.1.1, .int .i64 p1.2.1.2.1.2.1.1, .int .i64 p1.2.1.2.1.2.1.2.1, .int .i64 p1.2.1.2.1.2.1.2.2.1, .int .i64 p1.2.1.2.1.2.1.2.2.2, .int .i64 p1.2.1.2.1.2.2.1, .int .i64 p1.2.1.2.1.2.2.2.1, .int .i64 p1.2.1.2.1.2.2.2.2.1, .int .i64 p1.2.1.2.1.2.2.2.2.2, v2, .bool p1.2.2]) (v := Value.agg #[.int .i64 p1.2.1.1, .int .i64 p1.2.1.2.1.1, .int .i64 p1.2.1.2.1.2.1.1, .int .i64 p1.2.1.2.1.2.1.2.1, .int .i64 p1.2.1.2.1.2.1.2.2.1, .int .i64 p1.2.1.2.1.2.1.2.2.2, .int .i64 p1.2.1.2.1.2.2.1, .int .i64 p1.2.1.2.1.2.2.2.1, .int .i64 p1.2.1.2.1.2.2.2.2.1, .int .i64 p1.2.1.2.1.2.2.2.2.2, v2]) W Aa (hN ((some 6), b1, [.int .i64 p1.1, .int .i64 p1.2.1.1, .int .i64 p1.2.1.2.1.1, .int .i64 p1.2.1.2.1.2.1.1, .int .i64 p1.2.1.2.1.2.1.2.1, .int .i64 p1.2.1.2.1.2.1.2.2.1, .int .i64 p1.2.1.2.1.2.1.2.2.2, .int .i64 p1.2.1.2.1.2.2.1, .int .i64 p1.2.1.2.1.2.2.2.1, .int .i64 p1.2.1.2.1.2.2.2.2.1, .int .i64 p1.2.1.2.1.2.2.2.2.2, v2, .bool p1.2.2]) (.head _) Aa) Fk Aa) (by kernel_rfl) Aa fun a W => ?_
  refine CZ (R := []) W Aa Aa (yC fun M Z hN hZ => An KQ Aa Aa Aa Fk W Aa 1 Aa) Aa Aa fun a W => ?_
  refine CZ (R := [5]) W Aa Aa (yC fun M Z hN hZ => DC (cs := [.int .i64 p1.1, .int .i64 p1.2.1.1, .int .i64 p1.2.1.2.1.1, .int .i64 p1.2.1.2.1.2.1.1, .int .i64 p1.2.1.2.1.2.1.2.1, .int .i64 p1.2.1.2.1.2.1.2.2.1, .int .i64 p1.2.1.2.1.2.1.2.2.2, .int .i64 p1.2.1.2.1.2.2.1, .int .i64 p1.2.1.2.1.2.2.2.1, .int .i64 p1.2.1.2.1.2.2.2.2.1, .int .i64 p1.2.1.2.1.2.2.2.2.2, v2, .bool p1.2.2]) (v := Value.agg #[.int .i64 p1.2.1.1, .int .i64 p1.2.1.2.1.1, .int .i64 p1.2.1.2.1.2.1.1, .int .i64 p1.2.1.2.1.2.1.2.1, .int .i64 p1.2.1.2.1.2.1.2.2.1, .int .i64 p1.2.1.2.1.2.1.2.2.2, .int .i64 p1.2.1.2.1.2.2.1, .int .i64 p1.2.1.2.1.2.2.2.1, .int .i64 p1.2.1.2.1.2.2.2.2.1, .int .i64 p1.2.1.2.1.2.2.2.2.2, v2]) W Aa (hN ((some 5), b1, [.int .i64 p1.1, .int .i64 p1.2.1.1, .int .i64 p1.2.1.2.1.1, .int .i64 p1.2.1.2.1.2.1.1, .int .i64 p1.2.1.2.1.2.1.2.1, .int .i64 p1.2.1.2.1.2.1.2.2.1, .int .i64 p1.2.1.2.1.2.1.2.2.2, .int .i64 p1.2.1.2.1.2.2.1, .int .i64 p1.2.1.2.1.2.2.2.1, .int .i64 p1.2.1.2.1.2.2.2.2.1, .int .i64 p1.2.1.2.1.2.2.2.2.2, v2, .bool p1.2.2]) (.tail _ (.head _)) Aa) Fk Aa) (by kernel_rfl) Aa fun a W => ?_
  refine En Aa ?_
  refine AB (Ml := []) (Zl := []) (β := Nat × Value) (rv := fun x => .func (.func 73) #[] #[.pointer (some ⟨x.1, 0, none⟩)]) (MM := fun x => [(x.1, [.int .i64 ((Ab p1.2.1).1), .int .i64 ((Ab p1.2.1).2.1.1), .int .i64 ((Ab p1.2.1).2.1.2.1.1), .int .i64 ((Ab p1.2.1).2.1.2.1.2.1), .int .i64 ((Ab p1.2.1).2.1.2.1.2.2.1), .int .i64 ((Ab p1.2.1).2.1.2.1.2.2.2), .int .i64 ((Ab p1.2.1).2.1.2.2.1), .int .i64 ((Ab p1.2.1).2.1.2.2.2.1), .int .i64 ((Ab p1.2.1).2.1.2.2.2.2.1), .int .i64 ((Ab p1.2.1).2.1.2.2.2.2.2), x.2])]) (ZZ := fun x => [BD x.2 Bl ((Ab p1.2.1).2.2)]) W F PI Aa Aa (fun hL => Dd _ w (v2) p1.2.1 _ Aa (F.old s_v2)) fun x a w W F => ?_
  obtain ⟨b4, v9⟩ := x
  have F : Stw ⟨Y, [], w0⟩ [(b4, (GC p1 v9)), (b3, (GC p1 v8)), (b1, [.int .i64 p1.1, .int .i64 p1.2.1.1, .int .i64 p1.2.1.2.1.1, .int .i64 p1.2.1.2.1.2.1.1, .int .i64 p1.2.1.2.1.2.1.2.1, .int .i64 p1.2.1.2.1.2.1.2.2.1, .int .i64 p1.2.1.2.1.2.1.2.2.2, .int .i64 p1.2.1.2.1.2.2.1, .int .i64 p1.2.1.2.1.2.2.2.1, .int .i64 p1.2.1.2.1.2.2.2.2.1, .int .i64 p1.2.1.2.1.2.2.2.2.2, v2, .bool p1.2.2])] [BD v9 Bl ((Ab p1.2.1).2.2), BD v8 Bl ((Ab p1.2.1).2.2), row v4.1 37 A5 x1] w := F
  refine BS (N2 := []) (NZ2 := []) (N3 := [(some 6, b1, [.int .i64 p1.1, .int .i64 p1.2.1.1, .int .i64 p1.2.1.2.1.1, .int .i64 p1.2.1.2.1.2.1.1, .int .i64 p1.2.1.2.1.2.1.2.1, .int .i64 p1.2.1.2.1.2.1.2.2.1, .int .i64 p1.2.1.2.1.2.1.2.2.2, .int .i64 p1.2.1.2.1.2.2.1, .int .i64 p1.2.1.2.1.2.2.2.1, .int .i64 p1.2.1.2.1.2.2.2.2.1, .int .i64 p1.2.1.2.1.2.2.2.2.2, v2, .bool p1.2.2]), (some 5, b1, [.int .i64 p1.1, .int .i64 p1.2.1.1, .int .i64 p1.2.1.2.1.1, .int .i64 p1.2.1.2.1.2.1.1, .int .i64 p1.2.1.2.1.2.1.2.1, .int .i64 p1.2.1.2.1.2.1.2.2.1, .int .i64 p1.2.1.2.1.2.1.2.2.2, .int .i64 p1.2.1.2.1.2.2.1, .int .i64 p1.2.1.2.1.2.2.2.1, .int .i64 p1.2.1.2.1.2.2.2.2.1, .int .i64 p1.2.1.2.1.2.2.2.2.2, v2, .bool p1.2.2])]) (NZ3 := []) F Aa Aa (all_cons (fun _ => (.tail _ (.tail _ (.head _)))) (all_cons (fun h => AG (by kernel_rfl) h) As)) As ?_
  refine En Aa ?_
  obtain ⟨x7, h8, H⟩ := Ah H
  have F := F.frontZ (i := 2) Aa Aa
  refine AB (Ml := []) (Zl := [row v4.1 37 A5 x1]) (β := Value) (rv := fun x => x) (MM := fun x => []) (ZZ := fun x => [row x 37 A5 x7]) W F Q3 Aa Aa (fun hL => F0 _ _ w (v4.1) (v2) b4 (v9) x1 p1.2.1 ((Ab p1.2.1).1, ((Ab p1.2.1).2.1.1, ((Ab p1.2.1).2.1.2.1.1, (Ab p1.2.1).2.1.2.1.2.1, (Ab p1.2.1).2.1.2.1.2.2.1, (Ab p1.2.1).2.1.2.1.2.2.2), ((Ab p1.2.1).2.1.2.2.1, (Ab p1.2.1).2.1.2.2.2.1, (Ab p1.2.1).2.1.2.2.2.2.1, (Ab p1.2.1).2.1.2.2.2.2.2)), (Ab p1.2.1).2.2) _ h8 (F.old s_v2) (Sl.nxF (F.item (i := 1) Aa) (fun g hg => GR hg)) (J0 (Ml := []) (Zl := [row v4.1 37 A5 x1]) F 0 Aa) hL) fun x a w W F => ?_
  obtain ⟨v10, rfl⟩ : ∃ y, y = x := ⟨x, rfl⟩
  have F : Stw ⟨Y, [], w0⟩ [(b4, (GC p1 v9)), (b3, (GC p1 v8)), (b1, [.int .i64 p1.1, .int .i64 p1.2.1.1, .int .i64 p1.2.1.2.1.1, .int .i64 p1.2.1.2.1.2.1.1, .int .i64 p1.2.1.2.1.2.1.2.1, .int .i64 p1.2.1.2.1.2.1.2.2.1, .int .i64 p1.2.1.2.1.2.1.2.2.2, .int .i64 p1.2.1.2.1.2.2.1, .int .i64 p1.2.1.2.1.2.2.2.1, .int .i64 p1.2.1.2.1.2.2.2.2.1, .int .i64 p1.2.1.2.1.2.2.2.2.2, v2, .bool p1.2.2])] [row v10 37 A5 x7, BD v9 Bl ((Ab p1.2.1).2.2), BD v8 Bl ((Ab p1.2.1).2.2)] w := F
  refine BS (N2 := []) (NZ2 := []) (N3 := [(some 6, b1, [.int .i64 p1.1, .int .i64 p1.2.1.1, .int .i64 p1.2.1.2.1.1, .int .i64 p1.2.1.2.1.2.1.1, .int .i64 p1.2.1.2.1.2.1.2.1, .int .i64 p1.2.1.2.1.2.1.2.2.1, .int .i64 p1.2.1.2.1.2.1.2.2.2, .int .i64 p1.2.1.2.1.2.2.1, .int .i64 p1.2.1.2.1.2.2.2.1, .int .i64 p1.2.1.2.1.2.2.2.2.1, .int .i64 p1.2.1.2.1.2.2.2.2.2, v2, .bool p1.2.2]), (some 5, b1, [.int .i64 p1.1, .int .i64 p1.2.1.1, .int .i64 p1.2.1.2.1.1, .int .i64 p1.2.1.2.1.2.1.1, .int .i64 p1.2.1.2.1.2.1.2.1, .int .i64 p1.2.1.2.1.2.1.2.2.1, .int .i64 p1.2.1.2.1.2.1.2.2.2, .int .i64 p1.2.1.2.1.2.2.1, .int .i64 p1.2.1.2.1.2.2.2.1, .int .i64 p1.2.1.2.1.2.2.2.2.1, .int .i64 p1.2.1.2.1.2.2.2.2.2, v2, .bool p1.2.2])]) (NZ3 := []) F Aa Aa (all_cons (fun h => AG (by kernel_rfl) h) (all_cons (fun h => AG (by kernel_rfl) h) As)) As ?_
  refine En Aa ?_
  refine ls W F Aa (BK W Aa).q fun a w W F => ?_
  refine BS (N2 := []) (NZ2 := []) (N3 := [(some 6, b1, [.int .i64 p1.1, .int .i64 p1.2.1.1, .int .i64 p1.2.1.2.1.1, .int .i64 p1.2.1.2.1.2.1.1, .int .i64 p1.2.1.2.1.2.1.2.1, .int .i64 p1.2.1.2.1.2.1.2.2.1, .int .i64 p1.2.1.2.1.2.1.2.2.2, .int .i64 p1.2.1.2.1.2.2.1, .int .i64 p1.2.1.2.1.2.2.2.1, .int .i64 p1.2.1.2.1.2.2.2.2.1, .int .i64 p1.2.1.2.1.2.2.2.2.2, v2, .bool p1.2.2]), (some 5, b1, [.int .i64 p1.1, .int .i64 p1.2.1.1, .int .i64 p1.2.1.2.1.1, .int .i64 p1.2.1.2.1.2.1.1, .int .i64 p1.2.1.2.1.2.1.2.1, .int .i64 p1.2.1.2.1.2.1.2.2.1, .int .i64 p1.2.1.2.1.2.1.2.2.2, .int .i64 p1.2.1.2.1.2.2.1, .int .i64 p1.2.1.2.1.2.2.2.1, .int .i64 p1.2.1.2.1.2.2.2.2.1, .int .i64 p1.2.1.2.1.2.2.2.2.2, v2, .bool p1.2.2])]) (NZ3 := []) F Aa Aa (all_cons (fun h => AG (by kernel_rfl) h) (all_cons (fun h => AG (by kernel_rfl) h) As)) As ?_
  refine En Aa ?_
  refine ls W F Aa (BK W Aa).q fun a w W F => ?_
  refine BS (N2 := []) (NZ2 := []) (N3 := [(some 6, b1, [.int .i64 p1.1, .int .i64 p1.2.1.1, .int .i64 p1.2.1.2.1.1, .int .i64 p1.2.1.2.1.2.1.1, .int .i64 p1.2.1.2.1.2.1.2.1, .int .i64 p1.2.1.2.1.2.1.2.2.1, .int .i64 p1.2.1.2.1.2.1.2.2.2, .int .i64 p1.2.1.2.1.2.2.1, .int .i64 p1.2.1.2.1.2.2.2.1, .int .i64 p1.2.1.2.1.2.2.2.2.1, .int .i64 p1.2.1.2.1.2.2.2.2.2, v2, .bool p1.2.2]), (some 5, b1, [.int .i64 p1.1, .int .i64 p1.2.1.1, .int .i64 p1.2.1.2.1.1, .int .i64 p1.2.1.2.1.2.1.1, .int .i64 p1.2.1.2.1.2.1.2.1, .int .i64 p1.2.1.2.1.2.1.2.2.1, .int .i64 p1.2.1.2.1.2.1.2.2.2, .int .i64 p1.2.1.2.1.2.2.1, .int .i64 p1.2.1.2.1.2.2.2.1, .int .i64 p1.2.1.2.1.2.2.2.2.1, .int .i64 p1.2.1.2.1.2.2.2.2.2, v2, .bool p1.2.2])]) (NZ3 := []) F Aa Aa (all_cons (fun h => AG (by kernel_rfl) h) (all_cons (fun h => AG (by kernel_rfl) h) As)) As ?_
  refine GI (Ad (Al (Az (Ap ?_))))
  have H := Aw H
  subst H
  refine DN (.inl Aa) W F Aa (Ak W Aa) (Ak W Aa) ?_
  have F := F.freeze
  have F := F.sub (M' := []) (Z' := [BD v10 A5 x7]) (List.nil_sublist _) (List.Sublist.cons_cons _ (List.nil_sublist _))
  exact ⟨(v10), Aa, F⟩
 have H := BX (Ch hb) H
 rw [hb] at W
 clear hb
 refine vc tk 6 W F fun a w W F => ?_
 refine Dm W Aa (fun hb => ?_) fun hb => ?_
 ·
  have H := BW (Ci hb) H
  rw [hb] at W
  clear hb
  refine Gh tk 5 [0] W F (ai fun a w W F => ?_)
  refine AB (Ml := []) (Zl := []) (β := Nat × Value) (rv := fun x => .func (.func 71) #[] #[.pointer (some ⟨x.1, 0, none⟩)]) (MM := fun x => [(x.1, [.int .i64 ((Ae p1.2.1).1), .int .i64 ((Ae p1.2.1).2.1.1), .int .i64 ((Ae p1.2.1).2.1.2.1.1), .int .i64 ((Ae p1.2.1).2.1.2.1.2.1), .int .i64 ((Ae p1.2.1).2.1.2.1.2.2.1), .int .i64 ((Ae p1.2.1).2.1.2.1.2.2.2), .int .i64 ((Ae p1.2.1).2.1.2.2.1), .int .i64 ((Ae p1.2.1).2.1.2.2.2.1), .int .i64 ((Ae p1.2.1).2.1.2.2.2.2.1), .int .i64 ((Ae p1.2.1).2.1.2.2.2.2.2), x.2])]) (ZZ := fun x => [BD x.2 Bl ((Ae p1.2.1).2.2)]) W F Rw Aa Aa (fun hL => Gk _ w (v2) p1.2.1 _ Aa (F.old s_v2)) fun x a w W F => ?_
  obtain ⟨b5, v11⟩ := x
  have F : Stw ⟨Y, [], w0⟩ [(b5, (LG p1 v11)), (b1, [.int .i64 p1.1, .int .i64 p1.2.1.1, .int .i64 p1.2.1.2.1.1, .int .i64 p1.2.1.2.1.2.1.1, .int .i64 p1.2.1.2.1.2.1.2.1, .int .i64 p1.2.1.2.1.2.1.2.2.1, .int .i64 p1.2.1.2.1.2.1.2.2.2, .int .i64 p1.2.1.2.1.2.2.1, .int .i64 p1.2.1.2.1.2.2.2.1, .int .i64 p1.2.1.2.1.2.2.2.2.1, .int .i64 p1.2.1.2.1.2.2.2.2.2, v2, .bool p1.2.2])] [BD v11 Bl ((Ae p1.2.1).2.2), row v4.1 37 A5 x1] w := F
  obtain ⟨x8, h9, H⟩ := Ah H
  have F := F.frontZ (i := 1) Aa Aa
  refine AB (Ml := []) (Zl := [row v4.1 37 A5 x1]) (β := Value) (rv := fun x => x) (MM := fun x => []) (ZZ := fun x => [row x 37 A5 x8]) W F Q8 Aa Aa (fun hL => Du _ _ w (v4.1) b5 (v11) x1 ((Ae p1.2.1).1, ((Ae p1.2.1).2.1.1, ((Ae p1.2.1).2.1.2.1.1, (Ae p1.2.1).2.1.2.1.2.1, (Ae p1.2.1).2.1.2.1.2.2.1, (Ae p1.2.1).2.1.2.1.2.2.2), ((Ae p1.2.1).2.1.2.2.1, (Ae p1.2.1).2.1.2.2.2.1, (Ae p1.2.1).2.1.2.2.2.2.1, (Ae p1.2.1).2.1.2.2.2.2.2)), (Ae p1.2.1).2.2) _ h9 (Sl.nxF (F.item (i := 1) Aa) (fun g hg => GR hg)) (J0 (Ml := []) (Zl := [row v4.1 37 A5 x1]) F 0 Aa) hL) fun x a w W F => ?_
  obtain ⟨v12, rfl⟩ : ∃ y, y = x := ⟨x, rfl⟩
  have F : Stw ⟨Y, [], w0⟩ [(b5, (LG p1 v11)), (b1, [.int .i64 p1.1, .int .i64 p1.2.1.1, .int .i64 p1.2.1.2.1.1, .int .i64 p1.2.1.2.1.2.1.1, .int .i64 p1.2.1.2.1.2.1.2.1, .int .i64 p1.2.1.2.1.2.1.2.2.1, .int .i64 p1.2.1.2.1.2.1.2.2.2, .int .i64 p1.2.1.2.1.2.2.1, .int .i64 p1.2.1.2.1.2.2.2.1, .int .i64 p1.2.1.2.1.2.2.2.2.1, .int .i64 p1.2.1.2.1.2.2.2.2.2, v2, .bool p1.2.2])] [row v12 37 A5 x8, BD v11 Bl ((Ae p1.2.1).2.2)] w := F
  refine BV tk 4 W F fun a w W F => ?_
  refine Al (Az (Ap ?_))
  have H := Aw H
  subst H
  refine DN (.inl Aa) W F Aa (Ak W Aa) (Ak W Aa) ?_
  have F := F.freeze
  have F := F.sub (M' := []) (Z' := [BD v12 A5 x8]) (List.nil_sublist _) (List.Sublist.cons_cons _ (List.nil_sublist _))
  exact ⟨(v12), Aa, F⟩
 have H := BX (Ch hb) H
 rw [hb] at W
 clear hb
 refine vc tk 6 W F fun a w W F => ?_
 refine Dm W Aa (fun hb => ?_) fun hb => ?_
 ·
  have H := BW (Ci hb) H
  rw [hb] at W
  clear hb
  refine Gh tk 6 [0] W F (ai fun a w W F => ?_)
  refine AB (Ml := []) (Zl := []) (β := Nat × Value) (rv := fun x => .func (.func 73) #[] #[.pointer (some ⟨x.1, 0, none⟩)]) (MM := fun x => [(x.1, [.int .i64 ((Ab p1.2.1).1), .int .i64 ((Ab p1.2.1).2.1.1), .int .i64 ((Ab p1.2.1).2.1.2.1.1), .int .i64 ((Ab p1.2.1).2.1.2.1.2.1), .int .i64 ((Ab p1.2.1).2.1.2.1.2.2.1), .int .i64 ((Ab p1.2.1).2.1.2.1.2.2.2), .int .i64 ((Ab p1.2.1).2.1.2.2.1), .int .i64 ((Ab p1.2.1).2.1.2.2.2.1), .int .i64 ((Ab p1.2.1).2.1.2.2.2.2.1), .int .i64 ((Ab p1.2.1).2.1.2.2.2.2.2), x.2])]) (ZZ := fun x => [BD x.2 Bl ((Ab p1.2.1).2.2)]) W F PI Aa Aa (fun hL => Dd _ w (v2) p1.2.1 _ Aa (F.old s_v2)) fun x a w W F => ?_
  obtain ⟨b6, v13⟩ := x
  have F : Stw ⟨Y, [], w0⟩ [(b6, (GC p1 v13)), (b1, [.int .i64 p1.1, .int .i64 p1.2.1.1, .int .i64 p1.2.1.2.1.1, .int .i64 p1.2.1.2.1.2.1.1, .int .i64 p1.2.1.2.1.2.1.2.1, .int .i64 p1.2.1.2.1.2.1.2.2.1, .int .i64 p1.2.1.2.1.2.1.2.2.2, .int .i64 p1.2.1.2.1.2.2.1, .int .i64 p1.2.1.2.1.2.2.2.1, .int .i64 p1.2.1.2.1.2.2.2.2.1, .int .i64 p1.2.1.2.1.2.2.2.2.2, v2, .bool p1.2.2])] [BD v13 Bl ((Ab p1.2.1).2.2), row v4.1 37 A5 x1] w := F
  obtain ⟨x9, h10, H⟩ := Ah H
  refine ls W F Aa (AU (v := Value.bool x9) W Qs Aa (fun w F => BB any w (v4.1) b6 (v13) x1 ((Ab p1.2.1).1, ((Ab p1.2.1).2.1.1, ((Ab p1.2.1).2.1.2.1.1, (Ab p1.2.1).2.1.2.1.2.1, (Ab p1.2.1).2.1.2.1.2.2.1, (Ab p1.2.1).2.1.2.1.2.2.2), ((Ab p1.2.1).2.1.2.2.1, (Ab p1.2.1).2.1.2.2.2.1, (Ab p1.2.1).2.1.2.2.2.2.1, (Ab p1.2.1).2.1.2.2.2.2.2)), (Ab p1.2.1).2.2) _ h10 (CY (A4 1 Aa) F) (CY (Ds 0 Aa) F) (NH F 0 Aa))) fun a w W F => ?_
  refine BV tk 3 W F fun a w W F => ?_
  refine B8 W Aa H (fun W H => ?_) fun W H => ?_
  ·
   refine vc tk 7 W F fun a w W F => ?_
   refine Al (Ap (Az (Ap ?_)))
   have H := Aw H
   subst H
   refine DN (.inl Aa) W F Aa (Ak W Aa) (Ak W Aa) ?_
   have F := F.frontZ (i := 1) Aa Aa
   have F := F.freeze
   have F := F.sub (M' := []) (Z' := [BD v4.1 A5 x1]) (List.nil_sublist _) (List.Sublist.cons_cons _ (List.nil_sublist _))
   exact ⟨(v4.1), Aa, F⟩
  refine NF tk 7 [1] W F (ai fun a w W F => ?_)
  refine AB (Ml := []) (Zl := []) (β := Nat × Value) (rv := fun x => .func (.func 73) #[] #[.pointer (some ⟨x.1, 0, none⟩)]) (MM := fun x => [(x.1, [.int .i64 ((Ab p1.2.1).1), .int .i64 ((Ab p1.2.1).2.1.1), .int .i64 ((Ab p1.2.1).2.1.2.1.1), .int .i64 ((Ab p1.2.1).2.1.2.1.2.1), .int .i64 ((Ab p1.2.1).2.1.2.1.2.2.1), .int .i64 ((Ab p1.2.1).2.1.2.1.2.2.2), .int .i64 ((Ab p1.2.1).2.1.2.2.1), .int .i64 ((Ab p1.2.1).2.1.2.2.2.1), .int .i64 ((Ab p1.2.1).2.1.2.2.2.2.1), .int .i64 ((Ab p1.2.1).2.1.2.2.2.2.2), x.2])]) (ZZ := fun x => [BD x.2 Bl ((Ab p1.2.1).2.2)]) W F PI Aa Aa (fun hL => Dd _ w (v2) p1.2.1 _ Aa (F.old s_v2)) fun x a w W F => ?_
  obtain ⟨b7, v14⟩ := x
  have F : Stw ⟨Y, [], w0⟩ [(b7, (GC p1 v14)), (b6, (GC p1 v13)), (b1, [.int .i64 p1.1, .int .i64 p1.2.1.1, .int .i64 p1.2.1.2.1.1, .int .i64 p1.2.1.2.1.2.1.1, .int .i64 p1.2.1.2.1.2.1.2.1, .int .i64 p1.2.1.2.1.2.1.2.2.1, .int .i64 p1.2.1.2.1.2.1.2.2.2, .int .i64 p1.2.1.2.1.2.2.1, .int .i64 p1.2.1.2.1.2.2.2.1, .int .i64 p1.2.1.2.1.2.2.2.2.1, .int .i64 p1.2.1.2.1.2.2.2.2.2, v2, .bool p1.2.2])] [BD v14 Bl ((Ab p1.2.1).2.2), BD v13 Bl ((Ab p1.2.1).2.2), row v4.1 37 A5 x1] w := F
  obtain ⟨x10, h11, H⟩ := Ah H
  have F := F.frontZ (i := 2) Aa Aa
  refine AB (Ml := []) (Zl := [row v4.1 37 A5 x1]) (β := Value) (rv := fun x => x) (MM := fun x => []) (ZZ := fun x => [row x 37 A5 x10]) W F Q8 Aa Aa (fun hL => Dh _ _ w (v4.1) b7 (v14) x1 ((Ab p1.2.1).1, ((Ab p1.2.1).2.1.1, ((Ab p1.2.1).2.1.2.1.1, (Ab p1.2.1).2.1.2.1.2.1, (Ab p1.2.1).2.1.2.1.2.2.1, (Ab p1.2.1).2.1.2.1.2.2.2), ((Ab p1.2.1).2.1.2.2.1, (Ab p1.2.1).2.1.2.2.2.1, (Ab p1.2.1).2.1.2.2.2.2.1, (Ab p1.2.1).2.1.2.2.2.2.2)), (Ab p1.2.1).2.2) _ h11 (Sl.nxF (F.item (i := 1) Aa) (fun g hg => GR hg)) (J0 (Ml := []) (Zl := [row v4.1 37 A5 x1]) F 0 Aa) hL) fun x a w W F => ?_
  obtain ⟨v15, rfl⟩ : ∃ y, y = x := ⟨x, rfl⟩
  have F : Stw ⟨Y, [], w0⟩ [(b7, (GC p1 v14)), (b6, (GC p1 v13)), (b1, [.int .i64 p1.1, .int .i64 p1.2.1.1, .int .i64 p1.2.1.2.1.1, .int .i64 p1.2.1.2.1.2.1.1, .int .i64 p1.2.1.2.1.2.1.2.1, .int .i64 p1.2.1.2.1.2.1.2.2.1, .int .i64 p1.2.1.2.1.2.1.2.2.2, .int .i64 p1.2.1.2.1.2.2.1, .int .i64 p1.2.1.2.1.2.2.2.1, .int .i64 p1.2.1.2.1.2.2.2.2.1, .int .i64 p1.2.1.2.1.2.2.2.2.2, v2, .bool p1.2.2])] [row v15 37 A5 x10, BD v14 Bl ((Ab p1.2.1).2.2), BD v13 Bl ((Ab p1.2.1).2.2)] w := F
  refine BV tk 4 W F fun a w W F => ?_
  refine Al (Az (Ap ?_))
  have H := Aw H
  subst H
  refine DN (.inl Aa) W F Aa (Ak W Aa) (Ak W Aa) ?_
  have F := F.freeze
  have F := F.sub (M' := []) (Z' := [BD v15 A5 x10]) (List.nil_sublist _) (List.Sublist.cons_cons _ (List.nil_sublist _))
  exact ⟨(v15), Aa, F⟩
 have H := BX (Ch hb) H
 rw [hb] at W
 clear hb
 refine AH (AV ?_)
 refine vn tk 7 W F fun a w W F => ?_
 refine Al ?_
 have H := Aw H
 subst H
 refine DN (.inl Aa) W F Aa (Ak W Aa) (Ak W Aa) ?_
 have F := F.freeze
 have F := F.sub (M' := []) (Z' := [BD v4.1 A5 x1]) (List.nil_sublist _) (List.Sublist.refl _)
 exact ⟨(v4.1), Aa, F⟩
theorem RM : Has Try.prog 37 := B3 Try.func37
noncomputable def DB (p0 : List (Int × (Int × (Int × Int × Int × Int) × (Int × Int × Int × Int)) × (List (Int × Int × Int)))) (p1 : List (Int × (Int × (Int × (Int × Int × Int × Int) × (Int × Int × Int × Int)) × (List (Int × Int × Int))) × Bool)) (p2 : Int) (p3 : Int) : ((List (Int × (Int × (Int × Int × Int × Int) × (Int × Int × Int × Int)) × (List (Int × Int × Int)))) × Int) → Option (((List (Int × (Int × (Int × Int × Int × Int) × (Int × Int × Int × Int)) × (List (Int × Int × Int)))) × Int) ⊕ ((List (Int × (Int × (Int × Int × Int × Int) × (Int × Int × Int × Int)) × (List (Int × Int × Int)))) ⊕ ((List (Int × (Int × (Int × Int × Int × Int) × (Int × Int × Int × Int)) × (List (Int × Int × Int)))) × Int × Int)))
  | (x3, x4) => (if x4 < (p1.length : Int) then (ix p1 x4).bind fun x5 => (Er x3 x5 p2 p3).bind fun x6 => (if x6.2 ≠ 0 then (C0 p0).bind fun x7 => some (.inr (.inr (x7, x4, x6.2))) else some (.inl (x6.1, Cs (x4 + 1)))) else some (.inr (.inl x3)))
noncomputable def Ef (p0 : List (Int × (Int × (Int × Int × Int × Int) × (Int × Int × Int × Int)) × (List (Int × Int × Int)))) (p1 : List (Int × (Int × (Int × (Int × Int × Int × Int) × (Int × Int × Int × Int)) × (List (Int × Int × Int))) × Bool)) (p2 : Int) (p3 : Int) : Option ((List (Int × (Int × (Int × Int × Int × Int) × (Int × Int × Int × Int)) × (List (Int × Int × Int)))) × Int × Int) := (C0 p0).bind fun x1 => Fu (AJ (DB p0 p1 p2 p3) (x1, 0)) fun x2 => some (x2, (-1), 0)
theorem G8 (Y : Nat → Prop) (w0 : World) (v1 : Value) (v2 : Value) (p0 : List (Int × (Int × (Int × Int × Int × Int) × (Int × Int × Int × Int)) × (List (Int × Int × Int)))) (p1 : List (Int × (Int × (Int × (Int × Int × Int × Int) × (Int × Int × Int × Int)) × (List (Int × Int × Int))) × Bool)) (p2 : Int) (p3 : Int) (r : (List (Int × (Int × (Int × Int × Int × Int) × (Int × Int × Int × Int)) × (List (Int × Int × Int)))) × Int × Int) (H : Ef p0 p1 p2 p3 = some r) (s_v1 : Sl w0 Y A5 v1 p0) (s_v2 : Sl w0 Y F2 v2 p1) :
    Calls Try.prog 22 #[v1, v2, .int .i64 p2, .int .i64 p3] w0 fun e w' => ∃ x : Value, e = .returned (.tuple #[x, .int .i64 r.2.1, .int .i64 r.2.2]) ∧ Stw ⟨Y, [], w0⟩ [] [BD (x) A5 r.1] w' := by
 refine enter Try.func22 Aa Try.ntmps22 Aa fun a W => ?_
 have F := Stw.start Y w0
 obtain ⟨v3, h1, s_v1⟩ := s_v1.ex BH
 obtain ⟨v4, h2, s_v2⟩ := s_v2.ex FW
 have h_v1 := F.nx s_v1
 have h_v2 := F.nx s_v2
 unfold Ef at H
 refine vc tk 10 W F fun a w W F => ?_
 obtain ⟨x1, h3, H⟩ := Ah H
 refine AB (Ml := []) (Zl := []) (β := {x : Value // HP x (((p0.length : Int)).toNat)}) (rv := fun x => x.1) (MM := fun x => []) (ZZ := fun x => [row x.1 37 A5 x1]) W F QY Aa Aa (fun hL => EQ _ w (v1) p0 _ h3 (Sl.hide BH h1 (F.old s_v1))) fun x a w W F => ?_
 obtain ⟨v5, rfl⟩ : ∃ y, y = x := ⟨x, rfl⟩
 have F : Stw ⟨Y, [], w0⟩ [] [row v5.1 37 A5 x1] w := F
 refine vl tk 2 W F fun a w W F => ?_
 refine Ad ?_
 obtain ⟨o1, G1, K1, L1⟩ := IZ H
 refine AC (fun a w => ∃ x2 : List (Int × (Int × (Int × Int × Int × Int) × (Int × Int × Int × Int)) × (List (Int × Int × Int))), ∃ v6 : Value, some (Sum.inl x2) = some o1 ∧ Fr 42 [] [(8, .slice none 0 0), (9, .int .i64 0), (10, .int .i64 0), (11, v6)] a ∧ Stw ⟨Y, [], w0⟩ [] [BD v6 A5 x2] w) ?_ ?_
 ·
  have H := G1
  clear G1 K1
  refine vc tk 3 W F fun a w W F => ?_
  refine ls W F Aa (BQ (r := F2) (l := p1) IB Aa W Aa (A6 FW h2 (Aj h_v2))).q fun a w W F => ?_
  refine BV tk 4 W F fun a w W F => ?_
  have F := F.freeze
  refine BI H (fun s a w => ∃ v7 : Value, Fr 42 [] [(0, v1), (2, .int .i64 p2), (3, .int .i64 p3), (8, .slice none 0 0), (9, .int .i64 0), (10, .int .i64 0), (11, v7), (18, v2), (19, .int .i64 (p1.length : Int)), (20, .int .i64 s.2)] a ∧ Stw ⟨Y, [], w0⟩ [] [BD v7 A5 s.1] w) ⟨(v5.1), W.ra Aa, F⟩ fun s o a w H L2 hR => ?_
  obtain ⟨x3, x4⟩ := s
  obtain ⟨v7, W, F⟩ := hR
  have W : Fr 42 [] [(0, v1), (2, .int .i64 p2), (3, .int .i64 p3), (8, .slice none 0 0), (9, .int .i64 0), (10, .int .i64 0), (11, v7), (18, v2), (19, .int .i64 (p1.length : Int)), (20, .int .i64 x4)] a := W
  have F : Stw ⟨Y, [], w0⟩ [] [BD v7 A5 x3] w := F
  rw [DB] at H
  refine vc tk 6 W F fun a w W F => ?_
  refine Br W Aa H (fun W H => ?_) fun W H => ?_
  ·
   refine E8 tk 5 W F fun a w W F => ?_
   obtain ⟨v8, h4, F⟩ := F.exF BH
   refine vc tk 2 W F fun a w W F => ?_
   obtain ⟨x5, h5, H⟩ := Ah H
   obtain ⟨v9, h6, h7⟩ := Ck h2 h5
   have h8 : Gj v9 = [.int .i64 x5.1, .int .i64 x5.2.1.1, .int .i64 x5.2.1.2.1.1, .int .i64 x5.2.1.2.1.2.1.1, .int .i64 x5.2.1.2.1.2.1.2.1, .int .i64 x5.2.1.2.1.2.1.2.2.1, .int .i64 x5.2.1.2.1.2.1.2.2.2, .int .i64 x5.2.1.2.1.2.2.1, .int .i64 x5.2.1.2.1.2.2.2.1, .int .i64 x5.2.1.2.1.2.2.2.2.1, .int .i64 x5.2.1.2.1.2.2.2.2.2, (v9.2.1.2.2.1), .bool x5.2.2] := congrArg (fun q : Int × (Int × (Int × (Int × Int × Int × Int) × (Int × Int × Int × Int)) × (List (Int × Int × Int))) × Bool => ([.int .i64 q.1, .int .i64 q.2.1.1, .int .i64 q.2.1.2.1.1, .int .i64 q.2.1.2.1.2.1.1, .int .i64 q.2.1.2.1.2.1.2.1, .int .i64 q.2.1.2.1.2.1.2.2.1, .int .i64 q.2.1.2.1.2.1.2.2.2, .int .i64 q.2.1.2.1.2.2.1, .int .i64 q.2.1.2.1.2.2.2.1, .int .i64 q.2.1.2.1.2.2.2.2.1, .int .i64 q.2.1.2.1.2.2.2.2.2, (v9.2.1.2.2.1), .bool q.2.2] : List Value)) h7
   refine ls W F Aa (A8 (r := Hp) NN W Aa Aa (Aj h_v2) h6).q fun a w W F => ?_
   refine ls W F Aa (AE (y := Value.agg #[.int .i64 x5.1, .int .i64 x5.2.1.1, .int .i64 x5.2.1.2.1.1, .int .i64 x5.2.1.2.1.2.1.1, .int .i64 x5.2.1.2.1.2.1.2.1, .int .i64 x5.2.1.2.1.2.1.2.2.1, .int .i64 x5.2.1.2.1.2.1.2.2.2, .int .i64 x5.2.1.2.1.2.2.1, .int .i64 x5.2.1.2.1.2.2.2.1, .int .i64 x5.2.1.2.1.2.2.2.2.1, .int .i64 x5.2.1.2.1.2.2.2.2.2, (v9.2.1.2.2.1), .bool x5.2.2]) (j := 0) (i := x4) (enc := Gj) W Aa Aa (Aj h_v2) h6 Kg I3 (by rw [h8]; rfl)).q fun a w W F => ?_
   refine Cn (cs := (Lz)) W F Aa Qg Aa fun b1 a w W F => ?_
   refine ls W F Aa (BK W Aa).q fun a w W F => ?_
   refine EJ 0 W F Aa Aa Aa I3 Aa Aa (Ac Aa (Ac Aa (Ac Aa (Ac Aa (Ac Aa (Ac Aa (Ac Aa (Ac Aa (Ac Aa (Ac Aa (Ac Aa (Ac ((Dr (Aj h_v2) h6 (Ay.snd (Ay.fst (Ay.snd (Ay.snd Ay.here)))) (congrArg (fun q : Int × (Int × (Int × (Int × Int × Int × Int) × (Int × Int × Int × Int)) × (List (Int × Int × Int))) × Bool => q.2.1.2.2) h7)) _ F).one (Ac Aa Ct))))))))))))) fun w F => ?_
   refine EY tk 8 [0] W F (ai fun a w W F => ?_)
   obtain ⟨x6, h9, H⟩ := Ah H
   refine AB (Ml := []) (Zl := []) (β := Value) (rv := fun x => .tuple #[x, .int .i64 x6.2]) (MM := fun x => []) (ZZ := fun x => [BD x A5 x6.1]) W F RM Aa Aa (fun hL => IR _ w (v7) ((v9.2.1.2.2.1)) x3 x5 p2 p3 _ h9 (Sl.hide BH h4 (F.item (i := 0) Aa)) (Sl.at_ (F.old s_v2) h6 (Ay.snd (Ay.fst (Ay.snd (Ay.snd Ay.here)))) (congrArg (fun q : Int × (Int × (Int × (Int × Int × Int × Int) × (Int × Int × Int × Int)) × (List (Int × Int × Int))) × Bool => q.2.1.2.2) h7))) fun x a w W F => ?_
   obtain ⟨v10, rfl⟩ : ∃ y, y = x := ⟨x, rfl⟩
   have F : Stw ⟨Y, [], w0⟩ [(b1, [.int .i64 x5.1, .int .i64 x5.2.1.1, .int .i64 x5.2.1.2.1.1, .int .i64 x5.2.1.2.1.2.1.1, .int .i64 x5.2.1.2.1.2.1.2.1, .int .i64 x5.2.1.2.1.2.1.2.2.1, .int .i64 x5.2.1.2.1.2.1.2.2.2, .int .i64 x5.2.1.2.1.2.2.1, .int .i64 x5.2.1.2.1.2.2.2.1, .int .i64 x5.2.1.2.1.2.2.2.2.1, .int .i64 x5.2.1.2.1.2.2.2.2.2, (v9.2.1.2.2.1), .bool x5.2.2])] [BD v10 A5 x6.1, BD v7 DU v8] w := F
   refine ls W F Aa (Am W Aa).q fun a w W F => ?_
   refine ls W F Aa (BE (v := v10) W Aa Aa).q fun a w W F => ?_
   refine ls W F Aa (BE (v := Value.int .i64 x6.2) W Aa Aa).q fun a w W F => ?_
   refine BV tk 11 W F fun a w W F => ?_
   refine Br W Aa H (fun W H => ?_) fun W H => ?_
   ·
    refine vc tk 3 W F fun a w W F => ?_
    obtain ⟨x7, h10, H⟩ := Ah H
    refine AB (Ml := []) (Zl := []) (β := {x : Value // HP x (((p0.length : Int)).toNat)}) (rv := fun x => x.1) (MM := fun x => []) (ZZ := fun x => [row x.1 37 A5 x7]) W F QY Aa Aa (fun hL => EQ _ w (v1) p0 _ h10 (Sl.hide BH h1 (F.old s_v1))) fun x a w W F => ?_
    obtain ⟨v11, rfl⟩ : ∃ y, y = x := ⟨x, rfl⟩
    have F : Stw ⟨Y, [], w0⟩ [(b1, [.int .i64 x5.1, .int .i64 x5.2.1.1, .int .i64 x5.2.1.2.1.1, .int .i64 x5.2.1.2.1.2.1.1, .int .i64 x5.2.1.2.1.2.1.2.1, .int .i64 x5.2.1.2.1.2.1.2.2.1, .int .i64 x5.2.1.2.1.2.1.2.2.2, .int .i64 x5.2.1.2.1.2.2.1, .int .i64 x5.2.1.2.1.2.2.2.1, .int .i64 x5.2.1.2.1.2.2.2.2.1, .int .i64 x5.2.1.2.1.2.2.2.2.2, (v9.2.1.2.2.1), .bool x5.2.2])] [row v11.1 37 A5 x7, BD v10 A5 x6.1, BD v7 DU v8] w := F
    refine BV tk 7 W F fun a w W F => ?_
    refine Al (Ap (Az ?_))
    iterate 2 refine Ap ?_
    refine Az (Ap ?_)
    have H := L2 _ H
    have H := L1 _ H
    have H := Aw H
    subst H
    refine OY (.inl Aa) W F Aa (Ak W Aa) (Ak W Aa) (Ak W Aa) ?_
    have F := F.freeze
    have F := F.sub (M' := []) (Z' := [BD v11.1 A5 x7]) (List.nil_sublist _) (List.Sublist.cons_cons _ (List.nil_sublist _))
    exact ⟨(v11.1), Aa, F⟩
   refine E8 tk 6 W F fun a w W F => ?_
   refine AV ?_
   refine vn tk 4 W F fun a w W F => ?_
   refine Ad ?_
   have F := F.sub (M' := []) (Z' := [BD v10 A5 x6.1]) (List.nil_sublist _) (List.Sublist.cons_cons _ (List.nil_sublist _))
   exact ⟨_, H, (v10), W.ra Aa, F⟩
  refine Bz ?_
  iterate 2 refine B7 ?_
  refine BC (Ad ?_)
  have H := L2 _ H
  exact ⟨_, (v7), H, W.ra Aa, F⟩
 rintro a w ⟨x2, v6, hj, W, F⟩
 have H := K1 _ hj
 clear hj G1 K1 L1
 refine vc tk 8 W F fun a w W F => ?_
 refine Al ?_
 have H := Aw H
 subst H
 refine OY (.inl Aa) W F Aa (Ak W Aa) (Ak W Aa) (Ak W Aa) ?_
 exact ⟨(v6), Aa, F⟩
theorem Rr : Has Try.prog 22 := B3 Try.func22
noncomputable def Cj (p0 : Int × List (Bool × (Int × (Int × (Int × (Int × Int × Int × Int) × (Int × Int × Int × Int)) × (List (Int × Int × Int))) × Bool))) (p1 : List (Int × (Int × (Int × Int × Int × Int) × (Int × Int × Int × Int)) × (List (Int × Int × Int)))) (p2 : Int) (p3 : Int) : Option ((List (Int × (Int × (Int × Int × Int × Int) × (Int × Int × Int × Int)) × (List (Int × Int × Int)))) × Int) := (AF p0).bind fun x1 => (Ef p1 x1 p2 p3).bind fun x2 => (if (Ai p0) ≠ 1 then some (x2.1, 16) else some (x2.1, x2.2.2))
theorem FV (Y : Nat → Prop) (X : List Nat) (w0 : World) (q_p0 : Nat) (v1 : Value) (p0 : Int × List (Bool × (Int × (Int × (Int × (Int × Int × Int × Int) × (Int × Int × Int × Int)) × (List (Int × Int × Int))) × Bool))) (p1 : List (Int × (Int × (Int × Int × Int × Int) × (Int × Int × Int × Int)) × (List (Int × Int × Int)))) (p2 : Int) (p3 : Int) (r : (List (Int × (Int × (Int × Int × Int × Int) × (Int × Int × Int × Int)) × (List (Int × Int × Int)))) × Int) (H : Cj p0 p1 p2 p3 = some r) (s_v1 : Sl w0 Y A5 v1 p1) (hL : Stw ⟨Y, X, w0⟩ [] [Be q_p0 Bn 16 p0] w0) :
    Calls Try.prog 33 #[.pointer (some ⟨q_p0, 0, none⟩), v1, .int .i64 p2, .int .i64 p3] w0 fun e w' => ∃ x : Value, e = .returned (.tuple #[x, .int .i64 r.2]) ∧ Stw ⟨Y, X, w0⟩ [] [Be q_p0 Bn 16 p0, BD (x) A5 r.1] w' := by
 refine enter Try.func33 Aa Try.ntmps33 Aa fun a W => ?_
 have F := hL
 obtain ⟨v2, h1, s_v1⟩ := s_v1.ex BH
 have h_v1 := F.nx s_v1
 unfold Cj at H
 refine vc tk 10 W F fun a w W F => ?_
 obtain ⟨x1, h2, H⟩ := Ah H
 refine AB (Ml := []) (Zl := [Be q_p0 Bn 16 p0]) (β := Value) (rv := fun x => x) (MM := fun x => []) (ZZ := fun x => [Be q_p0 Bn 16 p0, row x 39 F2 x1]) W F QP Aa Aa (fun hL => Dp _ _ w q_p0 p0 _ h2 hL) fun x a w W F => ?_
 obtain ⟨v3, rfl⟩ : ∃ y, y = x := ⟨x, rfl⟩
 have F : Stw ⟨Y, X, w0⟩ [] [Be q_p0 Bn 16 p0, row v3 39 F2 x1] w := F
 refine vl tk 2 W F fun a w W F => ?_
 obtain ⟨x2, h3, H⟩ := Ah H
 have F := F.frontZ (i := 1) Aa Aa
 have F := F.freeze
 refine AB (Ml := []) (Zl := []) (β := Value) (rv := fun x => .tuple #[x, .int .i64 x2.2.1, .int .i64 x2.2.2]) (MM := fun x => []) (ZZ := fun x => [BD x A5 x2.1]) W F Rr Aa Aa (fun hL => G8 _ w (v1) (v3) p1 x1 p2 p3 _ h3 (Sl.hide BH h1 (F.old s_v1)) (F.item (i := 0) Aa)) fun x a w W F => ?_
 obtain ⟨v4, rfl⟩ : ∃ y, y = x := ⟨x, rfl⟩
 have F : Stw ⟨Y, X, w0⟩ [] [BD v4 A5 x2.1, BD v3 F2 x1, Be q_p0 Bn 16 p0] w := F
 refine ls W F Aa (Am W Aa).q fun a w W F => ?_
 refine ls W F Aa (BE (v := v4) W Aa Aa).q fun a w W F => ?_
 refine ls W F Aa (BE (v := Value.int .i64 x2.2.1) W Aa Aa).q fun a w W F => ?_
 refine ls W F Aa (BE (v := Value.int .i64 x2.2.2) W Aa Aa).q fun a w W F => ?_
 refine BV tk 9 W F fun a w W F => ?_
 have F := F.frontZ (i := 2) Aa Aa
 refine AB (Ml := []) (Zl := [Be q_p0 Bn 16 p0]) (β := Unit) (rv := fun x => .int .i64 (Ai p0)) (MM := fun x => []) (ZZ := fun x => [Be q_p0 Bn 16 p0]) W F N4 Aa Aa (fun hL => Bj _ _ w q_p0 p0 _ Aa hL) fun x a w W F => ?_
 have F : Stw ⟨Y, X, w0⟩ [] [Be q_p0 Bn 16 p0, BD v4 A5 x2.1, BD v3 F2 x1] w := F
 refine BV tk 3 W F fun a w W F => ?_
 refine Br W Aa H (fun W H => ?_) fun W H => ?_
 ·
  refine vc tk 7 W F fun a w W F => ?_
  refine Al (Ap ?_)
  have H := Aw H
  subst H
  refine DN (.inl Aa) W F Aa (Ak W Aa) (Ak W Aa) ?_
  have F := F.frontZ (i := 1) Aa Aa
  have F := F.frontZ (i := 1) Aa Aa
  have F := F.sub (M' := []) (Z' := [Be q_p0 Bn 16 p0, BD v4 A5 x2.1]) (List.Sublist.refl _) (List.Sublist.cons_cons _ (List.Sublist.cons_cons _ (List.nil_sublist _)))
  exact ⟨(v4), Aa, F⟩
 refine E8 tk 10 W F fun a w W F => ?_
 refine Al ?_
 have H := Aw H
 subst H
 refine DN (.inl Aa) W F Aa (Ak W Aa) (Ak W Aa) ?_
 have F := F.frontZ (i := 1) Aa Aa
 have F := F.frontZ (i := 1) Aa Aa
 have F := F.sub (M' := []) (Z' := [Be q_p0 Bn 16 p0, BD v4 A5 x2.1]) (List.Sublist.refl _) (List.Sublist.cons_cons _ (List.Sublist.cons_cons _ (List.nil_sublist _)))
 exact ⟨(v4), Aa, F⟩
theorem RV : Has Try.prog 33 := B3 Try.func33
noncomputable def Cy (p0 : Int × Int × (List (Int × (Int × (Int × (Int × (Int × Int × Int × Int) × (Int × Int × Int × Int)) × (List (Int × Int × Int))) × Bool)))) : ((List (Int × (Int × (Int × (Int × Int × Int × Int) × (Int × Int × Int × Int)) × (List (Int × Int × Int))) × Bool)) × Int) → Option (((List (Int × (Int × (Int × (Int × Int × Int × Int) × (Int × Int × Int × Int)) × (List (Int × Int × Int))) × Bool)) × Int) ⊕ (List (Int × (Int × (Int × (Int × Int × Int × Int) × (Int × Int × Int × Int)) × (List (Int × Int × Int))) × Bool)))
  | (x2, x3) => (if (decide (p0.1 = 1) && decide (x3 < p0.2.1)) = true then (EP p0 x3).bind fun x4 => (Jb x2 ([x4.1] : List (Int × (Int × (Int × (Int × Int × Int × Int) × (Int × Int × Int × Int)) × (List (Int × Int × Int))) × Bool))).bind fun x5 => some (.inl (x5, Cs (x3 + 1))) else some (.inr x2))
noncomputable def CD (p0 : Int × Int × (List (Int × (Int × (Int × (Int × (Int × Int × Int × Int) × (Int × Int × Int × Int)) × (List (Int × Int × Int))) × Bool)))) : Option (List (Int × (Int × (Int × (Int × Int × Int × Int) × (Int × Int × Int × Int)) × (List (Int × Int × Int))) × Bool)) := (AJ (Cy p0) ([], 0)).bind fun x1 => some x1
noncomputable def Cw (p0 : Int × (Int × Int × Int × Int) × (Int × Int × Int × Int)) (p1 : Int × (Int × Int × Int × Int) × (Int × Int × Int × Int)) (x10 : Int) : (Int × Int × Int × Int × Int × Int × Int × Int × Int × Int) → Option ((Int × Int × Int × Int × Int × Int × Int × Int × Int × Int) ⊕ ((Int × Int × Int × Int × Int × Int × Int × Int) ⊕ ((Int × Int × Int × Int × Int × Int × Int × Int × Int) ⊕ ((Int × Int × Int × Int × Int × Int × Int × Int) ⊕ ((Int × (Int × Int × Int × Int) × (Int × Int × Int × Int)) × Bool)))))
  | (x27, x28, x29, x30, x31, x32, x33, x34, x35, x36) => (if x28 < 8 then ((ix ([p1.2.2.1, p1.2.2.2.1, p1.2.2.2.2.1, p1.2.2.2.2.2] : List Int) x10).bind fun x38 => (CH x38 x28).bind fun x39 => (if x39 = 1 then (ix ([p0.2.2.1, p0.2.2.2.1, p0.2.2.2.2.1, p0.2.2.2.2.2] : List Int) x10).bind fun x40 => (CH x40 x28).bind fun x41 => (if x41 = 1 then (ix ([p0.2.1.1, p0.2.1.2.1, p0.2.1.2.2.1, p0.2.1.2.2.2] : List Int) x10).bind fun x42 => (CH x42 x28).bind fun x43 => (ix ([p1.2.1.1, p1.2.1.2.1, p1.2.1.2.2.1, p1.2.1.2.2.2] : List Int) x10).bind fun x44 => (CH x44 x28).bind fun x45 => some (decide (x43 ≠ x45)) else some false) else some false)).bind fun x37 => (if x37 = true then some (.inr (.inr (.inr (.inr ((0, (0, 0, 0, 0), (0, 0, 0, 0)), false))))) else (((ix ([p1.2.2.1, p1.2.2.2.1, p1.2.2.2.2.1, p1.2.2.2.2.2] : List Int) x10).bind fun x55 => (CH x55 x28).bind fun x56 => (if x56 = 1 then (ix ([p0.2.2.1, p0.2.2.2.1, p0.2.2.2.2.1, p0.2.2.2.2.2] : List Int) x10).bind fun x57 => (CH x57 x28).bind fun x58 => some (decide (x58 = 0)) else some false)).bind fun x54 => (if x54 = true then (ix ([x33, x34, x35, x36] : List Int) x10).bind fun x59 => (ix ([x33, x34, x35, x36] : List Int) x10).bind fun x60 => (ix ([x29, x30, x31, x32] : List Int) x10).bind fun x61 => (ix ([p1.2.1.1, p1.2.1.2.1, p1.2.1.2.2.1, p1.2.1.2.2.2] : List Int) x10).bind fun x62 => (CH x62 x28).bind fun x63 => (ix ([x29, x30, x31, x32] : List Int) x10).bind fun x64 => some ((if x10 = 0 then Cs (x61 + (Cs (x27 * x63))) else x29), (if x10 = 1 then Cs (x61 + (Cs (x27 * x63))) else x30), (if x10 = 2 then Cs (x61 + (Cs (x27 * x63))) else x31), (if x10 = 3 then Cs (x61 + (Cs (x27 * x63))) else x32), (if x10 = 0 then Cs (x59 + x27) else x33), (if x10 = 1 then Cs (x59 + x27) else x34), (if x10 = 2 then Cs (x59 + x27) else x35), (if x10 = 3 then Cs (x59 + x27) else x36)) else some (x29, x30, x31, x32, x33, x34, x35, x36))).bind fun (x46, x47, x48, x49, x50, x51, x52, x53) => some (.inl (Cs (x27 * 2), Cs (x28 + 1), x46, x47, x48, x49, x50, x51, x52, x53))) else some (.inr (.inl (x29, x30, x31, x32, x33, x34, x35, x36))))
noncomputable def Em (p0 : Int × (Int × Int × Int × Int) × (Int × Int × Int × Int)) (p1 : Int × (Int × Int × Int × Int) × (Int × Int × Int × Int)) : (Int × Int × Int × Int × Int × Int × Int × Int × Int) → Option ((Int × Int × Int × Int × Int × Int × Int × Int × Int) ⊕ ((Int × Int × Int × Int × Int × Int × Int × Int) ⊕ ((Int × (Int × Int × Int × Int) × (Int × Int × Int × Int)) × Bool)))
  | (x10, x11, x12, x13, x14, x15, x16, x17, x18) => (if x10 < 4 then Fu (AJ (Cw p0 p1 x10) (1, 0, x11, x12, x13, x14, x15, x16, x17, x18)) fun (x19, x20, x21, x22, x23, x24, x25, x26) => some (.inl (Cs (x10 + 1), x19, x20, x21, x22, x23, x24, x25, x26)) else some (.inr (.inl (x11, x12, x13, x14, x15, x16, x17, x18))))
noncomputable def Iw (p0 : Int × (Int × Int × Int × Int) × (Int × Int × Int × Int)) (p1 : Int × (Int × Int × Int × Int) × (Int × Int × Int × Int)) : Option ((Int × (Int × Int × Int × Int) × (Int × Int × Int × Int)) × Bool) := (if p0.1 = (-1) then some p1.1 else some p0.1).bind fun x1 => (if (decide (p1.1 ≠ (-1)) && decide (x1 ≠ p1.1)) = true then some ((0, (0, 0, 0, 0), (0, 0, 0, 0)), false) else Fu (AJ (Em p0 p1) (0, p0.2.1.1, p0.2.1.2.1, p0.2.1.2.2.1, p0.2.1.2.2.2, p0.2.2.1, p0.2.2.2.1, p0.2.2.2.2.1, p0.2.2.2.2.2)) fun (x2, x3, x4, x5, x6, x7, x8, x9) => some ((x1, (x2, x3, x4, x5), (x6, x7, x8, x9)), true))
noncomputable def FM (p0 : Int × (Int × (Int × Int × Int × Int) × (Int × Int × Int × Int)) × (List (Int × Int × Int))) (p1 : Int × (Int × (Int × Int × Int × Int) × (Int × Int × Int × Int)) × (List (Int × Int × Int))) : Option Bool := (if (decide (p0.1 ≠ p1.1) || decide (p0.2.1.1 = p1.2.1.1 ∧ p0.2.1.2.1.1 = p1.2.1.2.1.1 ∧ p0.2.1.2.1.2.1 = p1.2.1.2.1.2.1 ∧ p0.2.1.2.1.2.2.1 = p1.2.1.2.1.2.2.1 ∧ p0.2.1.2.1.2.2.2 = p1.2.1.2.1.2.2.2 ∧ p0.2.1.2.2.1 = p1.2.1.2.2.1 ∧ p0.2.1.2.2.2.1 = p1.2.1.2.2.2.1 ∧ p0.2.1.2.2.2.2.1 = p1.2.1.2.2.2.2.1 ∧ p0.2.1.2.2.2.2.2 = p1.2.1.2.2.2.2.2)) = true then some false else (Iw p0.2.1 p1.2.1).bind fun x1 => some x1.2)
end Go.Proofs.Ytfnmlmglmegamaa
