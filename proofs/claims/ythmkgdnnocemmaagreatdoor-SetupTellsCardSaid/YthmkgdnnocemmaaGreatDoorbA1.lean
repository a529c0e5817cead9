/- The functions of layer 40, GQ. Conditions: none. -/
import Derived.Test.YthmkgdnnocemmaaGreatDoorbA0
namespace Go.Proofs.YthmkgdnnocemmaaGreatDoor
open Go Go.RowKit
set_option linter.unusedVariables false
set_option linter.unusedSimpArgs false
set_option maxRecDepth 20000
theorem RH : type_of% Tryz.underlying20 := Tryz.underlying20
theorem T6 : Has Tryz.prog 13 := ⟨fun args w => Af Tryz.func13 rfl (by decide) args w⟩
theorem Lz : Ty Tryz.prog 32 false 1 := ⟨by kernel_rfl, by kernel_rfl⟩
abbrev Dr  : List Value := [.int .i64 0, .slice none 0 0, .slice none 0 0, .slice none 0 0, .slice none 0 0, .int .i64 0, .int .i64 0, .int .i64 0, .int .i64 0, .int .i64 0, .int .i64 0]
def Ab (p0 : (Int × (List (Int × Int × Int × Int × Int × Int)) × (List (Int × Int))) × List (List Int) × List Int × Int × Int × Int × Int × Int × Int) (p1 : Int) (p2 : Int) (pc : Int) : ((Int × (List (Int × Int × Int × Int × Int × Int)) × (List (Int × Int))) × List (List Int) × List Int × Int × Int × Int × Int × Int × Int) × Int × Int := (((0, ([] : List (Int × Int × Int × Int × Int × Int)), ([] : List (Int × Int))), ([] : List (List Int)), ([] : List Int), 0, 0, 0, 0, 0, 0), (BV pc), 10)
theorem AH (Y : Nat → Prop) (X : List Nat) (w0 : World) (q_p0 : Nat) (v1 : Value) (v2 : Value) (v3 : Value) (v4 : Value) (q_p1 : Nat) (q_p2 : Nat) (p0 : (Int × (List (Int × Int × Int × Int × Int × Int)) × (List (Int × Int))) × List (List Int) × List Int × Int × Int × Int × Int × Int × Int) (p1 : Int) (p2 : Int) (pc : Int) (r : ((Int × (List (Int × Int × Int × Int × Int × Int)) × (List (Int × Int))) × List (List Int) × List Int × Int × Int × Int × Int × Int × Int) × Int × Int) (H : Ab p0 p1 p2 pc = r) (hL : Stw ⟨Y, X, w0⟩ [(q_p0, [.int .i64 p0.1.1, v1, v2, v3, v4, .int .i64 p0.2.2.2.1, .int .i64 p0.2.2.2.2.1, .int .i64 p0.2.2.2.2.2.1, .int .i64 p0.2.2.2.2.2.2.1, .int .i64 p0.2.2.2.2.2.2.2.1, .int .i64 p0.2.2.2.2.2.2.2.2]), (q_p1, [.int .i64 p1]), (q_p2, [.int .i64 p2])] [row v1 50 AV p0.1.2.1, row v2 52 A3 p0.1.2.2, row v3 40 (Rp.slice (Rp.int .u64)) p0.2.1, row v4 3 (Rp.int .i64) p0.2.2.1] w0) :
    CallsD Tryz.prog 12 #[.pointer (some ⟨q_p0, 0, none⟩), .pointer (some ⟨q_p1, 0, none⟩), .pointer (some ⟨q_p2, 0, none⟩)] (.panicking ({ v := .iface 81 (.agg #[.int .i64 pc]), recovered := false } :: [])) w0 fun e u' w' => u' = .panicking ({ v := .iface 81 (.agg #[.int .i64 pc]), recovered := true } :: []) ∧ (∃ x : Value × Value × Value × Value, e = .returned (.tuple #[]) ∧ Stw ⟨Y, X, w0⟩ [(q_p0, [.int .i64 r.1.1.1, x.1, x.2.1, x.2.2.1, x.2.2.2, .int .i64 r.1.2.2.2.1, .int .i64 r.1.2.2.2.2.1, .int .i64 r.1.2.2.2.2.2.1, .int .i64 r.1.2.2.2.2.2.2.1, .int .i64 r.1.2.2.2.2.2.2.2.1, .int .i64 r.1.2.2.2.2.2.2.2.2]), (q_p1, [.int .i64 r.2.1]), (q_p2, [.int .i64 r.2.2])] [row (x.1) 50 AV r.1.1.2.1, row (x.2.1) 52 A3 r.1.1.2.2, row (x.2.2.1) 40 (Rp.slice (Rp.int .u64)) r.1.2.1, row (x.2.2.2) 3 (Rp.int .i64) r.1.2.2.1] w') := by
 refine Kc Tryz.func12 Aa Tryz.ntmps12 Aa Aa Aa fun a F => ?_
 have W := hL
 unfold Ab at H
 refine vc tk 3 F W fun a w F W => ?_
 refine ls F W Aa (Ff RH F Aa).q fun a w F W => ?_
 refine C5 tk 4 F W fun a w F W => ?_
 refine ls F W Aa (Fa (v := Value.agg #[.int .i64 0, .slice none 0 0, .slice none 0 0, .slice none 0 0, .slice none 0 0, .int .i64 0, .int .i64 0, .int .i64 0, .int .i64 0, .int .i64 0, .int .i64 0]) SW F Aa Aa Aa).q fun a w F W => ?_
 refine ls F W Aa (Am F Aa).q fun a w F W => ?_
 refine ls F W Aa (AE (v := Value.int .i64 (BV pc)) F T6 Aa (fun w W => JM any w pc _ Aa)) fun a w F W => ?_
 refine Bg (vs := (Dr)) (M' := [(q_p0, (Dr)), (q_p1, [.int .i64 p1]), (q_p2, [.int .i64 p2])]) 0 F W Aa Aa Aa ET Aa Aa Aa Aa Aa fun w W => ?_
 refine Bg (vs := [.int .i64 (BV pc)]) (M' := [(q_p0, (Dr)), (q_p1, [.int .i64 (BV pc)]), (q_p2, [.int .i64 p2])]) 1 F W Aa Aa Aa T3 Aa Aa Aa Aa Aa fun w W => ?_
 refine Bg (vs := [.int .i64 10]) (M' := [(q_p0, (Dr)), (q_p1, [.int .i64 (BV pc)]), (q_p2, [.int .i64 10])]) 2 F W Aa Aa Aa Lz Aa Aa Aa Aa Aa fun w W => ?_
 refine CJ ?_
 subst H
 refine Nu (.inr Aa) F Aa ?_
 have W := W.nilRow 50 AV
 have W := W.nilRow 52 A3
 have W := W.nilRow 40 (Rp.slice (Rp.int .u64))
 have W := W.nilRow 3 (Rp.int .i64)
 have W := W.frontZ (i := 1) Aa Aa
 have W := W.frontZ (i := 2) Aa Aa
 have W := W.frontZ (i := 3) Aa Aa
 have W := W.frontM (i := 2) Aa Aa
 have W := W.frontM (i := 2) Aa Aa
 have W := W.frontM (i := 2) Aa Aa
 have W := W.sub (M' := [(q_p0, (Dr)), (q_p1, [.int .i64 (BV pc)]), (q_p2, [.int .i64 10])]) (Z' := [row (Value.slice none 0 0) 50 AV ([]), row (Value.slice none 0 0) 52 A3 ([]), row (Value.slice none 0 0) 40 (Rp.slice (Rp.int .u64)) ([]), row (Value.slice none 0 0) 3 (Rp.int .i64) ([])]) (List.Sublist.refl _) (List.Sublist.cons_cons _ (List.Sublist.cons_cons _ (List.Sublist.cons_cons _ (List.Sublist.cons_cons _ (List.nil_sublist _)))))
 exact ⟨((Value.slice none 0 0), (Value.slice none 0 0), (Value.slice none 0 0), (Value.slice none 0 0)), Aa, W⟩
theorem Mx : Has Tryz.prog 12 := ⟨fun args w => Af Tryz.func12 rfl (by decide) args w⟩
theorem S8 : Bt Tryz.prog 52 [.int .i64 0, .int .i64 0] [(0, 1), (1, 1)] := ⟨⟨.agg #[.int .i64 0, .int .i64 0], by kernel_rfl, rfl⟩, ⟨_, P4, fun w => by kernel_rfl⟩⟩
theorem LE : (Tryz.prog.underlying 108).map (fun d => match d with | .interface _ => true | _ => false) = some false := by kernel_rfl
def Ad (p0 : Int) : Int := Sj .u8 p0 32
theorem AD (Y : Nat → Prop) (w0 : World)  (p0 : Int) (r : Int) (H : Ad p0 = r)  :
    Calls Tryz.prog 74 #[.int .u8 p0] w0 fun e w' => e = .returned (.int .u8 r) ∧ Below w0.heap.size w0 w' := by
 refine enter Tryz.func74 Aa Tryz.ntmps74 Aa fun a F => ?_
 have W := Stw.start Y w0
 unfold Ad at H
 refine vc tk 12 F W fun a w F W => ?_
 refine Ax ?_
 subst H
 refine BB (.inl Aa) F W Aa (Ao F Aa) ?_
 exact ⟨rfl, W.done⟩
theorem Nq : Has Tryz.prog 74 := ⟨fun args w => Af Tryz.func74 rfl (by decide) args w⟩
theorem Ub : Et Tryz.prog 63 5 1 1 := Et.of Qp (by kernel_rfl) (by kernel_rfl) (by kernel_rfl) (by decide)
noncomputable def B1 (x1 : List UInt8) : (Int × Int × Bool) → Option ((Int × Int × Bool) ⊕ (Int ⊕ Bool))
  | (x16, x17, x18) => (if x17 < (x1.length : Int) then ES (((ix x1 x17).bind fun x23 => (if 48 ≤ (x23.toNat : Int) then (ix x1 x17).bind fun x24 => (if (x24.toNat : Int) ≤ 57 then some (x18, true) else (if x18 = true then (ix x1 x17).bind fun x25 => (if 97 ≤ (Ad (x25.toNat : Int)) then (ix x1 x17).bind fun x26 => some (true, decide ((Ad (x26.toNat : Int)) ≤ 102)) else some (true, false)) else some (false, false))) else (if x18 = true then (ix x1 x17).bind fun x27 => (if 97 ≤ (Ad (x27.toNat : Int)) then (ix x1 x17).bind fun x28 => some (true, decide ((Ad (x28.toNat : Int)) ≤ 102)) else some (true, false)) else some (false, false)))).bind fun (x21, x22) => (if x22 = true then some (.inl ((48 : Int), x21)) else (ix x1 x17).bind fun x29 => (if (x29.toNat : Int) = 95 then (if x16 ≠ 48 then some (.inr (.inr (.inr false))) else some (.inl ((95 : Int), x21))) else (if x16 = 95 then some (.inr (.inr (.inr false))) else some (.inl ((33 : Int), x21)))))) fun (x19, x20) => some (.inl (x19, BD (x17 + 1), x20)) else some (.inr (.inl x16)))
noncomputable def BU (p0 : List UInt8) : Option Bool := ((if 1 ≤ (p0.length : Int) then (ix p0 0).bind fun x3 => (if (x3.toNat : Int) = 45 then some true else (ix p0 0).bind fun x4 => some (decide ((x4.toNat : Int) = 43))) else some false).bind fun x2 => (if x2 = true then (D3 p0 1 (p0.length : Int)).bind fun x5 => some x5 else some p0)).bind fun x1 => ((if 2 ≤ (x1.length : Int) then (ix x1 0).bind fun x10 => (if (x10.toNat : Int) = 48 then (ix x1 1).bind fun x11 => (if (Ad (x11.toNat : Int)) = 98 then some true else (ix x1 1).bind fun x12 => (if (Ad (x12.toNat : Int)) = 111 then some true else (ix x1 1).bind fun x13 => some (decide ((Ad (x13.toNat : Int)) = 120)))) else some false) else some false).bind fun x9 => (if x9 = true then (ix x1 1).bind fun x14 => some ((48 : Int), (2 : Int), decide ((Ad (x14.toNat : Int)) = 120)) else some ((94 : Int), (0 : Int), false))).bind fun (x6, x7, x8) => ES (Av (B1 x1) (x6, x7, x8)) fun x15 => some (decide (x15 ≠ 95))
theorem EU (Y : Nat → Prop) (w0 : World)  (p0 : List UInt8) (r : Bool) (H : BU p0 = some r)  :
    Calls Tryz.prog 75 #[.string (bs p0)] w0 fun e w' => e = .returned (.bool r) ∧ Below w0.heap.size w0 w' := by
 refine enter Tryz.func75 Aa Tryz.ntmps75 Aa fun a F => ?_
 have W := Stw.start Y w0
 unfold BU at H
 refine vc tk 15 F W fun a w F W => ?_
 obtain ⟨o1, G1, K1⟩ := Ae H
 refine Aw (fun a w => ∃ x1 : List UInt8, some (x1) = some o1 ∧ Fr 94 [] [(0, .string (bs x1)), (2, .bool false), (3, .int .i32 94), (4, .int .i64 0)] a ∧ Stw ⟨Y, [], w0⟩ [] [] w) ?_ ?_
 ·
  have H := G1
  clear G1 K1
  obtain ⟨o2, G2, K2⟩ := Ae H
  refine Aw (fun a w => ∃ x2 : Bool, some (x2) = some o2 ∧ Fr 94 [] [(0, .string (bs p0)), (2, .bool false), (3, .int .i32 94), (4, .int .i64 0), (18, .bool x2)] a ∧ Stw ⟨Y, [], w0⟩ [] [] w) ?_ ?_
  ·
   have H := G2
   clear G2 K2
   refine vc tk 2 F W fun a w F W => ?_
   refine ls F W Aa (Eh (l := p0) Eu Aa F Aa).q fun a w F W => ?_
   refine vl tk 2 F W fun a w F W => ?_
   rcases Bool.eq_false_or_eq_true (decide (1 ≤ (p0.length : Int))) with hb | hb
   ·
    have H := Cu (Dc hb) H
    rw [hb] at F
    clear hb
    refine Cw F W (Ag F Aa Aa Aa Aa) Aa (Bi Aa) (Am F Aa).q fun a w F W => ?_
    obtain ⟨x3, h1, H⟩ := Ae H
    refine Cw F W (Ag F Aa Aa Aa Aa) Aa (Bi Aa) (Bn (l := p0) Eu F Aa Aa h1).q fun a w F W => ?_
    refine vl tk 2 F W fun a w F W => ?_
    rcases Bool.eq_false_or_eq_true (decide ((x3.toNat : Int) = 45)) with hb | hb
    ·
     have H := Cu (Dc hb) H
     rw [hb] at F
     clear hb
     refine vl tk 6 F W fun a w F W => ?_
     refine Ac ?_
     exact ⟨_, H, F.ra Aa, W⟩
    have H := Ct (Db hb) H
    rw [hb] at F
    clear hb
    refine Cw F W (Ag F Aa Aa Aa Aa) Aa (Bi Aa) (Am F Aa).q fun a w F W => ?_
    obtain ⟨x4, h2, H⟩ := Ae H
    refine Cw F W (Ag F Aa Aa Aa Aa) Aa (Bi Aa) (Bn (l := p0) Eu F Aa Aa h2).q fun a w F W => ?_
    refine vl tk 4 F W fun a w F W => ?_
    refine Ac ?_
    exact ⟨_, H, F.ra Aa, W⟩
   have H := Ct (Db hb) H
   rw [hb] at F
   clear hb
   refine vl tk 10 F W fun a w F W => ?_
   refine Ac ?_
   exact ⟨_, H, F.ra Aa, W⟩
  rintro a w ⟨x2, hj, F, W⟩
  have hj := AA hj
  subst hj
  have H := K2
  clear G2 K2
  refine B2 F Aa H (fun F H => ?_) fun F H => ?_
  ·
   refine vc tk 2 F W fun a w F W => ?_
   obtain ⟨x5, h3, H⟩ := Ae H
   refine ls F W Aa (D7 (l := p0) Eu F Aa Aa Aa h3).q fun a w F W => ?_
   refine vl tk 2 F W fun a w F W => ?_
   refine Ac ?_
   exact ⟨_, H, F.ra Aa, W⟩
  refine Bp (Ac ?_)
  exact ⟨_, H, F.ra Aa, W⟩
 rintro a w ⟨x1, hj, F, W⟩
 have hj := AA hj
 subst hj
 have H := K1
 clear G1 K1
 refine vc tk 5 F W fun a w F W => ?_
 obtain ⟨o3, G3, K3⟩ := Ae H
 refine Aw (fun a w => ∃ x6 : Int, ∃ x7 : Int, ∃ x8 : Bool, some ((x6, x7, x8)) = some o3 ∧ Fr 94 [] [(0, .string (bs x1)), (2, .bool false), (3, .int .i32 x6), (4, .int .i64 x7), (5, .bool x8)] a ∧ Stw ⟨Y, [], w0⟩ [] [] w) ?_ ?_
 ·
  have H := G3
  clear G3 K3
  obtain ⟨o4, G4, K4⟩ := Ae H
  refine Aw (fun a w => ∃ x9 : Bool, some (x9) = some o4 ∧ Fr 94 [] [(0, .string (bs x1)), (2, .bool false), (3, .int .i32 94), (4, .int .i64 0), (5, .bool false), (46, .bool x9)] a ∧ Stw ⟨Y, [], w0⟩ [] [] w) ?_ ?_
  ·
   have H := G4
   clear G4 K4
   refine vc tk 2 F W fun a w F W => ?_
   refine ls F W Aa (Eh (l := x1) Eu Aa F Aa).q fun a w F W => ?_
   refine vl tk 2 F W fun a w F W => ?_
   rcases Bool.eq_false_or_eq_true (decide (2 ≤ (x1.length : Int))) with hb | hb
   ·
    have H := Cu (Dc hb) H
    rw [hb] at F
    clear hb
    refine Cw F W (Ag F Aa Aa Aa Aa) Aa (Bi Aa) (Am F Aa).q fun a w F W => ?_
    obtain ⟨x10, h4, H⟩ := Ae H
    refine Cw F W (Ag F Aa Aa Aa Aa) Aa (Bi Aa) (Bn (l := x1) Eu F Aa Aa h4).q fun a w F W => ?_
    refine vl tk 3 F W fun a w F W => ?_
    rcases Bool.eq_false_or_eq_true (decide ((x10.toNat : Int) = 48)) with hb | hb
    ·
     have H := Cu (Dc hb) H
     rw [hb] at F
     clear hb
     refine Cw F W (Ag F Aa Aa Aa Aa) Aa (Bi Aa) (Am F Aa).q fun a w F W => ?_
     obtain ⟨x11, h5, H⟩ := Ae H
     refine Cw F W (Ag F Aa Aa Aa Aa) Aa (Bi Aa) (Bn (l := x1) Eu F Aa Aa h5).q fun a w F W => ?_
     refine E5 (Ag F Aa Aa Aa Aa) ?_
     refine ls F W Aa (AE (v := Value.int .u8 (Ad (x11.toNat : Int))) F Nq Aa (fun w W => AD any w (x11.toNat : Int) _ Aa)) fun a w F W => ?_
     refine vl tk 2 F W fun a w F W => ?_
     rcases Bool.eq_false_or_eq_true (decide ((Ad (x11.toNat : Int)) = 98)) with hb | hb
     ·
      have H := Cu (Dc hb) H
      rw [hb] at F
      clear hb
      refine vl tk 13 F W fun a w F W => ?_
      refine Ac ?_
      exact ⟨_, H, F.ra Aa, W⟩
     have H := Ct (Db hb) H
     rw [hb] at F
     clear hb
     refine Cw F W (Ag F Aa Aa Aa Aa) Aa (Bi Aa) (Am F Aa).q fun a w F W => ?_
     obtain ⟨x12, h6, H⟩ := Ae H
     refine Cw F W (Ag F Aa Aa Aa Aa) Aa (Bi Aa) (Bn (l := x1) Eu F Aa Aa h6).q fun a w F W => ?_
     refine E5 (Ag F Aa Aa Aa Aa) ?_
     refine ls F W Aa (AE (v := Value.int .u8 (Ad (x12.toNat : Int))) F Nq Aa (fun w W => AD any w (x12.toNat : Int) _ Aa)) fun a w F W => ?_
     refine vl tk 3 F W fun a w F W => ?_
     rcases Bool.eq_false_or_eq_true (decide ((Ad (x12.toNat : Int)) = 111)) with hb | hb
     ·
      have H := Cu (Dc hb) H
      rw [hb] at F
      clear hb
      refine vl tk 7 F W fun a w F W => ?_
      refine Ac ?_
      exact ⟨_, H, F.ra Aa, W⟩
     have H := Ct (Db hb) H
     rw [hb] at F
     clear hb
     refine Cw F W (Ag F Aa Aa Aa Aa) Aa (Bi Aa) (Am F Aa).q fun a w F W => ?_
     obtain ⟨x13, h7, H⟩ := Ae H
     refine Cw F W (Ag F Aa Aa Aa Aa) Aa (Bi Aa) (Bn (l := x1) Eu F Aa Aa h7).q fun a w F W => ?_
     refine E5 (Ag F Aa Aa Aa Aa) ?_
     refine ls F W Aa (AE (v := Value.int .u8 (Ad (x13.toNat : Int))) F Nq Aa (fun w W => AD any w (x13.toNat : Int) _ Aa)) fun a w F W => ?_
     refine vl tk 4 F W fun a w F W => ?_
     refine Ac ?_
     exact ⟨_, H, F.ra Aa, W⟩
    have H := Ct (Db hb) H
    rw [hb] at F
    clear hb
    refine vl tk 18 F W fun a w F W => ?_
    refine Ac ?_
    exact ⟨_, H, F.ra Aa, W⟩
   have H := Ct (Db hb) H
   rw [hb] at F
   clear hb
   refine vl tk 23 F W fun a w F W => ?_
   refine Ac ?_
   exact ⟨_, H, F.ra Aa, W⟩
  rintro a w ⟨x9, hj, F, W⟩
  have hj := AA hj
  subst hj
  have H := K4
  clear G4 K4
  refine B2 F Aa H (fun F H => ?_) fun F H => ?_
  ·
   refine vc tk 12 F W fun a w F W => ?_
   obtain ⟨x14, h8, H⟩ := Ae H
   refine ls F W Aa (Bn (l := x1) Eu F Aa Aa h8).q fun a w F W => ?_
   refine ls F W Aa (AE (v := Value.int .u8 (Ad (x14.toNat : Int))) F Nq Aa (fun w W => AD any w (x14.toNat : Int) _ Aa)) fun a w F W => ?_
   refine vl tk 3 F W fun a w F W => ?_
   refine Ac ?_
   exact ⟨_, _, _, H, F.ra Aa, W⟩
  refine Bp (Ac ?_)
  exact ⟨_, _, _, H, F.ra Aa, W⟩
 rintro a w ⟨x6, x7, x8, hj, F, W⟩
 have hj := AA hj
 subst hj
 have H := K3
 clear G3 K3
 obtain ⟨o5, G5, K5, L5⟩ := HU H
 refine Aw (fun a w => ∃ x15 : Int, some (Sum.inl x15) = some o5 ∧ Fr 94 [] [(2, .bool false), (3, .int .i32 x15)] a ∧ Stw ⟨Y, [], w0⟩ [] [] w) ?_ ?_
 ·
  have H := G5
  clear G5 K5
  refine Dk ?_
  refine Bl H (fun s a w => Fr 94 [] [(0, .string (bs x1)), (2, .bool false), (3, .int .i32 s.1), (4, .int .i64 s.2.1), (5, .bool s.2.2)] a ∧ Stw ⟨Y, [], w0⟩ [] [] w) ⟨F.ra Aa, W⟩ fun s o a w H L6 hR => ?_
  obtain ⟨x16, x17, x18⟩ := s
  obtain ⟨F, W⟩ := hR
  have F : Fr 94 [] [(0, .string (bs x1)), (2, .bool false), (3, .int .i32 x16), (4, .int .i64 x17), (5, .bool x18)] a := F
  have W : Stw ⟨Y, [], w0⟩ [] [] w := W
  rw [B1] at H
  refine vc tk 5 F W fun a w F W => ?_
  refine ls F W Aa (Eh (l := x1) Eu Aa F Aa).q fun a w F W => ?_
  refine vl tk 2 F W fun a w F W => ?_
  refine Ac ?_
  refine Bq F Aa H (fun F H => ?_) fun F H => ?_
  ·
   refine Bp (Ac ?_)
   obtain ⟨o7, G7, K7, L7⟩ := HU H
   refine Aw (fun a w => ∃ x19 : Int, ∃ x20 : Bool, some (Sum.inl (x19, x20)) = some o7 ∧ Fr 94 [] [(0, .string (bs x1)), (2, .bool false), (3, .int .i32 x19), (4, .int .i64 x17), (5, .bool x20)] a ∧ Stw ⟨Y, [], w0⟩ [] [] w) ?_ ?_
   ·
    have H := G7
    clear G7 K7
    refine vc tk 2 F W fun a w F W => ?_
    obtain ⟨o8, G8, K8⟩ := Ae H
    refine Aw (fun a w => ∃ x21 : Bool, ∃ x22 : Bool, some ((x21, x22)) = some o8 ∧ Fr 94 [] [(0, .string (bs x1)), (2, .bool false), (3, .int .i32 x16), (4, .int .i64 x17), (5, .bool x21), (83, .bool x22)] a ∧ Stw ⟨Y, [], w0⟩ [] [] w) ?_ ?_
    ·
     have H := G8
     clear G8 K8
     refine vc tk 3 F W fun a w F W => ?_
     obtain ⟨x23, h9, H⟩ := Ae H
     refine ls F W Aa (Bn (l := x1) Eu F Aa Aa h9).q fun a w F W => ?_
     refine vl tk 2 F W fun a w F W => ?_
     rcases Bool.eq_false_or_eq_true (decide (48 ≤ (x23.toNat : Int))) with hb | hb
     ·
      have H := Cu (Dc hb) H
      rw [hb] at F
      clear hb
      refine vl tk 2 F W fun a w F W => ?_
      obtain ⟨x24, h10, H⟩ := Ae H
      refine Cw F W (Ag F Aa Aa Aa Aa) Aa (Bi Aa) (Bn (l := x1) Eu F Aa Aa h10).q fun a w F W => ?_
      refine vl tk 3 F W fun a w F W => ?_
      rcases Bool.eq_false_or_eq_true (decide ((x24.toNat : Int) ≤ 57)) with hb | hb
      ·
       have H := Cu (Dc hb) H
       rw [hb] at F
       clear hb
       refine vl tk 17 F W fun a w F W => ?_
       refine Ac ?_
       exact ⟨_, _, H, F.ra Aa, W⟩
      have H := Ct (Db hb) H
      rw [hb] at F
      clear hb
      refine vl tk 2 F W fun a w F W => ?_
      rcases Bool.eq_false_or_eq_true x18 with hb | hb
      ·
       have H := Cu hb H
       rw [hb] at F
       clear hb
       refine vl tk 2 F W fun a w F W => ?_
       obtain ⟨x25, h11, H⟩ := Ae H
       refine Cw F W (Ag F Aa Aa Aa Aa) Aa (Bi Aa) (Bn (l := x1) Eu F Aa Aa h11).q fun a w F W => ?_
       refine E5 (Ag F Aa Aa Aa Aa) ?_
       refine ls F W Aa (AE (v := Value.int .u8 (Ad (x25.toNat : Int))) F Nq Aa (fun w W => AD any w (x25.toNat : Int) _ Aa)) fun a w F W => ?_
       refine vl tk 3 F W fun a w F W => ?_
       rcases Bool.eq_false_or_eq_true (decide (97 ≤ (Ad (x25.toNat : Int)))) with hb | hb
       ·
        have H := Cu (Dc hb) H
        rw [hb] at F
        clear hb
        refine vl tk 2 F W fun a w F W => ?_
        obtain ⟨x26, h12, H⟩ := Ae H
        refine Cw F W (Ag F Aa Aa Aa Aa) Aa (Bi Aa) (Bn (l := x1) Eu F Aa Aa h12).q fun a w F W => ?_
        refine E5 (Ag F Aa Aa Aa Aa) ?_
        refine ls F W Aa (AE (v := Value.int .u8 (Ad (x26.toNat : Int))) F Nq Aa (fun w W => AD any w (x26.toNat : Int) _ Aa)) fun a w F W => ?_
        refine vl tk 4 F W fun a w F W => ?_
        refine Ac ?_
        exact ⟨_, _, H, F.ra Aa, W⟩
       have H := Ct (Db hb) H
       rw [hb] at F
       clear hb
       refine vl tk 8 F W fun a w F W => ?_
       refine Ac ?_
       exact ⟨_, _, H, F.ra Aa, W⟩
      have H := Ct (by rw [hb]; decide) H
      rw [hb] at F
      clear hb
      refine vl tk 15 F W fun a w F W => ?_
      refine Ac ?_
      exact ⟨_, _, H, F.ra Aa, W⟩
     have H := Ct (Db hb) H
     rw [hb] at F
     clear hb
     refine vl tk 8 F W fun a w F W => ?_
     rcases Bool.eq_false_or_eq_true x18 with hb | hb
     ·
      have H := Cu hb H
      rw [hb] at F
      clear hb
      refine vl tk 2 F W fun a w F W => ?_
      obtain ⟨x27, h13, H⟩ := Ae H
      refine Cw F W (Ag F Aa Aa Aa Aa) Aa (Bi Aa) (Bn (l := x1) Eu F Aa Aa h13).q fun a w F W => ?_
      refine E5 (Ag F Aa Aa Aa Aa) ?_
      refine ls F W Aa (AE (v := Value.int .u8 (Ad (x27.toNat : Int))) F Nq Aa (fun w W => AD any w (x27.toNat : Int) _ Aa)) fun a w F W => ?_
      refine vl tk 3 F W fun a w F W => ?_
      rcases Bool.eq_false_or_eq_true (decide (97 ≤ (Ad (x27.toNat : Int)))) with hb | hb
      ·
       have H := Cu (Dc hb) H
       rw [hb] at F
       clear hb
       refine vl tk 2 F W fun a w F W => ?_
       obtain ⟨x28, h14, H⟩ := Ae H
       refine Cw F W (Ag F Aa Aa Aa Aa) Aa (Bi Aa) (Bn (l := x1) Eu F Aa Aa h14).q fun a w F W => ?_
       refine E5 (Ag F Aa Aa Aa Aa) ?_
       refine ls F W Aa (AE (v := Value.int .u8 (Ad (x28.toNat : Int))) F Nq Aa (fun w W => AD any w (x28.toNat : Int) _ Aa)) fun a w F W => ?_
       refine vl tk 4 F W fun a w F W => ?_
       refine Ac ?_
       exact ⟨_, _, H, F.ra Aa, W⟩
      have H := Ct (Db hb) H
      rw [hb] at F
      clear hb
      refine vl tk 8 F W fun a w F W => ?_
      refine Ac ?_
      exact ⟨_, _, H, F.ra Aa, W⟩
     have H := Ct (by rw [hb]; decide) H
     rw [hb] at F
     clear hb
     refine vl tk 15 F W fun a w F W => ?_
     refine Ac ?_
     exact ⟨_, _, H, F.ra Aa, W⟩
    rintro a w ⟨x21, x22, hj, F, W⟩
    have hj := AA hj
    subst hj
    have H := K8
    clear G8 K8
    refine B2 F Aa H (fun F H => ?_) fun F H => ?_
    ·
     refine vc tk 5 F W fun a w F W => ?_
     refine A1 (BC (Bb (Ac ?_)))
     exact ⟨_, _, H, F.ra Aa, W⟩
    refine Ek tk 7 F W fun a w F W => ?_
    obtain ⟨x29, h15, H⟩ := Ae H
    refine ls F W Aa (Bn (l := x1) Eu F Aa Aa h15).q fun a w F W => ?_
    refine vl tk 2 F W fun a w F W => ?_
    refine Ac ?_
    refine Bq F Aa H (fun F H => ?_) fun F H => ?_
    ·
     refine vc tk 7 F W fun a w F W => ?_
     refine Bq F Aa H (fun F H => ?_) fun F H => ?_
     ·
      refine vc tk 5 F W fun a w F W => ?_
      refine Ax ?_
      iterate 2 refine Az ?_
      refine AU ?_
      iterate 2 refine Az ?_
      refine AU (Az ?_)
      have H := L7 _ H
      have H := L6 _ H
      have H := L5 _ H
      have H := AA H
      subst H
      refine BB (.inl Aa) F W Aa (Ao F Aa) ?_
      exact ⟨rfl, W.done⟩
     refine Ek tk 7 F W fun a w F W => ?_
     refine A1 (BC (Bb (Ac ?_)))
     exact ⟨_, _, H, F.ra Aa, W⟩
    refine Ek tk 9 F W fun a w F W => ?_
    refine Bq F Aa H (fun F H => ?_) fun F H => ?_
    ·
     refine vc tk 5 F W fun a w F W => ?_
     refine Ax (Az (AU ?_))
     iterate 2 refine Az ?_
     refine AU (Az ?_)
     have H := L7 _ H
     have H := L6 _ H
     have H := L5 _ H
     have H := AA H
     subst H
     refine BB (.inl Aa) F W Aa (Ao F Aa) ?_
     exact ⟨rfl, W.done⟩
    refine Ek tk 5 F W fun a w F W => ?_
    refine AB (Ac ?_)
    exact ⟨_, _, H, F.ra Aa, W⟩
   rintro a w ⟨x19, x20, hj, F, W⟩
   have H := K7 _ hj
   clear hj G7 K7 L7
   refine vc tk 5 F W fun a w F W => ?_
   refine Ac ?_
   exact ⟨_, H, F.ra Aa, W⟩
  refine A1 ?_
  iterate 2 refine BC ?_
  refine Bb (Ac ?_)
  have H := L6 _ H
  exact ⟨_, H, F.ra Aa, W⟩
 rintro a w ⟨x15, hj, F, W⟩
 have H := K5 _ hj
 clear hj G5 K5 L5
 refine vc tk 7 F W fun a w F W => ?_
 refine Ax ?_
 have H := AA H
 subst H
 refine BB (.inl Aa) F W Aa (Ao F Aa) ?_
 exact ⟨rfl, W.done⟩
theorem Tq : Has Tryz.prog 75 := ⟨fun args w => Af Tryz.func75 rfl (by decide) args w⟩
noncomputable def AP (x1 : List UInt8) (x2 : Int) (x3 : Bool) (x16 : Int) (x18 : Int) : (Bool × Int × Int) → Option ((Bool × Int × Int) ⊕ ((Bool × Int) ⊕ ((Int × Int) ⊕ Int)))
  | (x21, x22, x23) => (if x23 < ((List.map (fun b => (b.toNat : Int)) x1).length : Int) then ES ((ix (List.map (fun b => (b.toNat : Int)) x1) x23).bind fun x26 => ES (if (decide (x26 = 95) && x3) = true then some (.inr (.inl (true, x22))) else (if (decide (48 ≤ x26) && decide (x26 ≤ 57)) = true then some (.inl (IntKind.u8.wrap (x26 - 48))) else (if (decide (97 ≤ (Ad x26)) && decide ((Ad x26) ≤ 122)) = true then some (.inl (IntKind.u8.wrap ((IntKind.u8.wrap ((Ad x26) - 97)) + 10))) else some (.inr (.inr (.inr (.inr (.inl (0, 2))))))))) fun x27 => (if (IntKind.u8.wrap x2) ≤ x27 then some (.inr (.inr (.inr (.inl (0, 2))))) else (if x16 ≤ x22 then some (.inr (.inr (.inr (.inl (IntKind.u64.wrap (x18 - 1), 1))))) else (if (decide ((IntKind.u64.wrap ((IntKind.u64.wrap (x22 * (IntKind.u64.wrap x2))) + (IntKind.u64.wrap x27))) < (IntKind.u64.wrap (x22 * (IntKind.u64.wrap x2)))) || decide ((IntKind.u64.wrap (x18 - 1)) < (IntKind.u64.wrap ((IntKind.u64.wrap (x22 * (IntKind.u64.wrap x2))) + (IntKind.u64.wrap x27))))) = true then some (.inr (.inr (.inr (.inl (IntKind.u64.wrap (x18 - 1), 1))))) else some (.inl (x21, IntKind.u64.wrap ((IntKind.u64.wrap (x22 * (IntKind.u64.wrap x2))) + (IntKind.u64.wrap x27)))))))) fun (x24, x25) => some (.inl (x24, x25, BD (x23 + 1))) else some (.inr (.inl (x21, x22))))
noncomputable def Bw (p0 : List UInt8) (p1 : Int) (p2 : Int) : Option ((Int × Int) ⊕ Int) := (if p0 = ([] : List UInt8) then some (.inl (0, 2)) else ES (if (decide (2 ≤ p1) && decide (p1 ≤ 36)) = true then some (.inl (p0, p1, decide (p1 = 0))) else (if p1 = 0 then (ix p0 0).bind fun x4 => (if (x4.toNat : Int) = 48 then (if 3 ≤ (p0.length : Int) then (ix p0 1).bind fun x6 => some (decide ((Ad (x6.toNat : Int)) = 98)) else some false).bind fun x5 => (if x5 = true then (D3 p0 2 (p0.length : Int)).bind fun x7 => some (.inl (x7, (2 : Int), true)) else (if 3 ≤ (p0.length : Int) then (ix p0 1).bind fun x9 => some (decide ((Ad (x9.toNat : Int)) = 111)) else some false).bind fun x8 => (if x8 = true then (D3 p0 2 (p0.length : Int)).bind fun x10 => some (.inl (x10, (8 : Int), true)) else (if 3 ≤ (p0.length : Int) then (ix p0 1).bind fun x12 => some (decide ((Ad (x12.toNat : Int)) = 120)) else some false).bind fun x11 => (if x11 = true then (D3 p0 2 (p0.length : Int)).bind fun x13 => some (.inl (x13, (16 : Int), true)) else (D3 p0 1 (p0.length : Int)).bind fun x14 => some (.inl (x14, (8 : Int), true))))) else some (.inl (p0, (10 : Int), true))) else some (.inr (.inl (0, 3))))) fun (x1, x2, x3) => ES (if p2 = 0 then some (.inl (64 : Int)) else (if (decide (p2 < 0) || decide (64 < p2)) = true then some (.inr (.inl (0, 4))) else some (.inl p2))) fun x15 => (if x2 = 10 then some (1844674407370955162 : Int) else (if x2 = 16 then some (1152921504606846976 : Int) else (Rz .u64 18446744073709551615 (IntKind.u64.wrap x2)).bind fun x17 => some (IntKind.u64.wrap (x17 + 1)))).bind fun x16 => (Qw (OZ .u64 1 (IntKind.u64.wrap x15)) (IntKind.u64.wrap x15)).bind fun x18 => ES (Av (AP x1 x2 x3 x16 x18) (false, 0, 0)) fun (x19, x20) => (if x19 = true then (BU p0).bind fun x29 => some (!x29) else some false).bind fun x28 => (if x28 = true then some (.inl (0, 2)) else some (.inr x20)))
theorem DT (Y : Nat → Prop) (w0 : World)  (p0 : List UInt8) (p1 : Int) (p2 : Int) (r : (Int × Int) ⊕ Int) (H : Bw p0 p1 p2 = some r)  :
    Calls Tryz.prog 58 #[.string (bs p0), .int .i64 p1, .int .i64 p2] w0 fun e w' => Ko r (fun r => ∃ x : Unit, e = .returned (.tuple #[.int .u64 r.1, .iface 108 (.int .i64 r.2)]) ∧ Stw ⟨Y, [], w0⟩ [] [] w') (fun r => ∃ x : Unit, e = .returned (.tuple #[.int .u64 r, .nilIface]) ∧ Stw ⟨Y, [], w0⟩ [] [] w') := by
 refine enter Tryz.func58 Aa Tryz.ntmps58 Aa fun a F => ?_
 have W := Stw.start Y w0
 unfold Bw at H
 refine vc tk 10 F W fun a w F W => ?_
 refine ls F W Aa (JF (l := p0) (m := ([] : List UInt8)) F Aa Aa).q fun a w F W => ?_
 refine CJ (Ac ?_)
 refine Bq F Aa H (fun F H => ?_) fun F H => ?_
 ·
  refine vc tk 2 F W fun a w F W => ?_
  refine ls F W Aa (C7 LE F Aa).q fun a w F W => ?_
  refine vl tk 3 F W fun a w F W => ?_
  refine Ac (Ax (Az ?_))
  have H := AA H
  subst H
  refine EA (.inl Aa) F W Aa (Ao F Aa) (Ao F Aa) ?_
  exact ⟨(), Aa, W⟩
 refine Ek tk 15 F W fun a w F W => ?_
 obtain ⟨o1, G1, K1, L1⟩ := HU H
 refine Aw (fun a w => ∃ x1 : List UInt8, ∃ x2 : Int, ∃ x3 : Bool, some (Sum.inl (x1, x2, x3)) = some o1 ∧ Fr 172 [] [(0, .string (bs x1)), (1, .int .i64 x2), (2, .int .i64 p2), (6, .int .u64 0), (7, .nilIface), (8, .bool x3), (9, .string (bs p0))] a ∧ Stw ⟨Y, [], w0⟩ [] [] w) ?_ ?_
 ·
  have H := G1
  clear G1 K1
  refine Dk ?_
  refine Aw (fun a w => Fr 172 [] [(0, .string (bs p0)), (1, .int .i64 p1), (2, .int .i64 p2), (6, .int .u64 0), (7, .nilIface), (8, .bool (decide (p1 = 0))), (9, .string (bs p0)), (25, .bool (decide (2 ≤ p1) && decide (p1 ≤ 36)))] a ∧ Stw ⟨Y, [], w0⟩ [] [] w) ?_ ?_
  ·
   refine vc tk 4 F W fun a w F W => ?_
   rcases Bool.eq_false_or_eq_true (decide (2 ≤ p1)) with hb0 | hb0
   ·
    rw [hb0] at F
    refine vl tk 5 F W fun a w F W => ?_
    refine Ac ?_
    exact ⟨F.re ⟨rfl, Aa, Aa, Aa, Aa, Aa, Aa, (JR (by try rw [hb0]; all_goals simp only [JI])), trivial⟩, W⟩
   rw [hb0] at F
   refine vl tk 5 F W fun a w F W => ?_
   refine Ac ?_
   exact ⟨F.re ⟨rfl, Aa, Aa, Aa, Aa, Aa, Aa, (JR (by try rw [hb0]; all_goals simp only [JI])), trivial⟩, W⟩
  rintro a w ⟨F, W⟩
  refine B2 F Aa H (fun F H => ?_) fun F H => ?_
  ·
   refine Bp (AB (Ac ?_))
   exact ⟨_, _, _, H, F.ra Aa, W⟩
  refine vc tk 7 F W fun a w F W => ?_
  refine H0 F Aa (fun hb => ?_) fun hb => ?_
  ·
   have H := Cu (Dc hb) H
   rw [hb] at F
   clear hb
   refine vc tk 8 F W fun a w F W => ?_
   obtain ⟨x4, h1, H⟩ := Ae H
   refine ls F W Aa (Bn (l := p0) Eu F Aa Aa h1).q fun a w F W => ?_
   refine vl tk 2 F W fun a w F W => ?_
   refine Ac ?_
   refine Bq F Aa H (fun F H => ?_) fun F H => ?_
   ·
    refine Dk ?_
    obtain ⟨o2, G2, K2⟩ := Ae H
    refine Aw (fun a w => ∃ x5 : Bool, some (x5) = some o2 ∧ Fr 172 [] [(0, .string (bs p0)), (1, .int .i64 10), (2, .int .i64 p2), (6, .int .u64 0), (7, .nilIface), (8, .bool true), (9, .string (bs p0)), (40, .bool x5)] a ∧ Stw ⟨Y, [], w0⟩ [] [] w) ?_ ?_
    ·
     have H := G2
     clear G2 K2
     refine vc tk 2 F W fun a w F W => ?_
     refine ls F W Aa (Eh (l := p0) Eu Aa F Aa).q fun a w F W => ?_
     refine vl tk 2 F W fun a w F W => ?_
     rcases Bool.eq_false_or_eq_true (decide (3 ≤ (p0.length : Int))) with hb | hb
     ·
      have H := Cu (Dc hb) H
      rw [hb] at F
      clear hb
      refine Cw F W (Ag F Aa Aa Aa Aa) Aa (Bi Aa) (Am F Aa).q fun a w F W => ?_
      obtain ⟨x6, h2, H⟩ := Ae H
      refine Cw F W (Ag F Aa Aa Aa Aa) Aa (Bi Aa) (Bn (l := p0) Eu F Aa Aa h2).q fun a w F W => ?_
      refine E5 (Ag F Aa Aa Aa Aa) ?_
      refine ls F W Aa (AE (v := Value.int .u8 (Ad (x6.toNat : Int))) F Nq Aa (fun w W => AD any w (x6.toNat : Int) _ Aa)) fun a w F W => ?_
      refine vl tk 4 F W fun a w F W => ?_
      refine Ac ?_
      exact ⟨_, H, F.ra Aa, W⟩
     have H := Ct (Db hb) H
     rw [hb] at F
     clear hb
     refine vl tk 7 F W fun a w F W => ?_
     refine Ac ?_
     exact ⟨_, H, F.ra Aa, W⟩
    rintro a w ⟨x5, hj, F, W⟩
    have hj := AA hj
    subst hj
    have H := K2
    clear G2 K2
    refine B2 F Aa H (fun F H => ?_) fun F H => ?_
    ·
     refine vc tk 7 F W fun a w F W => ?_
     obtain ⟨x7, h3, H⟩ := Ae H
     refine ls F W Aa (D7 (l := p0) Eu F Aa Aa Aa h3).q fun a w F W => ?_
     refine vl tk 2 F W fun a w F W => ?_
     iterate 2 refine AB ?_
     refine Ac ?_
     exact ⟨_, _, _, H, F.ra Aa, W⟩
    obtain ⟨o3, G3, K3⟩ := Ae H
    refine Aw (fun a w => ∃ x8 : Bool, some (x8) = some o3 ∧ Fr 172 [] [(0, .string (bs p0)), (1, .int .i64 10), (2, .int .i64 p2), (6, .int .u64 0), (7, .nilIface), (8, .bool true), (9, .string (bs p0)), (52, .bool x8)] a ∧ Stw ⟨Y, [], w0⟩ [] [] w) ?_ ?_
    ·
     have H := G3
     clear G3 K3
     refine vc tk 2 F W fun a w F W => ?_
     refine ls F W Aa (Eh (l := p0) Eu Aa F Aa).q fun a w F W => ?_
     refine vl tk 2 F W fun a w F W => ?_
     rcases Bool.eq_false_or_eq_true (decide (3 ≤ (p0.length : Int))) with hb | hb
     ·
      have H := Cu (Dc hb) H
      rw [hb] at F
      clear hb
      refine Cw F W (Ag F Aa Aa Aa Aa) Aa (Bi Aa) (Am F Aa).q fun a w F W => ?_
      obtain ⟨x9, h4, H⟩ := Ae H
      refine Cw F W (Ag F Aa Aa Aa Aa) Aa (Bi Aa) (Bn (l := p0) Eu F Aa Aa h4).q fun a w F W => ?_
      refine E5 (Ag F Aa Aa Aa Aa) ?_
      refine ls F W Aa (AE (v := Value.int .u8 (Ad (x9.toNat : Int))) F Nq Aa (fun w W => AD any w (x9.toNat : Int) _ Aa)) fun a w F W => ?_
      refine vl tk 4 F W fun a w F W => ?_
      refine Ac ?_
      exact ⟨_, H, F.ra Aa, W⟩
     have H := Ct (Db hb) H
     rw [hb] at F
     clear hb
     refine vl tk 7 F W fun a w F W => ?_
     refine Ac ?_
     exact ⟨_, H, F.ra Aa, W⟩
    rintro a w ⟨x8, hj, F, W⟩
    have hj := AA hj
    subst hj
    have H := K3
    clear G3 K3
    refine B2 F Aa H (fun F H => ?_) fun F H => ?_
    ·
     refine vc tk 7 F W fun a w F W => ?_
     obtain ⟨x10, h5, H⟩ := Ae H
     refine ls F W Aa (D7 (l := p0) Eu F Aa Aa Aa h5).q fun a w F W => ?_
     refine vl tk 2 F W fun a w F W => ?_
     iterate 2 refine AB ?_
     refine Ac ?_
     exact ⟨_, _, _, H, F.ra Aa, W⟩
    obtain ⟨o4, G4, K4⟩ := Ae H
    refine Aw (fun a w => ∃ x11 : Bool, some (x11) = some o4 ∧ Fr 172 [] [(0, .string (bs p0)), (1, .int .i64 10), (2, .int .i64 p2), (6, .int .u64 0), (7, .nilIface), (8, .bool true), (9, .string (bs p0)), (64, .bool x11)] a ∧ Stw ⟨Y, [], w0⟩ [] [] w) ?_ ?_
    ·
     have H := G4
     clear G4 K4
     refine vc tk 2 F W fun a w F W => ?_
     refine ls F W Aa (Eh (l := p0) Eu Aa F Aa).q fun a w F W => ?_
     refine vl tk 2 F W fun a w F W => ?_
     rcases Bool.eq_false_or_eq_true (decide (3 ≤ (p0.length : Int))) with hb | hb
     ·
      have H := Cu (Dc hb) H
      rw [hb] at F
      clear hb
      refine Cw F W (Ag F Aa Aa Aa Aa) Aa (Bi Aa) (Am F Aa).q fun a w F W => ?_
      obtain ⟨x12, h6, H⟩ := Ae H
      refine Cw F W (Ag F Aa Aa Aa Aa) Aa (Bi Aa) (Bn (l := p0) Eu F Aa Aa h6).q fun a w F W => ?_
      refine E5 (Ag F Aa Aa Aa Aa) ?_
      refine ls F W Aa (AE (v := Value.int .u8 (Ad (x12.toNat : Int))) F Nq Aa (fun w W => AD any w (x12.toNat : Int) _ Aa)) fun a w F W => ?_
      refine vl tk 4 F W fun a w F W => ?_
      refine Ac ?_
      exact ⟨_, H, F.ra Aa, W⟩
     have H := Ct (Db hb) H
     rw [hb] at F
     clear hb
     refine vl tk 7 F W fun a w F W => ?_
     refine Ac ?_
     exact ⟨_, H, F.ra Aa, W⟩
    rintro a w ⟨x11, hj, F, W⟩
    have hj := AA hj
    subst hj
    have H := K4
    clear G4 K4
    refine B2 F Aa H (fun F H => ?_) fun F H => ?_
    ·
     refine vc tk 7 F W fun a w F W => ?_
     obtain ⟨x13, h7, H⟩ := Ae H
     refine ls F W Aa (D7 (l := p0) Eu F Aa Aa Aa h7).q fun a w F W => ?_
     refine vl tk 2 F W fun a w F W => ?_
     iterate 2 refine AB ?_
     refine Ac ?_
     exact ⟨_, _, _, H, F.ra Aa, W⟩
    refine vc tk 7 F W fun a w F W => ?_
    obtain ⟨x14, h8, H⟩ := Ae H
    refine ls F W Aa (D7 (l := p0) Eu F Aa Aa Aa h8).q fun a w F W => ?_
    refine vl tk 2 F W fun a w F W => ?_
    iterate 2 refine AB ?_
    refine Ac ?_
    exact ⟨_, _, _, H, F.ra Aa, W⟩
   refine Bp (AB (Ac ?_))
   exact ⟨_, _, _, H, F.ra Aa, W⟩
  have H := Ct (Db hb) H
  rw [hb] at F
  clear hb
  refine vc tk 2 F W fun a w F W => ?_
  refine ls F W Aa (C7 LE F Aa).q fun a w F W => ?_
  refine vl tk 3 F W fun a w F W => ?_
  refine Ac (Ax (AU (Az ?_)))
  have H := L1 _ H
  have H := AA H
  subst H
  refine EA (.inl Aa) F W Aa (Ao F Aa) (Ao F Aa) ?_
  exact ⟨(), Aa, W⟩
 rintro a w ⟨x1, x2, x3, hj, F, W⟩
 have H := K1 _ hj
 clear hj G1 K1 L1
 obtain ⟨o5, G5, K5, L5⟩ := HU H
 refine Aw (fun a w => ∃ x15 : Int, some (Sum.inl x15) = some o5 ∧ Fr 172 [] [(0, .string (bs x1)), (1, .int .i64 x2), (2, .int .i64 x15), (6, .int .u64 0), (7, .nilIface), (8, .bool x3), (9, .string (bs p0))] a ∧ Stw ⟨Y, [], w0⟩ [] [] w) ?_ ?_
 ·
  have H := G5
  clear G5 K5
  refine vc tk 6 F W fun a w F W => ?_
  refine Bq F Aa H (fun F H => ?_) fun F H => ?_
  ·
   refine vc tk 3 F W fun a w F W => ?_
   refine Ac ?_
   exact ⟨_, H, F.ra Aa, W⟩
  refine Aw (fun a w => Fr 172 [] [(0, .string (bs x1)), (1, .int .i64 x2), (2, .int .i64 p2), (6, .int .u64 0), (7, .nilIface), (8, .bool x3), (9, .string (bs p0)), (83, .bool (decide (p2 < 0) || decide (64 < p2)))] a ∧ Stw ⟨Y, [], w0⟩ [] [] w) ?_ ?_
  ·
   refine vc tk 4 F W fun a w F W => ?_
   rcases Bool.eq_false_or_eq_true (decide (p2 < 0)) with hb0 | hb0
   ·
    rw [hb0] at F
    refine vl tk 4 F W fun a w F W => ?_
    refine Ac ?_
    exact ⟨F.re ⟨rfl, Aa, Aa, Aa, Aa, Aa, Aa, (JR (by try rw [hb0]; all_goals simp only [JI])), trivial⟩, W⟩
   rw [hb0] at F
   refine vl tk 4 F W fun a w F W => ?_
   refine Ac ?_
   exact ⟨F.re ⟨rfl, Aa, Aa, Aa, Aa, Aa, Aa, (JR (by try rw [hb0]; all_goals simp only [JI])), trivial⟩, W⟩
  rintro a w ⟨F, W⟩
  refine B2 F Aa H (fun F H => ?_) fun F H => ?_
  ·
   refine vc tk 2 F W fun a w F W => ?_
   refine ls F W Aa (C7 LE F Aa).q fun a w F W => ?_
   refine vl tk 3 F W fun a w F W => ?_
   refine Ac (Ax (Az ?_))
   have H := L5 _ H
   have H := AA H
   subst H
   refine EA (.inl Aa) F W Aa (Ao F Aa) (Ao F Aa) ?_
   exact ⟨(), Aa, W⟩
  refine Bp (Ac ?_)
  exact ⟨_, H, F.ra Aa, W⟩
 rintro a w ⟨x15, hj, F, W⟩
 have H := K5 _ hj
 clear hj G5 K5 L5
 refine vc tk 5 F W fun a w F W => ?_
 obtain ⟨o6, G6, K6⟩ := Ae H
 refine Aw (fun a w => ∃ x16 : Int, some (x16) = some o6 ∧ Fr 172 [] [(0, .string (bs x1)), (1, .int .i64 x2), (2, .int .i64 x15), (6, .int .u64 0), (7, .nilIface), (8, .bool x3), (9, .string (bs p0)), (10, .int .u64 x16)] a ∧ Stw ⟨Y, [], w0⟩ [] [] w) ?_ ?_
 ·
  have H := G6
  clear G6 K6
  refine vc tk 12 F W fun a w F W => ?_
  refine H0 F Aa (fun hb => ?_) fun hb => ?_
  ·
   have H := Cu (Dc hb) H
   rw [hb] at F
   clear hb
   refine vc tk 3 F W fun a w F W => ?_
   refine AB (Ac ?_)
   exact ⟨_, H, F.ra Aa, W⟩
  have H := Ct (Db hb) H
  rw [hb] at F
  clear hb
  refine vc tk 6 F W fun a w F W => ?_
  refine H0 F Aa (fun hb => ?_) fun hb => ?_
  ·
   have H := Cu (Dc hb) H
   rw [hb] at F
   clear hb
   refine vc tk 3 F W fun a w F W => ?_
   refine AB (Ac ?_)
   exact ⟨_, H, F.ra Aa, W⟩
  have H := Ct (Db hb) H
  rw [hb] at F
  clear hb
  refine vc tk 2 F W fun a w F W => ?_
  refine ls F W Aa (DY Lm LB F Aa).q fun a w F W => ?_
  obtain ⟨x17, h9, H⟩ := Ae H
  refine ls F W Aa (LC F Aa Aa (Id h9).1 (Id h9).2).q fun a w F W => ?_
  refine vl tk 3 F W fun a w F W => ?_
  refine AB (Ac ?_)
  exact ⟨_, H, F.ra Aa, W⟩
 rintro a w ⟨x16, hj, F, W⟩
 have hj := AA hj
 subst hj
 have H := K6
 clear G6 K6
 refine vc tk 3 F W fun a w F W => ?_
 refine ls F W Aa (DY Lm M5 F Aa).q fun a w F W => ?_
 obtain ⟨x18, h10, H⟩ := Ae H
 refine ls F W Aa (Qy (Ig h10).2 (RN F Aa Aa (Ig h10).1)).q fun a w F W => ?_
 refine C5 tk 14 F W fun a w F W => ?_
 obtain ⟨o7, G7, K7, L7⟩ := HU H
 refine Aw (fun a w => ∃ x19 : Bool, ∃ x20 : Int, some (Sum.inl (x19, x20)) = some o7 ∧ Fr 172 [] [(6, .int .u64 0), (7, .nilIface), (9, .string (bs p0)), (12, .bool x19), (13, .int .u64 x20)] a ∧ Stw ⟨Y, [], w0⟩ [] [] w) ?_ ?_
 ·
  have H := G7
  clear G7 K7
  refine vc tk 3 F W fun a w F W => ?_
  refine PO (l := x1) Eu Qp QY F W Aa Aa fun v1 a w F W => ?_
  have W : Stw ⟨Y, [], w0⟩ [] [KY v1 (Rp.int .u8) (List.map (fun b => (b.toNat : Int)) x1)] w := W
  refine ls F W Aa (BN (r := (Rp.int .u8)) (l := (List.map (fun b => (b.toNat : Int)) x1)) Qp Aa F Aa (Lh 0 Aa)).q fun a w F W => ?_
  refine C5 tk 4 F W fun a w F W => ?_
  refine Bl H (fun s a w => Fr 172 [] [(1, .int .i64 x2), (6, .int .u64 0), (7, .nilIface), (8, .bool x3), (9, .string (bs p0)), (10, .int .u64 x16), (11, .int .u64 (IntKind.u64.wrap (x18 - 1))), (12, .bool s.1), (13, .int .u64 s.2.1), (99, v1), (100, .int .i64 ((List.map (fun b => (b.toNat : Int)) x1).length : Int)), (101, .int .i64 s.2.2)] a ∧ Stw ⟨Y, [], w0⟩ [] [KY v1 (Rp.int .u8) (List.map (fun b => (b.toNat : Int)) x1)] w) ⟨F.ra Aa, W⟩ fun s o a w H L8 hR => ?_
  obtain ⟨x21, x22, x23⟩ := s
  obtain ⟨F, W⟩ := hR
  have F : Fr 172 [] [(1, .int .i64 x2), (6, .int .u64 0), (7, .nilIface), (8, .bool x3), (9, .string (bs p0)), (10, .int .u64 x16), (11, .int .u64 (IntKind.u64.wrap (x18 - 1))), (12, .bool x21), (13, .int .u64 x22), (99, v1), (100, .int .i64 ((List.map (fun b => (b.toNat : Int)) x1).length : Int)), (101, .int .i64 x23)] a := F
  have W : Stw ⟨Y, [], w0⟩ [] [KY v1 (Rp.int .u8) (List.map (fun b => (b.toNat : Int)) x1)] w := W
  rw [AP] at H
  refine vc tk 6 F W fun a w F W => ?_
  refine Bq F Aa H (fun F H => ?_) fun F H => ?_
  ·
   refine Bp (Ac ?_)
   obtain ⟨o9, G9, K9, L9⟩ := HU H
   refine Aw (fun a w => ∃ x24 : Bool, ∃ x25 : Int, some (Sum.inl (x24, x25)) = some o9 ∧ Fr 172 [] [(1, .int .i64 x2), (6, .int .u64 0), (7, .nilIface), (8, .bool x3), (9, .string (bs p0)), (10, .int .u64 x16), (11, .int .u64 (IntKind.u64.wrap (x18 - 1))), (12, .bool x24), (13, .int .u64 x25), (99, v1), (100, .int .i64 ((List.map (fun b => (b.toNat : Int)) x1).length : Int)), (101, .int .i64 x23)] a ∧ Stw ⟨Y, [], w0⟩ [] [KY v1 (Rp.int .u8) (List.map (fun b => (b.toNat : Int)) x1)] w) ?_ ?_
   ·
    have H := G9
    clear G9 K9
    refine vc tk 3 F W fun a w F W => ?_
    obtain ⟨x26, h11, H⟩ := Ae H
    refine ls F W Aa (AR (r := (Rp.int .u8)) Ub F Aa Aa (Lh 0 Aa) h11).q fun a w F W => ?_
    refine ls F W Aa (An (y := Value.int .u8 x26) (j := 0) (i := x23) F Aa Aa (Lh 0 Aa) h11 Fl.int.to T5 Aa).q fun a w F W => ?_
    refine C5 tk 8 F W fun a w F W => ?_
    obtain ⟨o10, G10, K10, L10⟩ := HU H
    refine Aw (fun a w => ∃ x27 : Int, some (Sum.inl x27) = some o10 ∧ Fr 172 [] [(1, .int .i64 x2), (6, .int .u64 0), (7, .nilIface), (8, .bool x3), (9, .string (bs p0)), (10, .int .u64 x16), (11, .int .u64 (IntKind.u64.wrap (x18 - 1))), (12, .bool x21), (13, .int .u64 x22), (16, .int .u8 x27), (99, v1), (100, .int .i64 ((List.map (fun b => (b.toNat : Int)) x1).length : Int)), (101, .int .i64 x23)] a ∧ Stw ⟨Y, [], w0⟩ [] [KY v1 (Rp.int .u8) (List.map (fun b => (b.toNat : Int)) x1)] w) ?_ ?_
    ·
     have H := G10
     clear G10 K10
     refine Dk ?_
     refine Aw (fun a w => Fr 172 [] [(1, .int .i64 x2), (6, .int .u64 0), (7, .nilIface), (8, .bool x3), (9, .string (bs p0)), (10, .int .u64 x16), (11, .int .u64 (IntKind.u64.wrap (x18 - 1))), (12, .bool x21), (13, .int .u64 x22), (15, .int .u8 x26), (16, .int .u8 0), (99, v1), (100, .int .i64 ((List.map (fun b => (b.toNat : Int)) x1).length : Int)), (101, .int .i64 x23), (106, .bool (decide (x26 = 95) && x3))] a ∧ Stw ⟨Y, [], w0⟩ [] [KY v1 (Rp.int .u8) (List.map (fun b => (b.toNat : Int)) x1)] w) ?_ ?_
     ·
      refine vc tk 4 F W fun a w F W => ?_
      rcases Bool.eq_false_or_eq_true (decide (x26 = 95)) with hb0 | hb0
      ·
       rw [hb0] at F
       refine vl tk 4 F W fun a w F W => ?_
       refine Ac ?_
       exact ⟨F.re ⟨rfl, Aa, Aa, Aa, Aa, Aa, Aa, Aa, Aa, Aa, Aa, Aa, Aa, Aa, (JR (by try rw [hb0]; all_goals simp only [JI])), trivial⟩, W⟩
      rw [hb0] at F
      refine vl tk 4 F W fun a w F W => ?_
      refine Ac ?_
      exact ⟨F.re ⟨rfl, Aa, Aa, Aa, Aa, Aa, Aa, Aa, Aa, Aa, Aa, Aa, Aa, Aa, (JR (by try rw [hb0]; all_goals simp only [JI])), trivial⟩, W⟩
     rintro a w ⟨F, W⟩
     refine B2 F Aa H (fun F H => ?_) fun F H => ?_
     ·
      refine vc tk 5 F W fun a w F W => ?_
      refine A1 ?_
      refine Pq Aa ?_
      refine BC (Bb (Ac ?_))
      have H := L10 _ H
      exact ⟨_, _, H, F.ra Aa, W⟩
     refine Aw (fun a w => Fr 172 [] [(1, .int .i64 x2), (6, .int .u64 0), (7, .nilIface), (8, .bool x3), (9, .string (bs p0)), (10, .int .u64 x16), (11, .int .u64 (IntKind.u64.wrap (x18 - 1))), (12, .bool x21), (13, .int .u64 x22), (15, .int .u8 x26), (16, .int .u8 0), (99, v1), (100, .int .i64 ((List.map (fun b => (b.toNat : Int)) x1).length : Int)), (101, .int .i64 x23), (112, .bool (decide (48 ≤ x26) && decide (x26 ≤ 57)))] a ∧ Stw ⟨Y, [], w0⟩ [] [KY v1 (Rp.int .u8) (List.map (fun b => (b.toNat : Int)) x1)] w) ?_ ?_
     ·
      refine vc tk 4 F W fun a w F W => ?_
      rcases Bool.eq_false_or_eq_true (decide (48 ≤ x26)) with hb0 | hb0
      ·
       rw [hb0] at F
       refine vl tk 5 F W fun a w F W => ?_
       refine Ac ?_
       exact ⟨F.re ⟨rfl, Aa, Aa, Aa, Aa, Aa, Aa, Aa, Aa, Aa, Aa, Aa, Aa, Aa, (JR (by try rw [hb0]; all_goals simp only [JI])), trivial⟩, W⟩
      rw [hb0] at F
      refine vl tk 5 F W fun a w F W => ?_
      refine Ac ?_
      exact ⟨F.re ⟨rfl, Aa, Aa, Aa, Aa, Aa, Aa, Aa, Aa, Aa, Aa, Aa, Aa, Aa, (JR (by try rw [hb0]; all_goals simp only [JI])), trivial⟩, W⟩
     rintro a w ⟨F, W⟩
     refine B2 F Aa H (fun F H => ?_) fun F H => ?_
     ·
      refine vc tk 5 F W fun a w F W => ?_
      refine AB (Ac ?_)
      exact ⟨_, H, F.ra Aa, W⟩
     refine Aw (fun a w => Fr 172 [] [(1, .int .i64 x2), (6, .int .u64 0), (7, .nilIface), (8, .bool x3), (9, .string (bs p0)), (10, .int .u64 x16), (11, .int .u64 (IntKind.u64.wrap (x18 - 1))), (12, .bool x21), (13, .int .u64 x22), (15, .int .u8 x26), (16, .int .u8 0), (99, v1), (100, .int .i64 ((List.map (fun b => (b.toNat : Int)) x1).length : Int)), (101, .int .i64 x23), (121, .bool (decide (97 ≤ (Ad x26)) && decide ((Ad x26) ≤ 122)))] a ∧ Stw ⟨Y, [], w0⟩ [] [KY v1 (Rp.int .u8) (List.map (fun b => (b.toNat : Int)) x1)] w) ?_ ?_
     ·
      refine vc tk 2 F W fun a w F W => ?_
      refine ls F W Aa (AE (v := Value.int .u8 (Ad x26)) F Nq Aa (fun w W => AD any w x26 _ Aa)) fun a w F W => ?_
      refine vl tk 2 F W fun a w F W => ?_
      rcases Bool.eq_false_or_eq_true (decide (97 ≤ (Ad x26))) with hb0 | hb0
      ·
       rw [hb0] at F
       refine Cw F W (Ag F Aa Aa Aa Aa) Aa (Bi Aa) (Am F Aa).q fun a w F W => ?_
       refine E5 (Ag F Aa Aa Aa Aa) ?_
       refine ls F W Aa (AE (v := Value.int .u8 (Ad x26)) F Nq Aa (fun w W => AD any w x26 _ Aa)) fun a w F W => ?_
       refine vl tk 4 F W fun a w F W => ?_
       refine Ac ?_
       exact ⟨F.re ⟨rfl, Aa, Aa, Aa, Aa, Aa, Aa, Aa, Aa, Aa, Aa, Aa, Aa, Aa, (JR (by try rw [hb0]; all_goals simp only [JI])), trivial⟩, W⟩
      rw [hb0] at F
      refine vl tk 6 F W fun a w F W => ?_
      refine Ac ?_
      exact ⟨F.re ⟨rfl, Aa, Aa, Aa, Aa, Aa, Aa, Aa, Aa, Aa, Aa, Aa, Aa, Aa, (JR (by try rw [hb0]; all_goals simp only [JI])), trivial⟩, W⟩
     rintro a w ⟨F, W⟩
     refine B2 F Aa H (fun F H => ?_) fun F H => ?_
     ·
      refine vc tk 2 F W fun a w F W => ?_
      refine ls F W Aa (AE (v := Value.int .u8 (Ad x26)) F Nq Aa (fun w W => AD any w x26 _ Aa)) fun a w F W => ?_
      refine vl tk 4 F W fun a w F W => ?_
      refine AB (Ac ?_)
      exact ⟨_, H, F.ra Aa, W⟩
     refine vc tk 2 F W fun a w F W => ?_
     refine ls F W Aa (C7 LE F Aa).q fun a w F W => ?_
     refine vl tk 3 F W fun a w F W => ?_
     refine Ac (Ax (AU (Az (AU ?_))))
     iterate 2 refine Az ?_
     refine AU (Az ?_)
     have H := L10 _ H
     have H := L9 _ H
     have H := L8 _ H
     have H := L7 _ H
     have H := AA H
     subst H
     refine EA (.inl Aa) F W Aa (Ao F Aa) (Ao F Aa) ?_
     have W := W.sub (M' := []) (Z' := []) (List.Sublist.refl _) (List.nil_sublist _)
     exact ⟨(), Aa, W⟩
    rintro a w ⟨x27, hj, F, W⟩
    have H := K10 _ hj
    clear hj G10 K10 L10
    refine vc tk 5 F W fun a w F W => ?_
    refine ls F W Aa (DY Lm QY F Aa).q fun a w F W => ?_
    refine vl tk 2 F W fun a w F W => ?_
    refine Ac ?_
    refine Bq F Aa H (fun F H => ?_) fun F H => ?_
    ·
     refine vc tk 2 F W fun a w F W => ?_
     refine ls F W Aa (C7 LE F Aa).q fun a w F W => ?_
     refine vl tk 3 F W fun a w F W => ?_
     refine Ac (Ax (Az (AU ?_)))
     iterate 2 refine Az ?_
     refine AU (Az ?_)
     have H := L9 _ H
     have H := L8 _ H
     have H := L7 _ H
     have H := AA H
     subst H
     refine EA (.inl Aa) F W Aa (Ao F Aa) (Ao F Aa) ?_
     have W := W.sub (M' := []) (Z' := []) (List.Sublist.refl _) (List.nil_sublist _)
     exact ⟨(), Aa, W⟩
    refine Ek tk 10 F W fun a w F W => ?_
    refine Bq F Aa H (fun F H => ?_) fun F H => ?_
    ·
     refine vc tk 3 F W fun a w F W => ?_
     refine ls F W Aa (C7 LE F Aa).q fun a w F W => ?_
     refine vl tk 3 F W fun a w F W => ?_
     refine Ac (Ax (Az (AU ?_)))
     iterate 2 refine Az ?_
     refine AU (Az ?_)
     have H := L9 _ H
     have H := L8 _ H
     have H := L7 _ H
     have H := AA H
     subst H
     refine EA (.inl Aa) F W Aa (Ao F Aa) (Ao F Aa) ?_
     have W := W.sub (M' := []) (Z' := []) (List.Sublist.refl _) (List.nil_sublist _)
     exact ⟨(), Aa, W⟩
    refine Ek tk 6 F W fun a w F W => ?_
    refine ls F W Aa (DY Lm LB F Aa).q fun a w F W => ?_
    refine C5 tk 8 F W fun a w F W => ?_
    refine ls F W Aa (DY QY LB F Aa).q fun a w F W => ?_
    refine C5 tk 5 F W fun a w F W => ?_
    refine Aw (fun a w => Fr 172 [] [(1, .int .i64 x2), (6, .int .u64 0), (7, .nilIface), (8, .bool x3), (9, .string (bs p0)), (10, .int .u64 x16), (11, .int .u64 (IntKind.u64.wrap (x18 - 1))), (12, .bool x21), (13, .int .u64 (IntKind.u64.wrap (x22 * (IntKind.u64.wrap x2)))), (17, .int .u64 (IntKind.u64.wrap ((IntKind.u64.wrap (x22 * (IntKind.u64.wrap x2))) + (IntKind.u64.wrap x27)))), (99, v1), (100, .int .i64 ((List.map (fun b => (b.toNat : Int)) x1).length : Int)), (101, .int .i64 x23), (159, .bool (decide ((IntKind.u64.wrap ((IntKind.u64.wrap (x22 * (IntKind.u64.wrap x2))) + (IntKind.u64.wrap x27))) < (IntKind.u64.wrap (x22 * (IntKind.u64.wrap x2)))) || decide ((IntKind.u64.wrap (x18 - 1)) < (IntKind.u64.wrap ((IntKind.u64.wrap (x22 * (IntKind.u64.wrap x2))) + (IntKind.u64.wrap x27))))))] a ∧ Stw ⟨Y, [], w0⟩ [] [KY v1 (Rp.int .u8) (List.map (fun b => (b.toNat : Int)) x1)] w) ?_ ?_
    ·
     refine vc tk 5 F W fun a w F W => ?_
     rcases Bool.eq_false_or_eq_true (decide ((IntKind.u64.wrap ((IntKind.u64.wrap (x22 * (IntKind.u64.wrap x2))) + (IntKind.u64.wrap x27))) < (IntKind.u64.wrap (x22 * (IntKind.u64.wrap x2))))) with hb0 | hb0
     ·
      rw [hb0] at F
      refine vl tk 5 F W fun a w F W => ?_
      refine Ac ?_
      exact ⟨F.re ⟨rfl, Aa, Aa, Aa, Aa, Aa, Aa, Aa, Aa, Aa, Aa, Aa, Aa, (JR (by try rw [hb0]; all_goals simp only [JI])), trivial⟩, W⟩
     rw [hb0] at F
     refine vl tk 5 F W fun a w F W => ?_
     refine Ac ?_
     exact ⟨F.re ⟨rfl, Aa, Aa, Aa, Aa, Aa, Aa, Aa, Aa, Aa, Aa, Aa, Aa, (JR (by try rw [hb0]; all_goals simp only [JI])), trivial⟩, W⟩
    rintro a w ⟨F, W⟩
    refine B2 F Aa H (fun F H => ?_) fun F H => ?_
    ·
     refine vc tk 3 F W fun a w F W => ?_
     refine ls F W Aa (C7 LE F Aa).q fun a w F W => ?_
     refine vl tk 3 F W fun a w F W => ?_
     refine Ac (Ax (Az (AU ?_)))
     iterate 2 refine Az ?_
     refine AU (Az ?_)
     have H := L9 _ H
     have H := L8 _ H
     have H := L7 _ H
     have H := AA H
     subst H
     refine EA (.inl Aa) F W Aa (Ao F Aa) (Ao F Aa) ?_
     have W := W.sub (M' := []) (Z' := []) (List.Sublist.refl _) (List.nil_sublist _)
     exact ⟨(), Aa, W⟩
    refine Ek tk 6 F W fun a w F W => ?_
    refine AB (Ac ?_)
    exact ⟨_, _, H, F.ra Aa, W⟩
   rintro a w ⟨x24, x25, hj, F, W⟩
   have H := K9 _ hj
   clear hj G9 K9 L9
   refine vc tk 4 F W fun a w F W => ?_
   refine Ac ?_
   exact ⟨_, H, F.ra Aa, W⟩
  refine A1 ?_
  iterate 2 refine BC ?_
  refine Bb (Ac ?_)
  have W := W.sub (M' := []) (Z' := []) (List.Sublist.refl _) (List.nil_sublist _)
  have H := L8 _ H
  exact ⟨_, _, H, F.ra Aa, W⟩
 rintro a w ⟨x19, x20, hj, F, W⟩
 have H := K7 _ hj
 clear hj G7 K7 L7
 refine Nv ?_
 obtain ⟨o11, G11, K11⟩ := Ae H
 refine Aw (fun a w => ∃ x28 : Bool, some (x28) = some o11 ∧ Fr 172 [] [(6, .int .u64 0), (7, .nilIface), (13, .int .u64 x20), (169, .bool x28)] a ∧ Stw ⟨Y, [], w0⟩ [] [] w) ?_ ?_
 ·
  have H := G11
  clear G11 K11
  refine vc tk 3 F W fun a w F W => ?_
  rcases Bool.eq_false_or_eq_true x19 with hb | hb
  ·
   have H := Cu hb H
   rw [hb] at F
   clear hb
   refine Cw F W (Ag F Aa Aa Aa Aa) Aa (Bi Aa) (Am F Aa).q fun a w F W => ?_
   refine E5 (Ag F Aa Aa Aa Aa) ?_
   obtain ⟨x29, h12, H⟩ := Ae H
   refine ls F W Aa (AE (v := Value.bool x29) F Tq Aa (fun w W => EU any w p0 _ h12)) fun a w F W => ?_
   refine vl tk 3 F W fun a w F W => ?_
   refine Ac ?_
   exact ⟨_, H, F.ra Aa, W⟩
  have H := Ct (by rw [hb]; decide) H
  rw [hb] at F
  clear hb
  refine vl tk 5 F W fun a w F W => ?_
  refine Ac ?_
  exact ⟨_, H, F.ra Aa, W⟩
 rintro a w ⟨x28, hj, F, W⟩
 have hj := AA hj
 subst hj
 have H := K11
 clear G11 K11
 refine B2 F Aa H (fun F H => ?_) fun F H => ?_
 ·
  refine vc tk 2 F W fun a w F W => ?_
  refine ls F W Aa (C7 LE F Aa).q fun a w F W => ?_
  refine vl tk 3 F W fun a w F W => ?_
  refine Ac (Ax (Az ?_))
  have H := AA H
  subst H
  refine EA (.inl Aa) F W Aa (Ao F Aa) (Ao F Aa) ?_
  exact ⟨(), Aa, W⟩
 refine Ek tk 9 F W fun a w F W => ?_
 refine Ax ?_
 have H := AA H
 subst H
 refine EA (.inl Aa) F W Aa (Ao F Aa) (Ao F Aa) ?_
 exact ⟨(), Aa, W⟩
theorem Td : Has Tryz.prog 58 := ⟨fun args w => Af Tryz.func58 rfl (by decide) args w⟩
theorem TD : Has Tryz.prog 56 := ⟨fun args w => Af Tryz.func56 rfl (by decide) args w⟩
noncomputable def CD (p0 : List UInt8) (p1 : Int) (p2 : Int) : Option (Int ⊕ Int) := (Bw p0 p1 p2).bind fun x1 => Cq x1 (fun x2 => (IY ([80, 97, 114, 115, 101, 85, 105, 110, 116] : List UInt8) p0 p1 p2 x2.2).bind fun x4 => some (.inl x2.1)) (fun x3 => some (.inr x3))
theorem FQ (Y : Nat → Prop) (w0 : World)  (p0 : List UInt8) (p1 : Int) (p2 : Int) (r : Int ⊕ Int) (H : CD p0 p1 p2 = some r) (hG : Gk [] w0) :
    Calls Tryz.prog 45 #[.string (bs p0), .int .i64 p1, .int .i64 p2] w0 fun e w' => Ko r (fun r => ∃ x : Nat, e = .returned (.tuple #[.int .u64 r, .iface 111 (.pointer (some ⟨x, 0, none⟩))]) ∧ Stw ⟨Y, [], w0⟩ [] [] w') (fun r => ∃ x : Unit, e = .returned (.tuple #[.int .u64 r, .nilIface]) ∧ Stw ⟨Y, [], w0⟩ [] [] w') := by
 refine enter Tryz.func45 Aa Tryz.ntmps45 Aa fun a F => ?_
 have W := Stw.start Y w0
 unfold CD at H
 refine vc tk 11 F W fun a w F W => ?_
 obtain ⟨x1, h1, H⟩ := Ae H
 rcases x1 with x2 | x3
 ·
  have H := F1 H
  refine AC (Ml := []) (Zl := []) (M := []) (Z := []) (β := Unit) (rv := fun x => .tuple #[.int .u64 x2.1, .iface 108 (.int .i64 x2.2)]) (MM := fun x => []) (ZZ := fun x => []) F W Td Aa Aa (fun hL => DT _ w p0 p1 p2 _ h1) fun x a w F W => ?_
  have W : Stw ⟨Y, [], w0⟩ [] [] w := W
  refine ls F W Aa (Am F Aa).q fun a w F W => ?_
  refine ls F W Aa (Au (v := Value.int .u64 x2.1) F Aa Aa).q fun a w F W => ?_
  refine ls F W Aa (Au (v := Value.iface 108 (.int .i64 x2.2)) F Aa Aa).q fun a w F W => ?_
  refine C5 tk 8 F W fun a w F W => ?_
  refine ls F W Aa (Ff Od F Aa).q fun a w F W => ?_
  refine C5 tk 10 F W fun a w F W => ?_
  obtain ⟨x4, h2, H⟩ := Ae H
  refine AC (Ml := []) (Zl := []) (M := []) (Z := []) (β := Nat) (rv := fun x => .iface 111 (.pointer (some ⟨x, 0, none⟩))) (MM := fun x => []) (ZZ := fun x => []) F W TD Aa Aa (fun hL => P7 _ w ([80, 97, 114, 115, 101, 85, 105, 110, 116] : List UInt8) p0 p1 p2 x2.2 _ h2 (hG.go0 W)) fun x a w F W => ?_
  obtain ⟨b1, rfl⟩ : ∃ y, y = x := ⟨x, rfl⟩
  have W : Stw ⟨Y, [], w0⟩ [] [] w := W
  refine vl tk 3 F W fun a w F W => ?_
  refine Ac (Ax (Az ?_))
  have H := AA H
  subst H
  refine EA (.inl Aa) F W Aa (Ao F Aa) (Ao F Aa) ?_
  exact ⟨b1, Aa, W⟩
 have H := F3 H
 refine AC (Ml := []) (Zl := []) (M := []) (Z := []) (β := Unit) (rv := fun x => .tuple #[.int .u64 x3, .nilIface]) (MM := fun x => []) (ZZ := fun x => []) F W Td Aa Aa (fun hL => DT _ w p0 p1 p2 _ h1) fun x a w F W => ?_
 have W : Stw ⟨Y, [], w0⟩ [] [] w := W
 refine ls F W Aa (Am F Aa).q fun a w F W => ?_
 refine ls F W Aa (Au (v := Value.int .u64 x3) F Aa Aa).q fun a w F W => ?_
 refine ls F W Aa (Au (v := Value.nilIface) F Aa Aa).q fun a w F W => ?_
 refine C5 tk 8 F W fun a w F W => ?_
 refine ls F W Aa (FR Od F Aa).q fun a w F W => ?_
 refine C5 tk 4 F W fun a w F W => ?_
 refine vn tk 7 F W fun a w F W => ?_
 refine Ax ?_
 have H := AA H
 subst H
 refine EA (.inl Aa) F W Aa (Ao F Aa) (Ao F Aa) ?_
 exact ⟨(), Aa, W⟩
theorem S5 : Has Tryz.prog 45 := ⟨fun args w => Af Tryz.func45 rfl (by decide) args w⟩
noncomputable def Br (p0 : List UInt8 × Int) (x3 : List (List UInt8)) : (List Int × Int) → Option ((List Int × Int) ⊕ ((List Int) ⊕ ((List Int × (List UInt8 × Int)) ⊕ (Int × (List UInt8 × Int)))))
  | (x5, x6) => (if x6 < (x3.length : Int) then (ix x3 x6).bind fun x7 => (CD x7 16 64).bind fun x8 => Cq x8 (fun x9 => some (.inr (.inr (.inr ((As p0), p0))))) (fun x10 => (EB x10).bind fun x11 => (if x11 ≠ x7 then some (.inr (.inr (.inr ((As p0), p0)))) else (Dg x5 ([x10] : List Int)).bind fun x12 => some (.inl (x12, BD (x6 + 1))))) else some (.inr (.inl x5)))
noncomputable def Ch (p0 : List UInt8 × Int) (p1 : List UInt8) : Option ((List Int × (List UInt8 × Int)) ⊕ (Int × (List UInt8 × Int))) := ES ((BW p0 p1).bind fun x2 => Cq x2 (fun x3 => Av (Br p0 x3) ([], 0)) (fun x4 => some (.inr (.inr (x4, p0))))) fun x1 => (BQ p0).bind fun x13 => some (.inl (x1, x13))
theorem FN (Y : Nat → Prop) (X : List Nat) (w0 : World) (q_p0 : Nat) (p0 : List UInt8 × Int) (p1 : List UInt8) (r : (List Int × (List UInt8 × Int)) ⊕ (Int × (List UInt8 × Int))) (H : Ch p0 p1 = some r) (hG : Gk X w0) (hL : Stw ⟨Y, X, w0⟩ [(q_p0, [.string (bs p0.1), .int .i64 p0.2])] [] w0) :
    Calls Tryz.prog 17 #[.pointer (some ⟨q_p0, 0, none⟩), .string (bs p1)] w0 fun e w' => Ko r (fun r => ∃ x : Value, e = .returned (x) ∧ Stw ⟨Y, X, w0⟩ [(q_p0, [.string (bs r.2.1), .int .i64 r.2.2])] [row (x) 41 (Rp.int .u64) r.1] w') (fun r => ∃ x : Unit, e = .panicked [{ v := .iface 81 (.agg #[.int .i64 r.1]), recovered := false }] ∧ Stw ⟨Y, X, w0⟩ [(q_p0, [.string (bs r.2.1), .int .i64 r.2.2])] [] w') := by
 refine enter Tryz.func17 Aa Tryz.ntmps17 Aa fun a F => ?_
 have W := hL
 unfold Ch at H
 refine vc tk 10 F W fun a w F W => ?_
 obtain ⟨o1, G1, K1, L1⟩ := HU H
 refine Aw (fun a w => ∃ x1 : List Int, ∃ v1 : Value, some (Sum.inl x1) = some o1 ∧ Fr 41 [] [(0, .pointer (some ⟨q_p0, 0, none⟩)), (4, .slice none 0 0), (5, v1)] a ∧ Stw ⟨Y, X, w0⟩ [(q_p0, [.string (bs p0.1), .int .i64 p0.2])] [row v1 41 (Rp.int .u64) x1] w) ?_ ?_
 ·
  have H := G1
  clear G1 K1
  refine vc tk 4 F W fun a w F W => ?_
  obtain ⟨x2, h1, H⟩ := Ae H
  rcases x2 with x3 | x4
  ·
   have H := F1 H
   refine AC (Ml := []) (Zl := []) (M := [(q_p0, [.string (bs p0.1), .int .i64 p0.2])]) (Z := []) (β := Value) (rv := fun x => x) (MM := fun x => []) (ZZ := fun x => [row x 9 Rp.str x3]) F W Sn Aa Aa (fun hL => Dp _ w q_p0 p0 p1 _ h1 (G0 W 0 Aa) (hG.go0 W)) fun x a w F W => ?_
   obtain ⟨v2, rfl⟩ : ∃ y, y = x := ⟨x, rfl⟩
   have W : Stw ⟨Y, X, w0⟩ [(q_p0, [.string (bs p0.1), .int .i64 p0.2])] [row v2 9 Rp.str x3] w := W
   refine ls F W Aa (BN (r := Rp.str) (l := x3) MJ Aa F Aa (Ap 0 Aa)).q fun a w F W => ?_
   refine C5 tk 4 F W fun a w F W => ?_
   have W := W.nilRow 41 (Rp.int .u64)
   have W := W.frontZ (i := 1) Aa Aa
   have W := W.frontZ (i := 1) Aa Aa
   refine Bl H (fun s a w => ∃ v3 : Value, Fr 41 [] [(0, .pointer (some ⟨q_p0, 0, none⟩)), (4, .slice none 0 0), (5, v3), (12, v2), (13, .int .i64 (x3.length : Int)), (14, .int .i64 s.2)] a ∧ Stw ⟨Y, X, w0⟩ [(q_p0, [.string (bs p0.1), .int .i64 p0.2])] [row v3 41 (Rp.int .u64) s.1, row v2 9 Rp.str x3] w) ⟨(Value.slice none 0 0), F.ra Aa, W⟩ fun s o a w H L2 hR => ?_
   obtain ⟨x5, x6⟩ := s
   obtain ⟨v3, F, W⟩ := hR
   have F : Fr 41 [] [(0, .pointer (some ⟨q_p0, 0, none⟩)), (4, .slice none 0 0), (5, v3), (12, v2), (13, .int .i64 (x3.length : Int)), (14, .int .i64 x6)] a := F
   have W : Stw ⟨Y, X, w0⟩ [(q_p0, [.string (bs p0.1), .int .i64 p0.2])] [row v3 41 (Rp.int .u64) x5, row v2 9 Rp.str x3] w := W
   rw [Br] at H
   refine vc tk 6 F W fun a w F W => ?_
   refine Bq F Aa H (fun F H => ?_) fun F H => ?_
   ·
    refine Ek tk 6 F W fun a w F W => ?_
    obtain ⟨x7, h2, H⟩ := Ae H
    refine ls F W Aa (AR (r := Rp.str) JP F Aa Aa (Ap 1 Aa) h2).q fun a w F W => ?_
    refine ls F W Aa (An (y := Value.string (bs x7)) (j := 0) (i := x6) F Aa Aa (Ap 1 Aa) h2 Fl.str.to T9 Aa).q fun a w F W => ?_
    refine C5 tk 6 F W fun a w F W => ?_
    obtain ⟨x8, h3, H⟩ := Ae H
    rcases x8 with x9 | x10
    ·
     have H := F1 H
     refine AC (Ml := []) (Zl := []) (M := [(q_p0, [.string (bs p0.1), .int .i64 p0.2])]) (Z := [row v3 41 (Rp.int .u64) x5, row v2 9 Rp.str x3]) (β := Nat) (rv := fun x => .tuple #[.int .u64 x9, .iface 111 (.pointer (some ⟨x, 0, none⟩))]) (MM := fun x => []) (ZZ := fun x => []) F W S5 Aa Aa (fun hL => FQ _ w x7 16 64 _ h3 (hG.go0 W)) fun x a w F W => ?_
     obtain ⟨b1, rfl⟩ : ∃ y, y = x := ⟨x, rfl⟩
     have W : Stw ⟨Y, X, w0⟩ [(q_p0, [.string (bs p0.1), .int .i64 p0.2])] [row v3 41 (Rp.int .u64) x5, row v2 9 Rp.str x3] w := W
     refine ls F W Aa (Am F Aa).q fun a w F W => ?_
     refine ls F W Aa (Au (v := Value.int .u64 x9) F Aa Aa).q fun a w F W => ?_
     refine ls F W Aa (Au (v := Value.iface 111 (.pointer (some ⟨b1, 0, none⟩))) F Aa Aa).q fun a w F W => ?_
     refine C5 tk 8 F W fun a w F W => ?_
     refine ls F W Aa (Ff Od F Aa).q fun a w F W => ?_
     refine C5 tk 11 F W fun a w F W => ?_
     refine B4 (Ml := []) (Zl := []) (M := [(q_p0, [.string (bs p0.1), .int .i64 p0.2])]) (Z := [row v3 41 (Rp.int .u64) x5, row v2 9 Rp.str x3]) (β := Unit) (pv := fun x => .iface 81 (.agg #[.int .i64 (As p0)])) (MM := fun x => []) (ZZ := fun x => []) F W QP Aa (fun hL => B0 _ w q_p0 p0 _ Aa (G0 W 0 Aa)) fun x w W => ?_
     have W : Stw ⟨Y, X, w0⟩ [(q_p0, [.string (bs p0.1), .int .i64 p0.2])] [row v3 41 (Rp.int .u64) x5, row v2 9 Rp.str x3] w := W
     refine BH (Di ?_)
     iterate 2 refine BH ?_
     refine Di (BH ?_)
     have H := L2 _ H
     have H := L1 _ H
     have H := AA H
     subst H
     refine CB F ?_
     have W := W.sub (M' := [(q_p0, [.string (bs p0.1), .int .i64 p0.2])]) (Z' := []) (List.Sublist.refl _) (List.nil_sublist _)
     exact ⟨(), Aa, W⟩
    have H := F3 H
    refine AC (Ml := []) (Zl := []) (M := [(q_p0, [.string (bs p0.1), .int .i64 p0.2])]) (Z := [row v3 41 (Rp.int .u64) x5, row v2 9 Rp.str x3]) (β := Unit) (rv := fun x => .tuple #[.int .u64 x10, .nilIface]) (MM := fun x => []) (ZZ := fun x => []) F W S5 Aa Aa (fun hL => FQ _ w x7 16 64 _ h3 (hG.go0 W)) fun x a w F W => ?_
    have W : Stw ⟨Y, X, w0⟩ [(q_p0, [.string (bs p0.1), .int .i64 p0.2])] [row v3 41 (Rp.int .u64) x5, row v2 9 Rp.str x3] w := W
    refine ls F W Aa (Am F Aa).q fun a w F W => ?_
    refine ls F W Aa (Au (v := Value.int .u64 x10) F Aa Aa).q fun a w F W => ?_
    refine ls F W Aa (Au (v := Value.nilIface) F Aa Aa).q fun a w F W => ?_
    refine C5 tk 8 F W fun a w F W => ?_
    refine ls F W Aa (FR Od F Aa).q fun a w F W => ?_
    refine vl tk 2 F W fun a w F W => ?_
    refine E5 (Ag F Aa Aa Aa Aa) ?_
    obtain ⟨x11, h4, H⟩ := Ae H
    refine ls F W Aa (AE (v := Value.string (bs x11)) F S6 Aa (fun w W => I2 any w x10 _ h4 (hG.go0 W))) fun a w F W => ?_
    refine Cw F W (Ag F Aa Aa Aa Aa) Aa (Bi Aa) (Am F Aa).q fun a w F W => ?_
    refine Cw F W (Ag F Aa Aa Aa Aa) Aa (Bi Aa) (Mq (l := x11) (m := x7) F Aa Aa).q fun a w F W => ?_
    refine vl tk 2 F W fun a w F W => ?_
    refine Ac ?_
    refine H0 F Aa (fun hb => ?_) fun hb => ?_
    ·
     have H := Cu (Dc hb) H
     rw [hb] at F
     clear hb
     refine vc tk 2 F W fun a w F W => ?_
     refine B4 (Ml := []) (Zl := []) (M := [(q_p0, [.string (bs p0.1), .int .i64 p0.2])]) (Z := [row v3 41 (Rp.int .u64) x5, row v2 9 Rp.str x3]) (β := Unit) (pv := fun x => .iface 81 (.agg #[.int .i64 (As p0)])) (MM := fun x => []) (ZZ := fun x => []) F W QP Aa (fun hL => B0 _ w q_p0 p0 _ Aa (G0 W 0 Aa)) fun x w W => ?_
     have W : Stw ⟨Y, X, w0⟩ [(q_p0, [.string (bs p0.1), .int .i64 p0.2])] [row v3 41 (Rp.int .u64) x5, row v2 9 Rp.str x3] w := W
     refine BH (Di ?_)
     iterate 2 refine BH ?_
     refine Di (BH ?_)
     have H := L2 _ H
     have H := L1 _ H
     have H := AA H
     subst H
     refine CB F ?_
     have W := W.sub (M' := [(q_p0, [.string (bs p0.1), .int .i64 p0.2])]) (Z' := []) (List.Sublist.refl _) (List.nil_sublist _)
     exact ⟨(), Aa, W⟩
    have H := Ct (Db hb) H
    rw [hb] at F
    clear hb
    refine Ek tk 5 F W fun a w F W => ?_
    refine CY (z := Value.int .u64 0) (cs := [.int .u64 x10]) (Rp.int .u64) ([x10] : List Int) F W Aa Pn S0 Aa Aa Aa Aa Aa Aa (Fl.int.repL _ _ ([x10] : List Int)) fun v4 a w F W => ?_
    obtain ⟨x12, h5, H⟩ := Ae H
    refine Do (r := (Rp.int .u64)) (i := 1) F W Aa Pn Aa Aa Aa Aa (DZ W 0 Aa) h5 Aa fun v5 a w F W => ?_
    have W : Stw ⟨Y, X, w0⟩ [(q_p0, [.string (bs p0.1), .int .i64 p0.2])] [row v5 41 (Rp.int .u64) x12, row v4 41 (Rp.int .u64) ([x10] : List Int), row v2 9 Rp.str x3] w := W
    refine vl tk 2 F W fun a w F W => ?_
    refine AB ?_
    refine vn tk 4 F W fun a w F W => ?_
    refine Ac ?_
    have W := W.frontZ (i := 2) Aa Aa
    have W := W.frontZ (i := 1) Aa Aa
    have W := W.sub (M' := [(q_p0, [.string (bs p0.1), .int .i64 p0.2])]) (Z' := [row v5 41 (Rp.int .u64) x12, row v2 9 Rp.str x3]) (List.Sublist.refl _) (List.Sublist.cons_cons _ (List.Sublist.cons_cons _ (List.nil_sublist _)))
    exact ⟨_, H, (v5), F.ra Aa, W⟩
   refine A1 ?_
   iterate 2 refine BC ?_
   refine Bb (Ac ?_)
   have W := W.sub (M' := [(q_p0, [.string (bs p0.1), .int .i64 p0.2])]) (Z' := [row v3 41 (Rp.int .u64) x5]) (List.Sublist.refl _) (List.Sublist.cons_cons _ (List.nil_sublist _))
   have H := L2 _ H
   exact ⟨_, (v3), H, F.ra Aa, W⟩
  have H := F3 H
  refine B4 (Ml := []) (Zl := []) (M := [(q_p0, [.string (bs p0.1), .int .i64 p0.2])]) (Z := []) (β := Unit) (pv := fun x => .iface 81 (.agg #[.int .i64 x4])) (MM := fun x => []) (ZZ := fun x => []) F W Sn Aa (fun hL => Dp _ w q_p0 p0 p1 _ h1 (G0 W 0 Aa) (hG.go0 W)) fun x w W => ?_
  have W : Stw ⟨Y, X, w0⟩ [(q_p0, [.string (bs p0.1), .int .i64 p0.2])] [] w := W
  iterate 2 refine BH ?_
  have H := L1 _ H
  have H := AA H
  subst H
  refine CB F ?_
  exact ⟨(), Aa, W⟩
 rintro a w ⟨x1, v1, hj, F, W⟩
 have H := K1 _ hj
 clear hj G1 K1 L1
 refine vc tk 3 F W fun a w F W => ?_
 obtain ⟨x13, h6, H⟩ := Ae H
 refine AC (Ml := [(q_p0, [.string (bs p0.1), .int .i64 p0.2])]) (Zl := []) (M := []) (Z := [row v1 41 (Rp.int .u64) x1]) (β := Unit) (rv := fun x => .tuple #[]) (MM := fun x => [(q_p0, [.string (bs x13.1), .int .i64 x13.2])]) (ZZ := fun x => []) F W Tf Aa Aa (fun hL => FP _ _ w q_p0 p0 _ h6 (hG.go W) hL) fun x a w F W => ?_
 have W : Stw ⟨Y, X, w0⟩ [(q_p0, [.string (bs x13.1), .int .i64 x13.2])] [row v1 41 (Rp.int .u64) x1] w := W
 refine C5 tk 8 F W fun a w F W => ?_
 refine Ax ?_
 have H := AA H
 subst H
 refine BB (.inl Aa) F W Aa (Ao F Aa) ?_
 exact ⟨(v1), Aa, W⟩
theorem Tn : Has Tryz.prog 17 := ⟨fun args w => Af Tryz.func17 rfl (by decide) args w⟩
def Dz (p0 : List UInt8 × Int) : Unit ⊕ Int := (if p0.1 ≠ ([] : List UInt8) then .inr (As p0) else .inl ())
theorem F2 (Y : Nat → Prop) (w0 : World) (q_p0 : Nat) (p0 : List UInt8 × Int) (r : Unit ⊕ Int) (H : Dz p0 = r) (a_q_p0 : At ⟨Y, [], w0⟩ q_p0 0 [.string (bs p0.1), .int .i64 p0.2]) :
    Calls Tryz.prog 18 #[.pointer (some ⟨q_p0, 0, none⟩)] w0 fun e w' => Ko r (fun r => ∃ x : Unit, e = .returned (.tuple #[]) ∧ Stw ⟨Y, [], w0⟩ [] [] w') (fun r => ∃ x : Unit, e = .panicked [{ v := .iface 81 (.agg #[.int .i64 r]), recovered := false }] ∧ Stw ⟨Y, [], w0⟩ [] [] w') := by
 refine enter Tryz.func18 Aa Tryz.ntmps18 Aa fun a F => ?_
 have W := Stw.start Y w0
 unfold Dz at H
 refine vc tk 3 F W fun a w F W => ?_
 refine ls F W Aa (Er F Aa).q fun a w F W => ?_
 refine ls F W Aa (Aj NK Aa Aa Aa T9 F Aa 0 Aa).q fun a w F W => ?_
 refine ls F W Aa (IM (y := Value.string (bs p0.1)) (j := 0) F Aa (Nat.zero_add _).symm a_q_p0 T9 Aa).q fun a w F W => ?_
 refine ls F W Aa (Mq (l := p0.1) (m := ([] : List UInt8)) F Aa Aa).q fun a w F W => ?_
 refine CJ (Ac ?_)
 refine Bq F Aa H (fun F H => ?_) fun F H => ?_
 ·
  refine vc tk 2 F W fun a w F W => ?_
  refine B4 (Ml := []) (Zl := []) (M := []) (Z := []) (β := Unit) (pv := fun x => .iface 81 (.agg #[.int .i64 (As p0)])) (MM := fun x => []) (ZZ := fun x => []) F W QP Aa (fun hL => B0 _ w q_p0 p0 _ Aa (At.re a_q_p0 W)) fun x w W => ?_
  have W : Stw ⟨Y, [], w0⟩ [] [] w := W
  subst H
  refine CB F ?_
  exact ⟨(), Aa, W⟩
 refine Bp ?_
 subst H
 refine Nu (.inr Aa) F Aa ?_
 exact ⟨(), Aa, W⟩
theorem S7 : Has Tryz.prog 18 := ⟨fun args w => Af Tryz.func18 rfl (by decide) args w⟩
def FW (p0 : (Int × (List (Int × Int × Int × Int × Int × Int)) × (List (Int × Int))) × List (List Int) × List Int × Int × Int × Int × Int × Int × Int) (p1 : Int) (p2 : Int) : Unit := ()
theorem Hr (Y : Nat → Prop) (X : List Nat) (w0 : World) (q_p0 : Nat) (v1 : Value) (v2 : Value) (v3 : Value) (v4 : Value) (q_p1 : Nat) (q_p2 : Nat) (p0 : (Int × (List (Int × Int × Int × Int × Int × Int)) × (List (Int × Int))) × List (List Int) × List Int × Int × Int × Int × Int × Int × Int) (p1 : Int) (p2 : Int) (r : Unit) (H : FW p0 p1 p2 = r) (hL : Stw ⟨Y, X, w0⟩ [(q_p0, [.int .i64 p0.1.1, v1, v2, v3, v4, .int .i64 p0.2.2.2.1, .int .i64 p0.2.2.2.2.1, .int .i64 p0.2.2.2.2.2.1, .int .i64 p0.2.2.2.2.2.2.1, .int .i64 p0.2.2.2.2.2.2.2.1, .int .i64 p0.2.2.2.2.2.2.2.2]), (q_p1, [.int .i64 p1]), (q_p2, [.int .i64 p2])] [row v1 50 AV p0.1.2.1, row v2 52 A3 p0.1.2.2, row v3 40 (Rp.slice (Rp.int .u64)) p0.2.1, row v4 3 (Rp.int .i64) p0.2.2.1] w0) :
    CallsD Tryz.prog 12 #[.pointer (some ⟨q_p0, 0, none⟩), .pointer (some ⟨q_p1, 0, none⟩), .pointer (some ⟨q_p2, 0, none⟩)] .returning w0 fun e u' w' => u' = .returning ∧ (∃ x : Unit, e = .returned (.tuple #[]) ∧ Stw ⟨Y, X, w0⟩ [(q_p0, [.int .i64 p0.1.1, v1, v2, v3, v4, .int .i64 p0.2.2.2.1, .int .i64 p0.2.2.2.2.1, .int .i64 p0.2.2.2.2.2.1, .int .i64 p0.2.2.2.2.2.2.1, .int .i64 p0.2.2.2.2.2.2.2.1, .int .i64 p0.2.2.2.2.2.2.2.2]), (q_p1, [.int .i64 p1]), (q_p2, [.int .i64 p2])] [row v1 50 AV p0.1.2.1, row v2 52 A3 p0.1.2.2, row v3 40 (Rp.slice (Rp.int .u64)) p0.2.1, row v4 3 (Rp.int .i64) p0.2.2.1] w') := by
 refine Km Tryz.func12 Aa Tryz.ntmps12 Aa Aa Aa fun a F => ?_
 have W := hL
 unfold FW at H
 refine vc tk 3 F W fun a w F W => ?_
 refine ls F W Aa (FR RH F Aa).q fun a w F W => ?_
 refine C5 tk 4 F W fun a w F W => ?_
 subst H
 refine Nu (.inr Aa) F Aa ?_
 have W := W.frontZ (i := 3) Aa Aa
 have W := W.frontZ (i := 3) Aa Aa
 have W := W.frontZ (i := 3) Aa Aa
 have W := W.frontZ (i := 3) Aa Aa
 have W := W.frontM (i := 2) Aa Aa
 have W := W.frontM (i := 2) Aa Aa
 have W := W.frontM (i := 2) Aa Aa
 exact ⟨(), Aa, W⟩
end Go.Proofs.YthmkgdnnocemmaaGreatDoor
