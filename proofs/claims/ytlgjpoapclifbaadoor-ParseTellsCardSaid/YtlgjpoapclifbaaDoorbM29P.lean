/- Layer 29: the two parsers. Conditions: none. -/
import Derived.Test.YtlgjpoapclifbaaDoorbM29
import Derived.Test.YtlgjpoapclifbaaDoorbM29T
namespace Go.Proofs.YtlgjpoapclifbaaDoor
set_option linter.unusedVariables false
set_option linter.unusedSimpArgs false
open Go Go.RowKit
abbrev PC := Option ((Tr25 × Ps) ⊕ Pn)
abbrev PD := Option ((Tr28 × Ps) ⊕ Pn)
theorem I7 (k f v : Int) (L : List Tr25) : th (Tr25.of (k, f, v, L)) = Tr34.of (k, f, v, L.map th) := by rw [Rr]; rfl
theorem Hk (k f v : Int) (L : List Tr25) : (Tr25.of (k, f, v, L)).cnt = 1 + (L.map Tr25.cnt).sum := by rw [Nt]; rfl
theorem Kc (k : Int) (p : Tr25) (f v : Int) (L : List Tr28) : pt (Tr28.of (k, p, f, v, L)) = Tr37.of (k, th p, f, v, L.map pt) := by rw [Rb]; rfl
theorem Ha (k : Int) (p : Tr25) (f v : Int) (L : List Tr28) : (Tr28.of (k, p, f, v, L)).cnt = 1 + (p.cnt + (L.map Tr28.cnt).sum) := by rw [Pr]; rfl
theorem Sv : (Tr25.of (0, 0, 0, [])).cnt = 1 := by rw [Hk]; rfl
theorem O7 : th (Tr25.of (0, 0, 0, [])) = Tr34.of (0, 0, 0, []) := by rw [I7]; rfl
theorem J6 {l : List Fj} {i : Nat} (h : i < l.length) {s : List UInt8} (c : Ia l[i] s = true) : CJ l (i : Int) s = some true := by rw [Nk h, c]
theorem JZ {l : List Fj} {i : Nat} (h : i < l.length) {s : List UInt8} (c : ¬ Ia l[i] s = true) : CJ l (i : Int) s = some false := by rw [Nk h]; congr 1; simpa using c
section conds
variable {l : List Fj} (hl : Tks l)
include hl
theorem QF {C : Ps → PC} {C' : List Fj → Int → Option (Tr34 × Int × Bool)} {i0 : Nat} (hC : ∀ j : Nat, i0 < j → j < l.length → JP th Tr25.cnt l j (C (l, (j : Int))) (C' l (j : Int))) :
    ∀ (d j : Nat), l.length - j ≤ d → i0 ≤ j → j < l.length → ∀ m m', d < m → d < m' → JP th Tr25.cnt l j (Bh C m (l, (j : Int))) (Dw C' m' l (j : Int)) := by
  intro d
  induction d with
  | zero => intro j h1 h2 h3; omega
  | succ d ih =>
    intro j hd hi hj m m' hm hm'
    obtain ⟨m, rfl⟩ : ∃ k, m = k + 1 := ⟨m - 1, by omega⟩
    obtain ⟨m', rfl⟩ : ∃ k, m' = k + 1 := ⟨m' - 1, by omega⟩
    show JP th Tr25.cnt l j (BA C (Bh C m) (l, (j : Int))) (DR C' (Dw C' m') l (j : Int))
    unfold BA DR
    by_cases c1 : Ia l[j] [116, 114, 117, 101] = true
    · have hn := C7 hl hj c1
      rw [EE hl hj c1, J6 hj c1, F7 hl hj]
      exact .inl ⟨Tr25.of (1, 0, 0, []), j + 1, rfl, by rw [I7]; rfl, by omega, hn, by rw [Hk]; simp <;> omega⟩
    rw [EC hj c1, JZ hj c1]
    simp only [Option.bind_some, Bool.false_eq_true, if_false]
    by_cases c2 : Ia l[j] [102, 97, 108, 115, 101] = true
    · have hn := C7 hl hj c2
      rw [EE hl hj c2, J6 hj c2, F7 hl hj]
      exact .inl ⟨Tr25.of (2, 0, 0, []), j + 1, rfl, by rw [I7]; rfl, by omega, hn, by rw [Hk]; simp <;> omega⟩
    rw [EC hj c2, JZ hj c2]
    simp only [Option.bind_some, Bool.false_eq_true, if_false]
    by_cases c3 : Ia l[j] [110, 111, 116] = true
    · have hn := C7 hl hj c3
      rw [EE hl hj c3, J6 hj c3, F7 hl hj]
      simp only [Option.bind_some, if_true]
      rcases ih (j + 1) (by omega) (by omega) hn m m' (by omega) (by omega) with ⟨x, j', p1, p2, p3, p4, p5⟩ | ⟨k, hk, q, y, p1, p2⟩
      · rw [p1, p2]
        exact .inl ⟨Tr25.of (4, 0, 0, [x]), j', rfl, by rw [I7]; rfl, by omega, p4, by rw [Hk]; simp <;> omega⟩
      · rw [p1, p2]
        exact .inr ⟨k, hk, q, _, rfl, rfl⟩
    rw [EC hj c3, JZ hj c3]
    simp only [Option.bind_some, Bool.false_eq_true, if_false]
    by_cases c4 : Ia l[j] [40] = true
    · have hn := C7 hl hj c4
      rw [EE hl hj c4, J6 hj c4, F7 hl hj]
      simp only [Option.bind_some, if_true]
      rcases hC (j + 1) (by omega) hn with ⟨x, j', p1, p2, p3, p4, p5⟩ | ⟨k, hk, q, y, p1, p2⟩
      · rw [p1, p2]
        simp only [Option.bind_some]
        by_cases c5 : Ia l[j'] [41] = true
        · have hn' := C7 hl p4 c5
          refine .inl ⟨x, j' + 1, ?_, ?_, by omega, hn', by omega⟩
          · show (AA (l, (j' : Int)) [41]).bind _ = _
            rw [FX hl p4 c5]; rfl
          · rw [if_neg (by decide), J6 p4 c5]
            simp only [Option.bind_some, Bool.not_true, Bool.false_eq_true, if_false]
            rw [F7 hl p4]
        · refine .inr ⟨j', p4, (l, (j' : Int)), th x, ?_, ?_⟩
          · show (AA (l, (j' : Int)) [41]).bind _ = _
            rw [Hu p4 c5]; rfl
          · rw [if_neg (by decide), JZ p4 c5]; rfl
      · rw [p1, p2]
        exact .inr ⟨k, hk, q, _, rfl, rfl⟩
    rw [EC hj c4, JZ hj c4]
    simp only [Option.bind_some, Bool.false_eq_true, if_false]
    rcases Mq hl hj (m := 6) (by omega) (by omega) [61] with ⟨a1, a2⟩ | ⟨f, a1, h1, ⟨b1, b2⟩ | ⟨b1, h2, ⟨b2, b3⟩ | ⟨b2, h3, b3⟩⟩⟩
    · rw [show (5 : Int) = ((6 : Nat) : Int) - 1 from rfl, a1, show (6 : Int) = ((6 : Nat) : Int) from rfl, a2]
      exact .inr ⟨j, hj, _, _, rfl, rfl⟩
    · rw [show (5 : Int) = ((6 : Nat) : Int) - 1 from rfl, a1, show (6 : Int) = ((6 : Nat) : Int) from rfl, b2]
      refine .inr ⟨j + 1, h1, (l, ((j + 1 : Nat) : Int)), Tr34.of (3, 0, 0, []), ?_, rfl⟩
      show (AA (l, ((j + 1 : Nat) : Int)) [61]).bind _ = _
      rw [Hu h1 b1]; rfl
    · rw [show (5 : Int) = ((6 : Nat) : Int) - 1 from rfl, a1, show (6 : Int) = ((6 : Nat) : Int) from rfl, b3]
      refine .inr ⟨j + 2, h2, (l, ((j + 2 : Nat) : Int)), Tr34.of (3, 0, 0, []), ?_, rfl⟩
      show (AA (l, ((j + 1 : Nat) : Int)) [61]).bind _ = _
      rw [FX hl h1 b1, Option.bind_some]
      show (Be (l, ((j + 2 : Nat) : Int))).bind _ = _
      rw [NJ h2 b2]; rfl
    · rw [show (5 : Int) = ((6 : Nat) : Int) - 1 from rfl, a1, show (6 : Int) = ((6 : Nat) : Int) from rfl, b3]
      refine .inl ⟨Tr25.of (3, f, l[j + 2].2.1, []), j + 3, ?_, by rw [I7]; rfl, by omega, h3, by rw [Hk]; simp <;> omega⟩
      show (AA (l, ((j + 1 : Nat) : Int)) [61]).bind _ = _
      rw [FX hl h1 b1, Option.bind_some]
      show (Be (l, ((j + 2 : Nat) : Int))).bind _ = _
      rw [NV hl h2 b2]; rfl
omit hl in
theorem KI {A A' : Type} {f : A → A'} {c : A → Nat} {i : Nat} {g : Nat → Option ((A × Ps) ⊕ Pn)} {g' : Nat → Option (A' × Int × Bool)} (hg : ∀ n r, g n = some r → g (n + 1) = some r) (hg' : ∀ n r, g' n = some r → g' (n + 1) = some r) (n n' : Nat) (h : JP f c l i (g n) (g' n')) : JP f c l i (Gx g) (Gx g') := by
  rcases h with ⟨x, j, p1, p2, p3⟩ | ⟨k, hk, q, y, p1, p2⟩
  · exact .inl ⟨x, j, Dd hg p1, Dd hg' p2, p3⟩
  · exact .inr ⟨k, hk, q, y, Dd hg p1, Dd hg' p2⟩
theorem N4 {C : Ps → PC} {C' : List Fj → Int → Option (Tr34 × Int × Bool)} {i0 : Nat} (hC : ∀ j : Nat, i0 < j → j < l.length → JP th Tr25.cnt l j (C (l, (j : Int))) (C' l (j : Int))) (j : Nat) (h1 : i0 ≤ j) (h2 : j < l.length) :
    JP th Tr25.cnt l j (Ca C (l, (j : Int))) (GH C' l (j : Int)) :=
  KI (g := fun n => Bh C n (l, (j : Int))) (g' := fun n => Dw C' n l (j : Int)) (fun n r h => Cn (fun _ => Le.rfl' _) n _ r h) (fun n r h => FT (fun _ _ => Le.rfl' _) n _ _ r h) (l.length - j + 1) (l.length - j + 1) (QF hl hC (l.length - j) j (Nat.le_refl _) h1 h2 _ _ (by omega) (by omega))
theorem QE {C : Ps → PC} {C' : List Fj → Int → Option (Tr34 × Int × Bool)} {i0 : Nat} (hC : ∀ j : Nat, i0 < j → j < l.length → JP th Tr25.cnt l j (C (l, (j : Int))) (C' l (j : Int))) (j : Nat) (h1 : i0 ≤ j) (h2 : j < l.length) :
    JP th Tr25.cnt l j (BL C (l, (j : Int))) (En C' l (j : Int)) := by
  have hg := IV (f := th) (c := Tr25.cnt) hl (sep := [97, 110, 100]) (pf := Ca C) (rf := GH C') (cmp := fun y : Tr34 => y.un) (mk := fun (k : Int) (ok : Bool) (ys : List Tr34) (r : Int × Int × Int × List Tr34) => (k, ok, ys, r.1, r.2.1, r.2.2.1, r.2.2.2))
    (S := Bf C [97, 110, 100]) (T := Dr C' l) h2 (fun k g1 g2 => N4 hl hC k (by omega) g2) (fun xs k => rfl) (fun k ok ys r => rfl)
    (node := fun xs => Tr25.of (5, 0, 0, xs)) (node' := fun ys => Tr34.of (5, 0, 0, ys)) (un := fun r => Tr34.of r) (fun y => PZ y) (fun xs => I7 ..) (fun xs => by rw [Hk]; omega)
    (P := (BH C) (l, (j : Int)) [97, 110, 100]) (R := En C' l (j : Int)) (fin := fun z => if (z.2.2.1.length : Int) = 1 then some (Tr34.of (z.2.2.2.1, z.2.2.2.2.1, z.2.2.2.2.2.1, z.2.2.2.2.2.2), z.1, z.2.1) else some (Tr34.of (5, 0, 0, z.2.2.1), z.1, z.2.1)) rfl rfl (fun _ _ _ _ => rfl)
  unfold BL
  rcases hg with ⟨x, k, p1, p2, p3⟩ | ⟨k, hk, q, y, p1, p2⟩
  · rw [p1]; exact .inl ⟨x, k, rfl, p2, p3⟩
  · rw [p1]; exact .inr ⟨k, hk, q, y, rfl, p2⟩
theorem RG : ∀ (d i : Nat), l.length - i ≤ d → i < l.length → ∀ n n', d < n → d < n' → JP th Tr25.cnt l i (AW n (l, (i : Int))) (CK n' l (i : Int)) := by
  intro d
  induction d with
  | zero => intro i h1 h2; omega
  | succ d ih =>
    intro i hd hi n n' hn hn'
    obtain ⟨n, rfl⟩ : ∃ k, n = k + 1 := ⟨n - 1, by omega⟩
    obtain ⟨n', rfl⟩ : ∃ k, n' = k + 1 := ⟨n' - 1, by omega⟩
    show JP th Tr25.cnt l i (Bg (AW n) (l, (i : Int))) (DW (CK n') l (i : Int))
    have hC : ∀ j : Nat, i < j → j < l.length → JP th Tr25.cnt l j (AW n (l, (j : Int))) (CK n' l (j : Int)) := fun j h1 h2 => ih j (by omega) h2 n n' (by omega) (by omega)
    have hg := IV (f := th) (c := Tr25.cnt) hl (sep := [111, 114]) (pf := BL (AW n)) (rf := En (CK n')) (cmp := fun y : Tr34 => y.un) (mk := fun (k : Int) (ok : Bool) (ys : List Tr34) (r : Int × Int × Int × List Tr34) => (k, ok, ys, r.1, r.2.1, r.2.2.1, r.2.2.2))
      (S := Bu (AW n) [111, 114]) (T := DV (CK n') l) hi (fun k g1 g2 => QE hl hC k (by omega) g2) (fun xs k => rfl) (fun k ok ys r => rfl)
      (node := fun xs => Tr25.of (6, 0, 0, xs)) (node' := fun ys => Tr34.of (6, 0, 0, ys)) (un := fun r => Tr34.of r) (fun y => PZ y) (fun xs => I7 ..) (fun xs => by rw [Hk]; omega)
      (P := (BS (AW n)) (l, (i : Int)) [111, 114]) (R := DW (CK n') l (i : Int)) (fin := fun z => if (z.2.2.1.length : Int) = 1 then some (Tr34.of (z.2.2.2.1, z.2.2.2.2.1, z.2.2.2.2.2.1, z.2.2.2.2.2.2), z.1, z.2.1) else some (Tr34.of (6, 0, 0, z.2.2.1), z.1, z.2.1)) rfl rfl (fun _ _ _ _ => rfl)
    unfold Bg
    rcases hg with ⟨x, k, p1, p2, p3⟩ | ⟨k, hk, q, y, p1, p2⟩
    · rw [p1]; exact .inl ⟨x, k, rfl, p2, p3⟩
    · rw [p1]; exact .inr ⟨k, hk, q, y, rfl, p2⟩
theorem LE (i : Nat) (hi : i < l.length) : JP th Tr25.cnt l i (BR (l, (i : Int))) (GO l (i : Int)) :=
  KI (g := fun n => AW n (l, (i : Int))) (g' := fun n => CK n l (i : Int)) (fun n r h => CX n _ r h) (fun n r h => Jd n _ _ r h) (l.length - i + 1) (l.length - i + 1) (RG hl (l.length - i) i (Nat.le_refl _) hi _ _ (by omega) (by omega))
theorem Oe {C : Ps → PD} {C' : List Fj → Int → Option (Tr37 × Int × Bool)} {i : Nat} (hi : i < l.length) (hC : ∀ j : Nat, i < j → j < l.length → JP pt Tr28.cnt l j (C (l, (j : Int))) (C' l (j : Int))) :
    (∃ x j, BG C (l, (i : Int)) = some (.inl (x, (l, ((j : Nat) : Int)))) ∧ D3 C' l (i : Int) = some (pt x, (j : Int), true) ∧ i < j ∧ j < l.length ∧ x.cnt ≤ 3 * (j - i) + 1) ∨
    (∃ k, ∃ h : k < l.length, ∃ q y, BG C (l, (i : Int)) = some (.inr ((l[k].2.2.2, 10), q)) ∧ D3 C' l (i : Int) = some (y, ((k : Nat) : Int), false)) := by
  unfold BG D3
  simp only [Pl, Qk, PM, Qv]
  rcases LE hl i hi with ⟨x, j, p1, p2, p3, p4, p5⟩ | ⟨k, hk, q, y, p1, p2⟩
  · rw [p1, p2]
    simp only [Option.bind_some]
    by_cases c1 : Ia l[j] [116, 104, 101, 110] = true
    · have hn := C7 hl p4 c1
      have e1 : AA ((x, (l, (j : Int))) : Tr25 × Ps).2 [116, 104, 101, 110] = _ := FX hl p4 c1
      rw [if_neg (by decide), J6 p4 c1, F7 hl p4]
      simp only [BZ, e1, Option.bind_some, Bool.not_true, Bool.false_eq_true, if_false]
      rcases hC (j + 1) (by omega) hn with ⟨a, j2, q1, q2, q3, q4, q5⟩ | ⟨k, hk, q, y, q1, q2⟩
      · rw [q1, q2]
        simp only [Option.bind_some]
        by_cases c2 : Ia l[j2] [101, 108, 115, 101] = true
        · have hn2 := C7 hl q4 c2
          have e2 : AA (l, (j2 : Int)) [101, 108, 115, 101] = _ := FX hl q4 c2
          rw [if_neg (by decide), J6 q4 c2, F7 hl q4]
          simp only [e2, Option.bind_some, Bool.not_true, Bool.false_eq_true, if_false]
          rcases hC (j2 + 1) (by omega) hn2 with ⟨b, j3, r1, r2, r3, r4, r5⟩ | ⟨k, hk, q, y, r1, r2⟩
          · rw [r1, r2]
            exact .inl ⟨Tr28.of (5, x, 0, 0, [a, b]), j3, rfl, by rw [Kc]; rfl, by omega, r4, by rw [Ha]; simp <;> omega⟩
          · rw [r1, r2]
            exact .inr ⟨k, hk, q, _, rfl, rfl⟩
        · have e2 : AA (l, (j2 : Int)) [101, 108, 115, 101] = _ := Hu q4 c2
          rw [if_neg (by decide), JZ q4 c2]
          simp only [e2, Option.bind_some, Bool.not_false, if_true]
          exact .inr ⟨j2, q4, _, _, rfl, rfl⟩
      · rw [q1, q2]
        exact .inr ⟨k, hk, q, _, rfl, rfl⟩
    · have e1 : AA ((x, (l, (j : Int))) : Tr25 × Ps).2 [116, 104, 101, 110] = _ := Hu p4 c1
      rw [if_neg (by decide), JZ p4 c1]
      simp only [BZ, e1, Option.bind_some, Bool.not_false, if_true]
      exact .inr ⟨j, p4, _, _, rfl, rfl⟩
  · rw [p1, p2]
    exact .inr ⟨k, hk, q, _, rfl, rfl⟩
theorem Ry {C : Ps → PD} {C' : List Fj → Int → Option (Tr37 × Int × Bool)} {i0 : Nat} (hC : ∀ j : Nat, i0 < j → j < l.length → JP pt Tr28.cnt l j (C (l, (j : Int))) (C' l (j : Int))) :
    ∀ (d j : Nat), l.length - j ≤ d → i0 ≤ j → j < l.length → ∀ m m', d < m → d < m' → JP pt Tr28.cnt l j (Bo C m (l, (j : Int))) (C5 C' m' l (j : Int)) := by
  intro d
  induction d using Nat.strongRecOn with
  | _ d ih =>
    intro j hd hi hj m m' hm hm'
    obtain ⟨m, rfl⟩ : ∃ k, m = k + 1 := ⟨m - 1, by omega⟩
    obtain ⟨m', rfl⟩ : ∃ k, m' = k + 1 := ⟨m' - 1, by omega⟩
    show JP pt Tr28.cnt l j (BI C (Bo C m) (l, (j : Int))) (DQ C' (C5 C' m') l (j : Int))
    unfold BI DQ
    simp only [Pl, Qk, PM, Qv, Aj]
    by_cases c1 : Ia l[j] [100, 114, 111, 112] = true
    · have hn := C7 hl hj c1
      rw [EE hl hj c1, J6 hj c1, F7 hl hj]
      exact .inl ⟨Tr28.of (1, Tr25.of (2, 0, 0, []), 0, 0, []), j + 1, rfl, by rw [Kc, I7]; rfl, by omega, hn, by rw [Ha, Hk]; simp <;> omega⟩
    rw [EC hj c1, JZ hj c1]
    simp only [Option.bind_some, Bool.false_eq_true, if_false]
    by_cases c2 : Ia l[j] [105, 100] = true
    · have hn := C7 hl hj c2
      rw [EE hl hj c2, J6 hj c2, F7 hl hj]
      exact .inl ⟨Tr28.of (1, Tr25.of (1, 0, 0, []), 0, 0, []), j + 1, rfl, by rw [Kc, I7]; rfl, by omega, hn, by rw [Ha, Hk]; simp <;> omega⟩
    rw [EC hj c2, JZ hj c2]
    simp only [Option.bind_some, Bool.false_eq_true, if_false]
    by_cases c3 : Ia l[j] [119, 104, 101, 110] = true
    · have hn := C7 hl hj c3
      rw [EE hl hj c3, J6 hj c3, F7 hl hj]
      simp only [Option.bind_some, if_true]
      rcases LE hl (j + 1) hn with ⟨x, j', p1, p2, p3, p4, p5⟩ | ⟨k, hk, q, y, p1, p2⟩
      · rw [p1, p2]
        exact .inl ⟨Tr28.of (1, x, 0, 0, []), j', rfl, by rw [Kc]; rfl, by omega, p4, by rw [Ha]; simp <;> omega⟩
      · rw [p1, p2]
        exact .inr ⟨k, hk, q, _, rfl, rfl⟩
    rw [EC hj c3, JZ hj c3]
    simp only [Option.bind_some, Bool.false_eq_true, if_false]
    by_cases c4 : Ia l[j] [105, 102] = true
    · have hn := C7 hl hj c4
      rw [EE hl hj c4, J6 hj c4, F7 hl hj]
      simp only [Option.bind_some, if_true]
      rcases Oe hl (C := Bo C m) (C' := C5 C' m') hn (fun k h1 h2 => ih (l.length - k) (by omega) k (Nat.le_refl _) (by omega) h2 m m' (by omega) (by omega)) with ⟨x, j', p1, p2, p3, p4, p5⟩ | ⟨k, hk, q, y, p1, p2⟩
      · rw [p1, p2]
        exact .inl ⟨x, j', rfl, rfl, by omega, p4, by omega⟩
      · rw [p1, p2]
        exact .inr ⟨k, hk, q, _, rfl, rfl⟩
    rw [EC hj c4, JZ hj c4]
    simp only [Option.bind_some, Bool.false_eq_true, if_false]
    by_cases c5 : Ia l[j] [40] = true
    · have hn := C7 hl hj c5
      rw [EE hl hj c5, J6 hj c5, F7 hl hj]
      simp only [Option.bind_some, if_true]
      rcases hC (j + 1) (by omega) hn with ⟨x, j', p1, p2, p3, p4, p5⟩ | ⟨k, hk, q, y, p1, p2⟩
      · rw [p1, p2]
        simp only [Option.bind_some]
        by_cases c6 : Ia l[j'] [41] = true
        · have hn' := C7 hl p4 c6
          refine .inl ⟨x, j' + 1, ?_, ?_, by omega, hn', by omega⟩
          · show (AA (l, (j' : Int)) [41]).bind _ = _
            rw [FX hl p4 c6]; rfl
          · rw [if_neg (by decide), J6 p4 c6]
            simp only [Option.bind_some, Bool.not_true, Bool.false_eq_true, if_false]
            rw [F7 hl p4]
        · refine .inr ⟨j', p4, (l, (j' : Int)), pt x, ?_, ?_⟩
          · show (AA (l, (j' : Int)) [41]).bind _ = _
            rw [Hu p4 c6]; rfl
          · rw [if_neg (by decide), JZ p4 c6]; rfl
      · rw [p1, p2]
        exact .inr ⟨k, hk, q, _, rfl, rfl⟩
    rw [EC hj c5, JZ hj c5]
    simp only [Option.bind_some, Bool.false_eq_true, if_false]
    rcases Mq hl hj (m := 5) (by omega) (by omega) [58, 61] with ⟨a1, a2⟩ | ⟨f, a1, h1, ⟨b1, b2⟩ | ⟨b1, h2, ⟨b2, b3⟩ | ⟨b2, h3, b3⟩⟩⟩
    · rw [show (4 : Int) = ((5 : Nat) : Int) - 1 from rfl, a1, show (5 : Int) = ((5 : Nat) : Int) from rfl, a2]
      exact .inr ⟨j, hj, _, _, rfl, rfl⟩
    · rw [show (4 : Int) = ((5 : Nat) : Int) - 1 from rfl, a1, show (5 : Int) = ((5 : Nat) : Int) from rfl, b2]
      refine .inr ⟨j + 1, h1, (l, ((j + 1 : Nat) : Int)), Tr37.of (2, Tr34.of (0, 0, 0, []), 0, 0, []), ?_, rfl⟩
      show (AA (l, ((j + 1 : Nat) : Int)) [58, 61]).bind _ = _
      rw [Hu h1 b1]; rfl
    · rw [show (4 : Int) = ((5 : Nat) : Int) - 1 from rfl, a1, show (5 : Int) = ((5 : Nat) : Int) from rfl, b3]
      refine .inr ⟨j + 2, h2, (l, ((j + 2 : Nat) : Int)), Tr37.of (2, Tr34.of (0, 0, 0, []), 0, 0, []), ?_, rfl⟩
      show (AA (l, ((j + 1 : Nat) : Int)) [58, 61]).bind _ = _
      rw [FX hl h1 b1, Option.bind_some]
      show (Be (l, ((j + 2 : Nat) : Int))).bind _ = _
      rw [NJ h2 b2]; rfl
    · rw [show (4 : Int) = ((5 : Nat) : Int) - 1 from rfl, a1, show (5 : Int) = ((5 : Nat) : Int) from rfl, b3]
      refine .inl ⟨Tr28.of (2, Tr25.of (0, 0, 0, []), f, l[j + 2].2.1, []), j + 3, ?_, by rw [Kc, I7]; rfl, by omega, h3, by rw [Ha, Hk]; simp <;> omega⟩
      show (AA (l, ((j + 1 : Nat) : Int)) [58, 61]).bind _ = _
      rw [FX hl h1 b1, Option.bind_some]
      show (Be (l, ((j + 2 : Nat) : Int))).bind _ = _
      rw [NV hl h2 b2]; rfl
theorem Qa {C : Ps → PD} {C' : List Fj → Int → Option (Tr37 × Int × Bool)} {i0 : Nat} (hC : ∀ j : Nat, i0 < j → j < l.length → JP pt Tr28.cnt l j (C (l, (j : Int))) (C' l (j : Int))) (j : Nat) (h1 : i0 ≤ j) (h2 : j < l.length) :
    JP pt Tr28.cnt l j (Cj C (l, (j : Int))) (GJ C' l (j : Int)) :=
  KI (g := fun n => Bo C n (l, (j : Int))) (g' := fun n => C5 C' n l (j : Int)) (fun n r h => Cy (fun _ => Le.rfl' _) n _ r h) (fun n r h => FS (fun _ _ => Le.rfl' _) n _ _ r h) (l.length - j + 1) (l.length - j + 1) (Ry hl hC (l.length - j) j (Nat.le_refl _) h1 h2 _ _ (by omega) (by omega))
abbrev RR (y : Tr37) : Int × (Int × Int × Int × List Tr34) × Int × Int × List Tr37 := (y.un.1, y.un.2.1.un, y.un.2.2.1, y.un.2.2.2.1, y.un.2.2.2.2)
abbrev SQ (r : Int × (Int × Int × Int × List Tr34) × Int × Int × List Tr37) : Tr37 := Tr37.of (r.1, Tr34.of r.2.1, r.2.2.1, r.2.2.2.1, r.2.2.2.2)
omit hl in
theorem OS (y : Tr37) : SQ (RR y) = y := by
  show Tr37.of (y.un.1, Tr34.of y.un.2.1.un, y.un.2.2.1, y.un.2.2.2.1, y.un.2.2.2.2) = y
  rw [PZ]; exact Qv y
theorem QP {C : Ps → PD} {C' : List Fj → Int → Option (Tr37 × Int × Bool)} {i0 : Nat} (hC : ∀ j : Nat, i0 < j → j < l.length → JP pt Tr28.cnt l j (C (l, (j : Int))) (C' l (j : Int))) (j : Nat) (h1 : i0 ≤ j) (h2 : j < l.length) :
    JP pt Tr28.cnt l j (Bi C (l, (j : Int))) (Fv C' l (j : Int)) := by
  have hg := IV (f := pt) (c := Tr28.cnt) hl (sep := [59]) (pf := Cj C) (rf := GJ C') (cmp := RR) (mk := fun (k : Int) (ok : Bool) (ys : List Tr37) (r : Int × (Int × Int × Int × List Tr34) × Int × Int × List Tr37) => (k, ok, ys, r.1, r.2.1.1, r.2.1.2.1, r.2.1.2.2.1, r.2.1.2.2.2, r.2.2.1, r.2.2.2.1, r.2.2.2.2))
    (S := A6 C [59]) (T := Ea C' l) h2 (fun k g1 g2 => Qa hl hC k (by omega) g2) (fun xs k => by rw [A6]; simp only [Pl, Qk]) (fun k ok ys r => by rw [Ea]; simp only [PM, Qv] <;> rfl)
    (node := fun xs => Tr28.of (3, Tr25.of (0, 0, 0, []), 0, 0, xs)) (node' := fun ys => Tr37.of (3, Tr34.of (0, 0, 0, []), 0, 0, ys)) (un := SQ) OS (fun xs => by rw [Kc, O7]) (fun xs => by rw [Ha, Sv]; omega)
    (P := (Bv C) (l, (j : Int)) [59]) (R := Fv C' l (j : Int)) (fin := fun z => if (z.2.2.1.length : Int) = 1 then some (Tr37.of (z.2.2.2.1, Tr34.of (z.2.2.2.2.1, z.2.2.2.2.2.1, z.2.2.2.2.2.2.1, z.2.2.2.2.2.2.2.1), z.2.2.2.2.2.2.2.2.1, z.2.2.2.2.2.2.2.2.2.1, z.2.2.2.2.2.2.2.2.2.2), z.1, z.2.1) else some (Tr37.of (3, Tr34.of (0, 0, 0, []), 0, 0, z.2.2.1), z.1, z.2.1)) (by unfold Bv; simp only [Pl, Qk] <;> rfl) (by unfold Fv; simp only [PM, Qv] <;> rfl) (fun _ _ _ _ => rfl)
  unfold Bi
  simp only [Pl, Qk]
  rcases hg with ⟨x, k, p1, p2, p3⟩ | ⟨k, hk, q, y, p1, p2⟩
  · rw [p1]; exact .inl ⟨x, k, rfl, p2, p3⟩
  · rw [p1]; exact .inr ⟨k, hk, q, y, rfl, p2⟩
theorem Sc : ∀ (d i : Nat), l.length - i ≤ d → i < l.length → ∀ n n', d < n → d < n' → JP pt Tr28.cnt l i (A3 n (l, (i : Int))) (CH n' l (i : Int)) := by
  intro d
  induction d with
  | zero => intro i h1 h2; omega
  | succ d ih =>
    intro i hd hi n n' hn hn'
    obtain ⟨n, rfl⟩ : ∃ k, n = k + 1 := ⟨n - 1, by omega⟩
    obtain ⟨n', rfl⟩ : ∃ k, n' = k + 1 := ⟨n' - 1, by omega⟩
    show JP pt Tr28.cnt l i (BC (A3 n) (l, (i : Int))) (Dp (CH n') l (i : Int))
    have hC : ∀ j : Nat, i < j → j < l.length → JP pt Tr28.cnt l j (A3 n (l, (j : Int))) (CH n' l (j : Int)) := fun j h1 h2 => ih j (by omega) h2 n n' (by omega) (by omega)
    have hg := IV (f := pt) (c := Tr28.cnt) hl (sep := [124]) (pf := Bi (A3 n)) (rf := Fv (CH n')) (cmp := RR) (mk := fun (k : Int) (ok : Bool) (ys : List Tr37) (r : Int × (Int × Int × Int × List Tr34) × Int × Int × List Tr37) => (k, ok, ys, r.1, r.2.1.1, r.2.1.2.1, r.2.1.2.2.1, r.2.1.2.2.2, r.2.2.1, r.2.2.2.1, r.2.2.2.2))
      (S := Bb (A3 n) [124]) (T := Dk (CH n') l) hi (fun k g1 g2 => QP hl hC k (by omega) g2) (fun xs k => by rw [Bb]; simp only [Pl, Qk]) (fun k ok ys r => by rw [Dk]; simp only [PM, Qv] <;> rfl)
      (node := fun xs => Tr28.of (4, Tr25.of (0, 0, 0, []), 0, 0, xs)) (node' := fun ys => Tr37.of (4, Tr34.of (0, 0, 0, []), 0, 0, ys)) (un := SQ) OS (fun xs => by rw [Kc, O7]) (fun xs => by rw [Ha, Sv]; omega)
      (P := (BE (A3 n)) (l, (i : Int)) [124]) (R := Dp (CH n') l (i : Int)) (fin := fun z => if (z.2.2.1.length : Int) = 1 then some (Tr37.of (z.2.2.2.1, Tr34.of (z.2.2.2.2.1, z.2.2.2.2.2.1, z.2.2.2.2.2.2.1, z.2.2.2.2.2.2.2.1), z.2.2.2.2.2.2.2.2.1, z.2.2.2.2.2.2.2.2.2.1, z.2.2.2.2.2.2.2.2.2.2), z.1, z.2.1) else some (Tr37.of (4, Tr34.of (0, 0, 0, []), 0, 0, z.2.2.1), z.1, z.2.1)) (by unfold BE; simp only [Pl, Qk] <;> rfl) (by unfold Dp; simp only [PM, Qv] <;> rfl) (fun _ _ _ _ => rfl)
    unfold BC
    simp only [Pl, Qk]
    rcases hg with ⟨x, k, p1, p2, p3⟩ | ⟨k, hk, q, y, p1, p2⟩
    · rw [p1]; exact .inl ⟨x, k, rfl, p2, p3⟩
    · rw [p1]; exact .inr ⟨k, hk, q, y, rfl, p2⟩
theorem QQ (i : Nat) (hi : i < l.length) : JP pt Tr28.cnt l i (CB (l, (i : Int))) (IG l (i : Int)) :=
  KI (g := fun n => A3 n (l, (i : Int))) (g' := fun n => CH n l (i : Int)) (fun n r h => Dv n _ r h) (fun n r h => I4 n _ _ r h) (l.length - i + 1) (l.length - i + 1) (Sc hl (l.length - i) i (Nat.le_refl _) hi _ _ (by omega) (by omega))
end conds
end Go.Proofs.YtlgjpoapclifbaaDoor
