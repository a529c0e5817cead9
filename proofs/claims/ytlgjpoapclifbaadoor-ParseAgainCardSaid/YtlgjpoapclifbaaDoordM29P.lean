/- Layer 29: the two parsers. Conditions: none. -/
import Derived.Test.YtlgjpoapclifbaaDoordM29
import Derived.Test.YtlgjpoapclifbaaDoordM29T
namespace Go.Proofs.YtlgjpoapclifbaaDoor
set_option linter.unusedVariables false
set_option linter.unusedSimpArgs false
open Go Go.RowKit
abbrev PC := Option ((Tr25 × Ps) ⊕ Pn)
abbrev PD := Option ((Tr28 × Ps) ⊕ Pn)
theorem Jw (k f v : Int) (L : List Tr25) : th (Tr25.of (k, f, v, L)) = Tr34.of (k, f, v, L.map th) := by rw [To]; rfl
theorem Hp (k f v : Int) (L : List Tr25) : (Tr25.of (k, f, v, L)).cnt = 1 + (L.map Tr25.cnt).sum := by rw [II]; rfl
theorem LS (k : Int) (p : Tr25) (f v : Int) (L : List Tr28) : pt (Tr28.of (k, p, f, v, L)) = Tr37.of (k, th p, f, v, L.map pt) := by rw [Te]; rfl
theorem Hj (k : Int) (p : Tr25) (f v : Int) (L : List Tr28) : (Tr28.of (k, p, f, v, L)).cnt = 1 + (p.cnt + (L.map Tr28.cnt).sum) := by rw [QW]; rfl
theorem Um : (Tr25.of (0, 0, 0, [])).cnt = 1 := by rw [Hp]; rfl
theorem Tg : th (Tr25.of (0, 0, 0, [])) = Tr34.of (0, 0, 0, []) := by rw [Jw]; rfl
theorem Ks {l : List C2} {i : Nat} (h : i < l.length) {s : List UInt8} (c : F3 l[i] s = true) : Dd l (i : Int) s = some true := by rw [Ow h, c]
theorem Ku {l : List C2} {i : Nat} (h : i < l.length) {s : List UInt8} (c : ¬ F3 l[i] s = true) : Dd l (i : Int) s = some false := by rw [Ow h]; congr 1; simpa using c
section conds
variable {l : List C2} (hl : Tks l)
include hl
theorem Ra {C : Ps → PC} {C' : List C2 → Int → Option (Tr34 × Int × Bool)} {i0 : Nat} (hC : ∀ j : Nat, i0 < j → j < l.length → Ke th Tr25.cnt l j (C (l, (j : Int))) (C' l (j : Int))) :
    ∀ (d j : Nat), l.length - j ≤ d → i0 ≤ j → j < l.length → ∀ m m', d < m → d < m' → Ke th Tr25.cnt l j (AN C m (l, (j : Int))) (EK C' m' l (j : Int)) := by
  intro d
  induction d with
  | zero => intro j h1 h2 h3; omega
  | succ d ih =>
    intro j hd hi hj m m' hm hm'
    obtain ⟨m, rfl⟩ : ∃ k, m = k + 1 := ⟨m - 1, by omega⟩
    obtain ⟨m', rfl⟩ : ∃ k, m' = k + 1 := ⟨m' - 1, by omega⟩
    show Ke th Tr25.cnt l j (A9 C (AN C m) (l, (j : Int))) (Fs C' (EK C' m') l (j : Int))
    unfold A9 Fs
    by_cases c1 : F3 l[j] [116, 114, 117, 101] = true
    · have hn := Dv hl hj c1
      rw [DJ hl hj c1, Ks hj c1, Fw hl hj]
      exact .inl ⟨Tr25.of (1, 0, 0, []), j + 1, rfl, by rw [Jw]; rfl, by omega, hn, by rw [Hp]; simp <;> omega⟩
    rw [Dg hj c1, Ku hj c1]
    simp only [Option.bind_some, Bool.false_eq_true, if_false]
    by_cases c2 : F3 l[j] [102, 97, 108, 115, 101] = true
    · have hn := Dv hl hj c2
      rw [DJ hl hj c2, Ks hj c2, Fw hl hj]
      exact .inl ⟨Tr25.of (2, 0, 0, []), j + 1, rfl, by rw [Jw]; rfl, by omega, hn, by rw [Hp]; simp <;> omega⟩
    rw [Dg hj c2, Ku hj c2]
    simp only [Option.bind_some, Bool.false_eq_true, if_false]
    by_cases c3 : F3 l[j] [110, 111, 116] = true
    · have hn := Dv hl hj c3
      rw [DJ hl hj c3, Ks hj c3, Fw hl hj]
      simp only [Option.bind_some, if_true]
      rcases ih (j + 1) (by omega) (by omega) hn m m' (by omega) (by omega) with ⟨x, j', p1, p2, p3, p4, p5⟩ | ⟨k, hk, q, y, p1, p2⟩
      · rw [p1, p2]
        exact .inl ⟨Tr25.of (4, 0, 0, [x]), j', rfl, by rw [Jw]; rfl, by omega, p4, by rw [Hp]; simp <;> omega⟩
      · rw [p1, p2]
        exact .inr ⟨k, hk, q, _, rfl, rfl⟩
    rw [Dg hj c3, Ku hj c3]
    simp only [Option.bind_some, Bool.false_eq_true, if_false]
    by_cases c4 : F3 l[j] [40] = true
    · have hn := Dv hl hj c4
      rw [DJ hl hj c4, Ks hj c4, Fw hl hj]
      simp only [Option.bind_some, if_true]
      rcases hC (j + 1) (by omega) hn with ⟨x, j', p1, p2, p3, p4, p5⟩ | ⟨k, hk, q, y, p1, p2⟩
      · rw [p1, p2]
        simp only [Option.bind_some]
        by_cases c5 : F3 l[j'] [41] = true
        · have hn' := Dv hl p4 c5
          refine .inl ⟨x, j' + 1, ?_, ?_, by omega, hn', by omega⟩
          · show (Ao (l, (j' : Int)) [41]).bind _ = _
            rw [EG hl p4 c5]; rfl
          · rw [if_neg (by decide), Ks p4 c5]
            simp only [Option.bind_some, Bool.not_true, Bool.false_eq_true, if_false]
            rw [Fw hl p4]
        · refine .inr ⟨j', p4, (l, (j' : Int)), th x, ?_, ?_⟩
          · show (Ao (l, (j' : Int)) [41]).bind _ = _
            rw [GH p4 c5]; rfl
          · rw [if_neg (by decide), Ku p4 c5]; rfl
      · rw [p1, p2]
        exact .inr ⟨k, hk, q, _, rfl, rfl⟩
    rw [Dg hj c4, Ku hj c4]
    simp only [Option.bind_some, Bool.false_eq_true, if_false]
    rcases MY hl hj (m := 6) (by omega) (by omega) [61] with ⟨a1, a2⟩ | ⟨f, a1, h1, ⟨b1, b2⟩ | ⟨b1, h2, ⟨b2, b3⟩ | ⟨b2, h3, b3⟩⟩⟩
    · rw [show (5 : Int) = ((6 : Nat) : Int) - 1 from rfl, a1, show (6 : Int) = ((6 : Nat) : Int) from rfl, a2]
      exact .inr ⟨j, hj, _, _, rfl, rfl⟩
    · rw [show (5 : Int) = ((6 : Nat) : Int) - 1 from rfl, a1, show (6 : Int) = ((6 : Nat) : Int) from rfl, b2]
      refine .inr ⟨j + 1, h1, (l, ((j + 1 : Nat) : Int)), Tr34.of (3, 0, 0, []), ?_, rfl⟩
      show (Ao (l, ((j + 1 : Nat) : Int)) [61]).bind _ = _
      rw [GH h1 b1]; rfl
    · rw [show (5 : Int) = ((6 : Nat) : Int) - 1 from rfl, a1, show (6 : Int) = ((6 : Nat) : Int) from rfl, b3]
      refine .inr ⟨j + 2, h2, (l, ((j + 2 : Nat) : Int)), Tr34.of (3, 0, 0, []), ?_, rfl⟩
      show (Ao (l, ((j + 1 : Nat) : Int)) [61]).bind _ = _
      rw [EG hl h1 b1, Option.bind_some]
      show (AQ (l, ((j + 2 : Nat) : Int))).bind _ = _
      rw [Mt h2 b2]; rfl
    · rw [show (5 : Int) = ((6 : Nat) : Int) - 1 from rfl, a1, show (6 : Int) = ((6 : Nat) : Int) from rfl, b3]
      refine .inl ⟨Tr25.of (3, f, l[j + 2].2.1, []), j + 3, ?_, by rw [Jw]; rfl, by omega, h3, by rw [Hp]; simp <;> omega⟩
      show (Ao (l, ((j + 1 : Nat) : Int)) [61]).bind _ = _
      rw [EG hl h1 b1, Option.bind_some]
      show (AQ (l, ((j + 2 : Nat) : Int))).bind _ = _
      rw [Ja hl h2 b2]; rfl
omit hl in
theorem Ln {A A' : Type} {f : A → A'} {c : A → Nat} {i : Nat} {g : Nat → Option ((A × Ps) ⊕ Pn)} {g' : Nat → Option (A' × Int × Bool)} (hg : ∀ n r, g n = some r → g (n + 1) = some r) (hg' : ∀ n r, g' n = some r → g' (n + 1) = some r) (n n' : Nat) (h : Ke f c l i (g n) (g' n')) : Ke f c l i (Ge g) (Ge g') := by
  rcases h with ⟨x, j, p1, p2, p3⟩ | ⟨k, hk, q, y, p1, p2⟩
  · exact .inl ⟨x, j, Ca hg p1, Ca hg' p2, p3⟩
  · exact .inr ⟨k, hk, q, y, Ca hg p1, Ca hg' p2⟩
theorem OQ {C : Ps → PC} {C' : List C2 → Int → Option (Tr34 × Int × Bool)} {i0 : Nat} (hC : ∀ j : Nat, i0 < j → j < l.length → Ke th Tr25.cnt l j (C (l, (j : Int))) (C' l (j : Int))) (j : Nat) (h1 : i0 ≤ j) (h2 : j < l.length) :
    Ke th Tr25.cnt l j (BN C (l, (j : Int))) (HL C' l (j : Int)) :=
  Ln (g := fun n => AN C n (l, (j : Int))) (g' := fun n => EK C' n l (j : Int)) (fun n r h => B4 (fun _ => Le.rfl' _) n _ r h) (fun n r h => F4 (fun _ _ => Le.rfl' _) n _ _ r h) (l.length - j + 1) (l.length - j + 1) (Ra hl hC (l.length - j) j (Nat.le_refl _) h1 h2 _ _ (by omega) (by omega))
theorem Rl {C : Ps → PC} {C' : List C2 → Int → Option (Tr34 × Int × Bool)} {i0 : Nat} (hC : ∀ j : Nat, i0 < j → j < l.length → Ke th Tr25.cnt l j (C (l, (j : Int))) (C' l (j : Int))) (j : Nat) (h1 : i0 ≤ j) (h2 : j < l.length) :
    Ke th Tr25.cnt l j (Bg C (l, (j : Int))) (FA C' l (j : Int)) := by
  have hg := Jf (f := th) (c := Tr25.cnt) hl (sep := [97, 110, 100]) (pf := BN C) (rf := HL C') (cmp := fun y : Tr34 => y.un) (mk := fun (k : Int) (ok : Bool) (ys : List Tr34) (r : Int × Int × Int × List Tr34) => (k, ok, ys, r.1, r.2.1, r.2.2.1, r.2.2.2))
    (S := Bh C [97, 110, 100]) (T := Ed C' l) h2 (fun k g1 g2 => OQ hl hC k (by omega) g2) (fun xs k => rfl) (fun k ok ys r => rfl)
    (node := fun xs => Tr25.of (5, 0, 0, xs)) (node' := fun ys => Tr34.of (5, 0, 0, ys)) (un := fun r => Tr34.of r) (fun y => SE y) (fun xs => Jw ..) (fun xs => by rw [Hp]; omega)
    (P := (BF C) (l, (j : Int)) [97, 110, 100]) (R := FA C' l (j : Int)) (fin := fun z => if (z.2.2.1.length : Int) = 1 then some (Tr34.of (z.2.2.2.1, z.2.2.2.2.1, z.2.2.2.2.2.1, z.2.2.2.2.2.2), z.1, z.2.1) else some (Tr34.of (5, 0, 0, z.2.2.1), z.1, z.2.1)) rfl rfl (fun _ _ _ _ => rfl)
  unfold Bg
  rcases hg with ⟨x, k, p1, p2, p3⟩ | ⟨k, hk, q, y, p1, p2⟩
  · rw [p1]; exact .inl ⟨x, k, rfl, p2, p3⟩
  · rw [p1]; exact .inr ⟨k, hk, q, y, rfl, p2⟩
theorem SX : ∀ (d i : Nat), l.length - i ≤ d → i < l.length → ∀ n n', d < n → d < n' → Ke th Tr25.cnt l i (Ap n (l, (i : Int))) (Dw n' l (i : Int)) := by
  intro d
  induction d with
  | zero => intro i h1 h2; omega
  | succ d ih =>
    intro i hd hi n n' hn hn'
    obtain ⟨n, rfl⟩ : ∃ k, n = k + 1 := ⟨n - 1, by omega⟩
    obtain ⟨n', rfl⟩ : ∃ k, n' = k + 1 := ⟨n' - 1, by omega⟩
    show Ke th Tr25.cnt l i (AU (Ap n) (l, (i : Int))) (FB (Dw n') l (i : Int))
    have hC : ∀ j : Nat, i < j → j < l.length → Ke th Tr25.cnt l j (Ap n (l, (j : Int))) (Dw n' l (j : Int)) := fun j h1 h2 => ih j (by omega) h2 n n' (by omega) (by omega)
    have hg := Jf (f := th) (c := Tr25.cnt) hl (sep := [111, 114]) (pf := Bg (Ap n)) (rf := FA (Dw n')) (cmp := fun y : Tr34 => y.un) (mk := fun (k : Int) (ok : Bool) (ys : List Tr34) (r : Int × Int × Int × List Tr34) => (k, ok, ys, r.1, r.2.1, r.2.2.1, r.2.2.2))
      (S := Bj (Ap n) [111, 114]) (T := ED (Dw n') l) hi (fun k g1 g2 => Rl hl hC k (by omega) g2) (fun xs k => rfl) (fun k ok ys r => rfl)
      (node := fun xs => Tr25.of (6, 0, 0, xs)) (node' := fun ys => Tr34.of (6, 0, 0, ys)) (un := fun r => Tr34.of r) (fun y => SE y) (fun xs => Jw ..) (fun xs => by rw [Hp]; omega)
      (P := (BH (Ap n)) (l, (i : Int)) [111, 114]) (R := FB (Dw n') l (i : Int)) (fin := fun z => if (z.2.2.1.length : Int) = 1 then some (Tr34.of (z.2.2.2.1, z.2.2.2.2.1, z.2.2.2.2.2.1, z.2.2.2.2.2.2), z.1, z.2.1) else some (Tr34.of (6, 0, 0, z.2.2.1), z.1, z.2.1)) rfl rfl (fun _ _ _ _ => rfl)
    unfold AU
    rcases hg with ⟨x, k, p1, p2, p3⟩ | ⟨k, hk, q, y, p1, p2⟩
    · rw [p1]; exact .inl ⟨x, k, rfl, p2, p3⟩
    · rw [p1]; exact .inr ⟨k, hk, q, y, rfl, p2⟩
theorem Oi (i : Nat) (hi : i < l.length) : Ke th Tr25.cnt l i (Ce (l, (i : Int))) (Mg l (i : Int)) :=
  Ln (g := fun n => Ap n (l, (i : Int))) (g' := fun n => Dw n l (i : Int)) (fun n r h => Ck n _ r h) (fun n r h => JA n _ _ r h) (l.length - i + 1) (l.length - i + 1) (SX hl (l.length - i) i (Nat.le_refl _) hi _ _ (by omega) (by omega))
theorem OU {C : Ps → PD} {C' : List C2 → Int → Option (Tr37 × Int × Bool)} {i : Nat} (hi : i < l.length) (hC : ∀ j : Nat, i < j → j < l.length → Ke pt Tr28.cnt l j (C (l, (j : Int))) (C' l (j : Int))) :
    (∃ x j, Bq C (l, (i : Int)) = some (.inl (x, (l, ((j : Nat) : Int)))) ∧ Fi C' l (i : Int) = some (pt x, (j : Int), true) ∧ i < j ∧ j < l.length ∧ x.cnt ≤ 3 * (j - i) + 1) ∨
    (∃ k, ∃ h : k < l.length, ∃ q y, Bq C (l, (i : Int)) = some (.inr ((l[k].2.2.2, 10), q)) ∧ Fi C' l (i : Int) = some (y, ((k : Nat) : Int), false)) := by
  unfold Bq Fi
  simp only [Gw, GE, Ss, RY]
  rcases Oi hl i hi with ⟨x, j, p1, p2, p3, p4, p5⟩ | ⟨k, hk, q, y, p1, p2⟩
  · rw [p1, p2]
    simp only [Option.bind_some]
    by_cases c1 : F3 l[j] [116, 104, 101, 110] = true
    · have hn := Dv hl p4 c1
      have e1 : Ao ((x, (l, (j : Int))) : Tr25 × Ps).2 [116, 104, 101, 110] = _ := EG hl p4 c1
      rw [if_neg (by decide), Ks p4 c1, Fw hl p4]
      simp only [B1, e1, Option.bind_some, Bool.not_true, Bool.false_eq_true, if_false]
      rcases hC (j + 1) (by omega) hn with ⟨a, j2, q1, q2, q3, q4, q5⟩ | ⟨k, hk, q, y, q1, q2⟩
      · rw [q1, q2]
        simp only [Option.bind_some]
        by_cases c2 : F3 l[j2] [101, 108, 115, 101] = true
        · have hn2 := Dv hl q4 c2
          have e2 : Ao (l, (j2 : Int)) [101, 108, 115, 101] = _ := EG hl q4 c2
          rw [if_neg (by decide), Ks q4 c2, Fw hl q4]
          simp only [e2, Option.bind_some, Bool.not_true, Bool.false_eq_true, if_false]
          rcases hC (j2 + 1) (by omega) hn2 with ⟨b, j3, r1, r2, r3, r4, r5⟩ | ⟨k, hk, q, y, r1, r2⟩
          · rw [r1, r2]
            exact .inl ⟨Tr28.of (5, x, 0, 0, [a, b]), j3, rfl, by rw [LS]; rfl, by omega, r4, by rw [Hj]; simp <;> omega⟩
          · rw [r1, r2]
            exact .inr ⟨k, hk, q, _, rfl, rfl⟩
        · have e2 : Ao (l, (j2 : Int)) [101, 108, 115, 101] = _ := GH q4 c2
          rw [if_neg (by decide), Ku q4 c2]
          simp only [e2, Option.bind_some, Bool.not_false, if_true]
          exact .inr ⟨j2, q4, _, _, rfl, rfl⟩
      · rw [q1, q2]
        exact .inr ⟨k, hk, q, _, rfl, rfl⟩
    · have e1 : Ao ((x, (l, (j : Int))) : Tr25 × Ps).2 [116, 104, 101, 110] = _ := GH p4 c1
      rw [if_neg (by decide), Ku p4 c1]
      simp only [B1, e1, Option.bind_some, Bool.not_false, if_true]
      exact .inr ⟨j, p4, _, _, rfl, rfl⟩
  · rw [p1, p2]
    exact .inr ⟨k, hk, q, _, rfl, rfl⟩
theorem S3 {C : Ps → PD} {C' : List C2 → Int → Option (Tr37 × Int × Bool)} {i0 : Nat} (hC : ∀ j : Nat, i0 < j → j < l.length → Ke pt Tr28.cnt l j (C (l, (j : Int))) (C' l (j : Int))) :
    ∀ (d j : Nat), l.length - j ≤ d → i0 ≤ j → j < l.length → ∀ m m', d < m → d < m' → Ke pt Tr28.cnt l j (AB C m (l, (j : Int))) (Ej C' m' l (j : Int)) := by
  intro d
  induction d using Nat.strongRecOn with
  | _ d ih =>
    intro j hd hi hj m m' hm hm'
    obtain ⟨m, rfl⟩ : ∃ k, m = k + 1 := ⟨m - 1, by omega⟩
    obtain ⟨m', rfl⟩ : ∃ k, m' = k + 1 := ⟨m' - 1, by omega⟩
    show Ke pt Tr28.cnt l j (A0 C (AB C m) (l, (j : Int))) (Fu C' (Ej C' m') l (j : Int))
    unfold A0 Fu
    simp only [Gw, GE, Ss, RY, Aj]
    by_cases c1 : F3 l[j] [100, 114, 111, 112] = true
    · have hn := Dv hl hj c1
      rw [DJ hl hj c1, Ks hj c1, Fw hl hj]
      exact .inl ⟨Tr28.of (1, Tr25.of (2, 0, 0, []), 0, 0, []), j + 1, rfl, by rw [LS, Jw]; rfl, by omega, hn, by rw [Hj, Hp]; simp <;> omega⟩
    rw [Dg hj c1, Ku hj c1]
    simp only [Option.bind_some, Bool.false_eq_true, if_false]
    by_cases c2 : F3 l[j] [105, 100] = true
    · have hn := Dv hl hj c2
      rw [DJ hl hj c2, Ks hj c2, Fw hl hj]
      exact .inl ⟨Tr28.of (1, Tr25.of (1, 0, 0, []), 0, 0, []), j + 1, rfl, by rw [LS, Jw]; rfl, by omega, hn, by rw [Hj, Hp]; simp <;> omega⟩
    rw [Dg hj c2, Ku hj c2]
    simp only [Option.bind_some, Bool.false_eq_true, if_false]
    by_cases c3 : F3 l[j] [119, 104, 101, 110] = true
    · have hn := Dv hl hj c3
      rw [DJ hl hj c3, Ks hj c3, Fw hl hj]
      simp only [Option.bind_some, if_true]
      rcases Oi hl (j + 1) hn with ⟨x, j', p1, p2, p3, p4, p5⟩ | ⟨k, hk, q, y, p1, p2⟩
      · rw [p1, p2]
        exact .inl ⟨Tr28.of (1, x, 0, 0, []), j', rfl, by rw [LS]; rfl, by omega, p4, by rw [Hj]; simp <;> omega⟩
      · rw [p1, p2]
        exact .inr ⟨k, hk, q, _, rfl, rfl⟩
    rw [Dg hj c3, Ku hj c3]
    simp only [Option.bind_some, Bool.false_eq_true, if_false]
    by_cases c4 : F3 l[j] [105, 102] = true
    · have hn := Dv hl hj c4
      rw [DJ hl hj c4, Ks hj c4, Fw hl hj]
      simp only [Option.bind_some, if_true]
      rcases OU hl (C := AB C m) (C' := Ej C' m') hn (fun k h1 h2 => ih (l.length - k) (by omega) k (Nat.le_refl _) (by omega) h2 m m' (by omega) (by omega)) with ⟨x, j', p1, p2, p3, p4, p5⟩ | ⟨k, hk, q, y, p1, p2⟩
      · rw [p1, p2]
        exact .inl ⟨x, j', rfl, rfl, by omega, p4, by omega⟩
      · rw [p1, p2]
        exact .inr ⟨k, hk, q, _, rfl, rfl⟩
    rw [Dg hj c4, Ku hj c4]
    simp only [Option.bind_some, Bool.false_eq_true, if_false]
    by_cases c5 : F3 l[j] [40] = true
    · have hn := Dv hl hj c5
      rw [DJ hl hj c5, Ks hj c5, Fw hl hj]
      simp only [Option.bind_some, if_true]
      rcases hC (j + 1) (by omega) hn with ⟨x, j', p1, p2, p3, p4, p5⟩ | ⟨k, hk, q, y, p1, p2⟩
      · rw [p1, p2]
        simp only [Option.bind_some]
        by_cases c6 : F3 l[j'] [41] = true
        · have hn' := Dv hl p4 c6
          refine .inl ⟨x, j' + 1, ?_, ?_, by omega, hn', by omega⟩
          · show (Ao (l, (j' : Int)) [41]).bind _ = _
            rw [EG hl p4 c6]; rfl
          · rw [if_neg (by decide), Ks p4 c6]
            simp only [Option.bind_some, Bool.not_true, Bool.false_eq_true, if_false]
            rw [Fw hl p4]
        · refine .inr ⟨j', p4, (l, (j' : Int)), pt x, ?_, ?_⟩
          · show (Ao (l, (j' : Int)) [41]).bind _ = _
            rw [GH p4 c6]; rfl
          · rw [if_neg (by decide), Ku p4 c6]; rfl
      · rw [p1, p2]
        exact .inr ⟨k, hk, q, _, rfl, rfl⟩
    rw [Dg hj c5, Ku hj c5]
    simp only [Option.bind_some, Bool.false_eq_true, if_false]
    rcases MY hl hj (m := 5) (by omega) (by omega) [58, 61] with ⟨a1, a2⟩ | ⟨f, a1, h1, ⟨b1, b2⟩ | ⟨b1, h2, ⟨b2, b3⟩ | ⟨b2, h3, b3⟩⟩⟩
    · rw [show (4 : Int) = ((5 : Nat) : Int) - 1 from rfl, a1, show (5 : Int) = ((5 : Nat) : Int) from rfl, a2]
      exact .inr ⟨j, hj, _, _, rfl, rfl⟩
    · rw [show (4 : Int) = ((5 : Nat) : Int) - 1 from rfl, a1, show (5 : Int) = ((5 : Nat) : Int) from rfl, b2]
      refine .inr ⟨j + 1, h1, (l, ((j + 1 : Nat) : Int)), Tr37.of (2, Tr34.of (0, 0, 0, []), 0, 0, []), ?_, rfl⟩
      show (Ao (l, ((j + 1 : Nat) : Int)) [58, 61]).bind _ = _
      rw [GH h1 b1]; rfl
    · rw [show (4 : Int) = ((5 : Nat) : Int) - 1 from rfl, a1, show (5 : Int) = ((5 : Nat) : Int) from rfl, b3]
      refine .inr ⟨j + 2, h2, (l, ((j + 2 : Nat) : Int)), Tr37.of (2, Tr34.of (0, 0, 0, []), 0, 0, []), ?_, rfl⟩
      show (Ao (l, ((j + 1 : Nat) : Int)) [58, 61]).bind _ = _
      rw [EG hl h1 b1, Option.bind_some]
      show (AQ (l, ((j + 2 : Nat) : Int))).bind _ = _
      rw [Mt h2 b2]; rfl
    · rw [show (4 : Int) = ((5 : Nat) : Int) - 1 from rfl, a1, show (5 : Int) = ((5 : Nat) : Int) from rfl, b3]
      refine .inl ⟨Tr28.of (2, Tr25.of (0, 0, 0, []), f, l[j + 2].2.1, []), j + 3, ?_, by rw [LS, Jw]; rfl, by omega, h3, by rw [Hj, Hp]; simp <;> omega⟩
      show (Ao (l, ((j + 1 : Nat) : Int)) [58, 61]).bind _ = _
      rw [EG hl h1 b1, Option.bind_some]
      show (AQ (l, ((j + 2 : Nat) : Int))).bind _ = _
      rw [Ja hl h2 b2]; rfl
theorem Qq {C : Ps → PD} {C' : List C2 → Int → Option (Tr37 × Int × Bool)} {i0 : Nat} (hC : ∀ j : Nat, i0 < j → j < l.length → Ke pt Tr28.cnt l j (C (l, (j : Int))) (C' l (j : Int))) (j : Nat) (h1 : i0 ≤ j) (h2 : j < l.length) :
    Ke pt Tr28.cnt l j (Bu C (l, (j : Int))) (HO C' l (j : Int)) :=
  Ln (g := fun n => AB C n (l, (j : Int))) (g' := fun n => Ej C' n l (j : Int)) (fun n r h => BO (fun _ => Le.rfl' _) n _ r h) (fun n r h => F6 (fun _ _ => Le.rfl' _) n _ _ r h) (l.length - j + 1) (l.length - j + 1) (S3 hl hC (l.length - j) j (Nat.le_refl _) h1 h2 _ _ (by omega) (by omega))
abbrev SM (y : Tr37) : Int × (Int × Int × Int × List Tr34) × Int × Int × List Tr37 := (y.un.1, y.un.2.1.un, y.un.2.2.1, y.un.2.2.2.1, y.un.2.2.2.2)
abbrev Ug (r : Int × (Int × Int × Int × List Tr34) × Int × Int × List Tr37) : Tr37 := Tr37.of (r.1, Tr34.of r.2.1, r.2.2.1, r.2.2.2.1, r.2.2.2.2)
omit hl in
theorem Pt (y : Tr37) : Ug (SM y) = y := by
  show Tr37.of (y.un.1, Tr34.of y.un.2.1.un, y.un.2.2.1, y.un.2.2.2.1, y.un.2.2.2.2) = y
  rw [SE]; exact RY y
theorem RS {C : Ps → PD} {C' : List C2 → Int → Option (Tr37 × Int × Bool)} {i0 : Nat} (hC : ∀ j : Nat, i0 < j → j < l.length → Ke pt Tr28.cnt l j (C (l, (j : Int))) (C' l (j : Int))) (j : Nat) (h1 : i0 ≤ j) (h2 : j < l.length) :
    Ke pt Tr28.cnt l j (AJ C (l, (j : Int))) (GD C' l (j : Int)) := by
  have hg := Jf (f := pt) (c := Tr28.cnt) hl (sep := [59]) (pf := Bu C) (rf := HO C') (cmp := SM) (mk := fun (k : Int) (ok : Bool) (ys : List Tr37) (r : Int × (Int × Int × Int × List Tr34) × Int × Int × List Tr37) => (k, ok, ys, r.1, r.2.1.1, r.2.1.2.1, r.2.1.2.2.1, r.2.1.2.2.2, r.2.2.1, r.2.2.2.1, r.2.2.2.2))
    (S := AK C [59]) (T := EH C' l) h2 (fun k g1 g2 => Qq hl hC k (by omega) g2) (fun xs k => by rw [AK]; simp only [Gw, GE]) (fun k ok ys r => by rw [EH]; simp only [Ss, RY] <;> rfl)
    (node := fun xs => Tr28.of (3, Tr25.of (0, 0, 0, []), 0, 0, xs)) (node' := fun ys => Tr37.of (3, Tr34.of (0, 0, 0, []), 0, 0, ys)) (un := Ug) Pt (fun xs => by rw [LS, Tg]) (fun xs => by rw [Hj, Um]; omega)
    (P := (A1 C) (l, (j : Int)) [59]) (R := GD C' l (j : Int)) (fin := fun z => if (z.2.2.1.length : Int) = 1 then some (Tr37.of (z.2.2.2.1, Tr34.of (z.2.2.2.2.1, z.2.2.2.2.2.1, z.2.2.2.2.2.2.1, z.2.2.2.2.2.2.2.1), z.2.2.2.2.2.2.2.2.1, z.2.2.2.2.2.2.2.2.2.1, z.2.2.2.2.2.2.2.2.2.2), z.1, z.2.1) else some (Tr37.of (3, Tr34.of (0, 0, 0, []), 0, 0, z.2.2.1), z.1, z.2.1)) (by unfold A1; simp only [Gw, GE] <;> rfl) (by unfold GD; simp only [Ss, RY] <;> rfl) (fun _ _ _ _ => rfl)
  unfold AJ
  simp only [Gw, GE]
  rcases hg with ⟨x, k, p1, p2, p3⟩ | ⟨k, hk, q, y, p1, p2⟩
  · rw [p1]; exact .inl ⟨x, k, rfl, p2, p3⟩
  · rw [p1]; exact .inr ⟨k, hk, q, y, rfl, p2⟩
theorem Tb : ∀ (d i : Nat), l.length - i ≤ d → i < l.length → ∀ n n', d < n → d < n' → Ke pt Tr28.cnt l i (An n (l, (i : Int))) (Dt n' l (i : Int)) := by
  intro d
  induction d with
  | zero => intro i h1 h2; omega
  | succ d ih =>
    intro i hd hi n n' hn hn'
    obtain ⟨n, rfl⟩ : ∃ k, n = k + 1 := ⟨n - 1, by omega⟩
    obtain ⟨n', rfl⟩ : ∃ k, n' = k + 1 := ⟨n' - 1, by omega⟩
    show Ke pt Tr28.cnt l i (AZ (An n) (l, (i : Int))) (EE (Dt n') l (i : Int))
    have hC : ∀ j : Nat, i < j → j < l.length → Ke pt Tr28.cnt l j (An n (l, (j : Int))) (Dt n' l (j : Int)) := fun j h1 h2 => ih j (by omega) h2 n n' (by omega) (by omega)
    have hg := Jf (f := pt) (c := Tr28.cnt) hl (sep := [124]) (pf := AJ (An n)) (rf := GD (Dt n')) (cmp := SM) (mk := fun (k : Int) (ok : Bool) (ys : List Tr37) (r : Int × (Int × Int × Int × List Tr34) × Int × Int × List Tr37) => (k, ok, ys, r.1, r.2.1.1, r.2.1.2.1, r.2.1.2.2.1, r.2.1.2.2.2, r.2.2.1, r.2.2.2.1, r.2.2.2.2))
      (S := AH (An n) [124]) (T := Ec (Dt n') l) hi (fun k g1 g2 => RS hl hC k (by omega) g2) (fun xs k => by rw [AH]; simp only [Gw, GE]) (fun k ok ys r => by rw [Ec]; simp only [Ss, RY] <;> rfl)
      (node := fun xs => Tr28.of (4, Tr25.of (0, 0, 0, []), 0, 0, xs)) (node' := fun ys => Tr37.of (4, Tr34.of (0, 0, 0, []), 0, 0, ys)) (un := Ug) Pt (fun xs => by rw [LS, Tg]) (fun xs => by rw [Hj, Um]; omega)
      (P := (AW (An n)) (l, (i : Int)) [124]) (R := EE (Dt n') l (i : Int)) (fin := fun z => if (z.2.2.1.length : Int) = 1 then some (Tr37.of (z.2.2.2.1, Tr34.of (z.2.2.2.2.1, z.2.2.2.2.2.1, z.2.2.2.2.2.2.1, z.2.2.2.2.2.2.2.1), z.2.2.2.2.2.2.2.2.1, z.2.2.2.2.2.2.2.2.2.1, z.2.2.2.2.2.2.2.2.2.2), z.1, z.2.1) else some (Tr37.of (4, Tr34.of (0, 0, 0, []), 0, 0, z.2.2.1), z.1, z.2.1)) (by unfold AW; simp only [Gw, GE] <;> rfl) (by unfold EE; simp only [Ss, RY] <;> rfl) (fun _ _ _ _ => rfl)
    unfold AZ
    simp only [Gw, GE]
    rcases hg with ⟨x, k, p1, p2, p3⟩ | ⟨k, hk, q, y, p1, p2⟩
    · rw [p1]; exact .inl ⟨x, k, rfl, p2, p3⟩
    · rw [p1]; exact .inr ⟨k, hk, q, y, rfl, p2⟩
theorem RO (i : Nat) (hi : i < l.length) : Ke pt Tr28.cnt l i (Bv (l, (i : Int))) (QM l (i : Int)) :=
  Ln (g := fun n => An n (l, (i : Int))) (g' := fun n => Dt n l (i : Int)) (fun n r h => Cg n _ r h) (fun n r h => Js n _ _ r h) (l.length - i + 1) (l.length - i + 1) (Tb hl (l.length - i) i (Nat.le_refl _) hi _ _ (by omega) (by omega))
end conds
end Go.Proofs.YtlgjpoapclifbaaDoor
