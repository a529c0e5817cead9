/- Layer 40: SetupTells. Conditions: none. -/
import Derived.Test.YthmkgdnnocemmaaGreatDoorbM40W
import Derived.Test.YthmkgdnnocemmaaGreatDoorbEV
namespace Go.Proofs.YthmkgdnnocemmaaGreatDoor
set_option linter.unusedVariables false
set_option linter.unusedSimpArgs false
open Go Go.RowKit
abbrev QG (c : Js) : Prop := c.1.2.1.length ≤ 30 ∧ c.1.2.2.length ≤ 30 ∧ c.2.1.length ≤ 10 ∧ c.2.2.1.length ≤ 30 ∧ ∀ x ∈ c.2.1, x.length ≤ 30
theorem LI {c : Js} (hl : c.2.1.length ≤ 9223372036854775807) : ∃ b, FT c = some b ∧ (b = true → QG c) := by
  unfold FT
  rw [NR c.2.1 hl (EL c) (fun x => 30 < x.length) false (fun k hk => by
    rw [EL, if_pos (by omega), AQ (List.getElem?_eq_getElem hk), Option.bind_some]
    by_cases q : 30 < c.2.1[k].length
    · rw [if_pos q, if_pos (by omega)]
    · rw [if_neg q, if_neg (by omega)]) (by rw [EL, if_neg (by omega)])]
  by_cases q : ∃ x ∈ c.2.1, 30 < x.length
  · rw [if_pos q]; exact ⟨false, rfl, fun h => by cases h⟩
  · rw [if_neg q]
    refine ⟨_, rfl, fun h => ?_⟩
    simp only [Bool.and_eq_true, decide_eq_true_iff] at h
    exact ⟨by omega, by omega, by omega, by omega, fun x hx => by
      rcases Nat.lt_or_ge 30 x.length with g | g
      · exact absurd ⟨x, hx, g⟩ q
      · exact g⟩
theorem MV (w : List UInt8) (B : Nat) : ∀ ws : List (List UInt8), (∀ x ∈ ws, x.length ≤ B) → (KU w ws).length ≤ w.length + (B + 1) * ws.length
  | [], _ => by unfold KU; simp
  | x :: ws, h => by
    have h1 := h x (List.mem_cons_self ..)
    have h2 := MV w B ws fun y hy => h y (List.mem_cons_of_mem _ hy)
    have e : (KU w (x :: ws)).length = (KU w ws).length + (x.length + 1) := by unfold KU; simp; omega
    rw [e, List.length_cons, Nat.mul_succ]; omega
theorem El {w : List UInt8} {ns : List Int} (hb : ∀ v ∈ ns, Jk v) : (BR w ns).length ≤ w.length + 22 * ns.length + 1 := by
  have := MV w 21 (ns.map Lib.itoa) fun x hx => by
    obtain ⟨v, hv, rfl⟩ := List.mem_map.1 hx
    have := hb v hv
    unfold Jk at this
    exact Po (by omega)
  rw [List.length_map] at this
  simp; omega
theorem Ol {w : List UInt8} {ns : List Int} : (Fo w ns).length ≤ w.length + 17 * ns.length + 1 := by
  have := MV w 16 (ns.map Fs) fun x hx => by
    obtain ⟨v, hv, rfl⟩ := List.mem_map.1 hx
    rw [Iq]; exact Nat.le_refl _
  rw [List.length_map] at this
  simp; omega
theorem Jp {A : Type} {g : A → List UInt8} {B : Nat} : ∀ l : List A, (∀ a ∈ l, (g a).length ≤ B) → ((l.map g).flatten).length ≤ B * l.length
  | [], _ => Nat.zero_le _
  | x :: l, h => by
    have h1 := h x (List.mem_cons_self ..)
    have h2 := Jp l fun y hy => h y (List.mem_cons_of_mem _ hy)
    rw [List.map_cons, List.flatten_cons, List.length_append, List.length_cons, Nat.mul_succ]; omega
theorem RT {c : Js} (ok : OkI c) (hL : QG c) : (TT c).length ≤ 80000 := by
  obtain ⟨l1, l2, l3, l4, l5⟩ := hL
  have one : ∀ {v : Int}, Jk v → ∀ u ∈ [v], Jk u := fun h u hu => by rw [List.mem_singleton.1 hu]; exact h
  have b0 := El (w := [115, 119, 105, 116, 99, 104, 101, 115]) (one ok.sw)
  have b1 := Jp (g := fun x => BR DE (GV x)) (B := 200) c.1.2.1 fun a ha => by
    have := El (w := DE) (ok.li a ha)
    simp only [GV, List.length_cons, List.length_nil] at this ⊢; omega
  have b2 := Jp (g := fun x => BR DD (GX x)) (B := 200) c.1.2.2 fun a ha => by
    have := El (w := DD) (ok.ho a ha)
    simp only [GX, List.length_cons, List.length_nil] at this ⊢; omega
  have b3 := Jp (g := Fo DO) (B := 600) c.2.1 fun a ha => by
    have := Ol (w := DO) (ns := a)
    have := l5 a ha
    simp only [List.length_cons, List.length_nil] at *; omega
  have b4 := El (w := [115, 116, 97, 114, 116, 115]) ok.st
  have b5 := El (w := [114, 97, 116, 101]) (one ok.ra)
  have b6 := El (w := [114, 111, 111, 109]) (one ok.ro)
  have b7 := El (w := [119, 105, 100, 101]) (one ok.wi)
  have b8 := El (w := [108, 101, 97, 100]) (one ok.le)
  have b9 := El (w := [109, 97, 114, 103, 105, 110]) (one ok.ma)
  have b10 := El (w := [114, 101, 116, 114, 121]) (one ok.re)
  unfold TT
  simp only [List.length_append, List.length_cons, List.length_nil] at *
  omega
theorem Oa {A B : Type} (l : List A) (g : A → List B) (step : List B × Int → Option ((List B × Int) ⊕ List B)) (hl : l.length ≤ 1000000)
    (hs : ∀ (k : Nat) (hk : k < l.length) (o : List B), (o ++ g l[k]).length ≤ 1000000 → step (o, (k : Int)) = some (.inl (o ++ g l[k], BD ((k : Int) + 1))))
    (he : ∀ o, step (o, (l.length : Int)) = some (.inr o)) (o : List B) (hb : (o ++ (l.map g).flatten).length ≤ 1000000) : Av step (o, 0) = some (o ++ (l.map g).flatten) := by
  have key : ∀ (d k : Nat) (o : List B), k + d = l.length → (o ++ ((l.drop k).map g).flatten).length ≤ 1000000 → Av step (o, (k : Int)) = some (o ++ ((l.drop k).map g).flatten) := by
    intro d
    induction d with
    | zero =>
      intro k o hk _
      obtain rfl : k = l.length := by omega
      rw [List.drop_length, List.map_nil, List.flatten_nil, List.append_nil, AN (he o)]
    | succ d ih =>
      intro k o hk hb
      have hkl : k < l.length := by omega
      rw [List.drop_eq_getElem_cons hkl, List.map_cons, List.flatten_cons, ← List.append_assoc] at hb ⊢
      have := hs k hkl o (by rw [List.length_append] at hb; omega)
      rw [Bx (by omega)] at this
      rw [BZ this]
      exact ih (k + 1) _ (by omega) hb
  have := key l.length 0 o (by omega) (by rw [List.drop_zero]; exact hb)
  rwa [List.drop_zero] at this
theorem Ha {w : List UInt8} {ns : List Int} (hb : ∀ v ∈ ns, Jk v) (hl : (BR w ns).length ≤ 1000000) (hn : ns.length ≤ 1000000) : DC w ns = some (BR w ns) := by
  have hl2 : (w ++ (ns.map fun v => 32 :: Lib.itoa v).flatten).length ≤ 1000000 := by
    unfold BR at hl
    rw [IV, List.map_map, List.length_append] at hl
    have : (ns.map ((fun x => 32 :: x) ∘ Lib.itoa)) = ns.map fun v => 32 :: Lib.itoa v := rfl
    rw [this] at hl; omega
  have e : BR w ns = (w ++ (ns.map fun v => 32 :: Lib.itoa v).flatten) ++ [10] := by
    unfold BR
    rw [IV, List.map_map]; rfl
  unfold DC
  rw [Oa ns (fun v => 32 :: Lib.itoa v) (Fx ns) hn (fun k hk o ho => by
    have hbk := hb _ (List.getElem_mem hk)
    unfold Jk at hbk
    simp only [List.length_append, List.length_cons] at ho
    rw [Fx, if_pos (by omega), Bo (by simp; omega), Option.bind_some, AQ (List.getElem?_eq_getElem hk), Option.bind_some, KX (by unfold i64; omega), Option.bind_some, Bo (by simp; omega), Option.bind_some]; simp) (fun o => by rw [Fx, if_neg (by omega)]) w hl2, Option.bind_some, Bo (by simp only [List.length_cons, List.length_nil]; omega), Option.bind_some, ← e]
theorem Qt {c : Js} (ok : OkI c) (hl : (TT c).length ≤ 900000) : Hd c = some (TT c) := by
  have one : ∀ {v : Int}, Jk v → ∀ u ∈ [v], Jk u := fun h u hu => by rw [List.mem_singleton.1 hu]; exact h
  obtain ⟨A0, a0⟩ : ∃ A, A = BR [115, 119, 105, 116, 99, 104, 101, 115] [c.1.1] := ⟨_, rfl⟩
  obtain ⟨A4, a4⟩ : ∃ A, A = BR [115, 116, 97, 114, 116, 115] c.2.2.1 := ⟨_, rfl⟩
  obtain ⟨E, hE⟩ : ∃ E : List (List UInt8 × Int), E = [([114, 97, 116, 101], c.2.2.2.1), ([114, 111, 111, 109], c.2.2.2.2.1), ([119, 105, 100, 101], c.2.2.2.2.2.1), ([108, 101, 97, 100], c.2.2.2.2.2.2.1), ([109, 97, 114, 103, 105, 110], c.2.2.2.2.2.2.2.1), ([114, 101, 116, 114, 121], c.2.2.2.2.2.2.2.2)] := ⟨_, rfl⟩
  obtain ⟨G1, g1⟩ : ∃ A, A = (c.1.2.1.map fun x => BR DE (GV x)).flatten := ⟨_, rfl⟩
  obtain ⟨G2, g2⟩ : ∃ A, A = (c.1.2.2.map fun x => BR DD (GX x)).flatten := ⟨_, rfl⟩
  obtain ⟨G3, g3⟩ : ∃ A, A = (c.2.1.map (Fo DO)).flatten := ⟨_, rfl⟩
  obtain ⟨G5, g5⟩ : ∃ A, A = (E.map fun p => BR p.1 [p.2]).flatten := ⟨_, rfl⟩
  have hT : TT c = A0 ++ (G1 ++ (G2 ++ (G3 ++ (A4 ++ G5)))) := by
    rw [a0, a4, g1, g2, g3, g5, hE]
    simp only [List.map_cons, List.map_nil, List.flatten_cons, List.flatten_nil, List.append_nil]; rfl
  rw [hT] at hl ⊢
  simp only [List.length_append] at hl
  have t0 : DC [115, 119, 105, 116, 99, 104, 101, 115] [c.1.1] = some A0 := by rw [a0]; exact Ha (one ok.sw) (by rw [← a0]; omega) (by simp)
  have t4 : DC [115, 116, 97, 114, 116, 115] c.2.2.1 = some A4 := by rw [a4]; exact Ha ok.st (by rw [← a4]; omega) (by have := LJ [115, 116, 97, 114, 116, 115] c.2.2.1; rw [← a4] at this; omega)
  have f1 := Fw (g := fun x => BR DE (GV x)) (fun a => GE _ _) c.1.2.1
  have f2 := Fw (g := fun x => BR DD (GX x)) (fun a => GE _ _) c.1.2.2
  have f3 := Fw (g := Fo DO) (fun a => KJ _ _) c.2.1
  have f5 := Fw (g := fun p : List UInt8 × Int => BR p.1 [p.2]) (fun a => GE _ _) E
  rw [← g1] at f1
  rw [← g2] at f2
  rw [← g3] at f3
  rw [← g5] at f5
  have l1 : ∀ o : List UInt8, o.length ≤ 900000 → (o ++ G1).length ≤ 900000 → Av (Ez c) (o, 0) = some (o ++ G1) := fun o ho ho2 => by
    rw [g1] at ho2 ⊢
    refine Oa c.1.2.1 (fun x => BR DE (GV x)) (Ez c) (by omega) (fun k hk o ho => ?_) (fun o => by rw [Ez, if_neg (by omega)]) o (by omega)
    have hm := List.getElem_mem hk
    have hx := f1.2 _ hm
    have e : DC [108, 105, 110, 107] [c.1.2.1[k].1, c.1.2.1[k].2.1, c.1.2.1[k].2.2.1, c.1.2.1[k].2.2.2.1, c.1.2.1[k].2.2.2.2.1, c.1.2.1[k].2.2.2.2.2] = some (BR DE (GV c.1.2.1[k])) := Ha (w := DE) (ns := GV c.1.2.1[k]) (ok.li _ hm) (by omega) (by simp [GV])
    rw [Ez, if_pos (by omega), AQ (List.getElem?_eq_getElem hk), Option.bind_some, e, Option.bind_some, Bo (by rw [List.length_append] at ho; omega)]; rfl
  have l2 : ∀ o : List UInt8, o.length ≤ 900000 → (o ++ G2).length ≤ 900000 → Av (Ev c) (o, 0) = some (o ++ G2) := fun o ho ho2 => by
    rw [g2] at ho2 ⊢
    refine Oa c.1.2.2 (fun x => BR DD (GX x)) (Ev c) (by omega) (fun k hk o ho => ?_) (fun o => by rw [Ev, if_neg (by omega)]) o (by omega)
    have hm := List.getElem_mem hk
    have hx := f2.2 _ hm
    have e : DC [104, 111, 115, 116] [c.1.2.2[k].1, c.1.2.2[k].2] = some (BR DD (GX c.1.2.2[k])) := Ha (w := DD) (ns := GX c.1.2.2[k]) (ok.ho _ hm) (by omega) (by simp [GX])
    rw [Ev, if_pos (by omega), AQ (List.getElem?_eq_getElem hk), Option.bind_some, Option.bind_some, e, Option.bind_some, Bo (by rw [List.length_append] at ho; omega)]; rfl
  have l3 : ∀ o : List UInt8, o.length ≤ 900000 → (o ++ G3).length ≤ 900000 → Av (ED c) (o, 0) = some (o ++ G3) := fun o ho ho2 => by
    rw [g3] at ho2 ⊢
    refine Oa c.2.1 (Fo DO) (ED c) (by omega) (fun k hk o ho => ?_) (fun o => by rw [ED, if_neg (by omega)]) o (by omega)
    have hm := List.getElem_mem hk
    have hx := f3.2 _ hm
    have hlen : c.2.1[k].length ≤ (Fo DO c.2.1[k]).length := by
      have := (HF DO (c.2.1[k].map Fs)).2.1
      simp only [List.length_map] at this
      simp; omega
    have el : Fo DO c.2.1[k] = DO ++ ((c.2.1[k].map fun v => 32 :: Fs v).flatten ++ [10]) := by
      unfold Fo
      rw [IV, List.map_map, List.append_assoc]; rfl
    rw [el] at ho hx hlen ⊢
    simp only [List.length_append, List.length_cons, List.length_nil] at ho hx hlen
    rw [ED, if_pos (by omega), Bo (by simp only [List.length_cons, List.length_nil]; omega), Option.bind_some]
    rw [Oa c.2.1[k] (fun v => 32 :: Fs v) (Fy c (k : Int)) (by omega) (fun j hj o ho => by
      have hbj := ok.we _ hm _ (List.getElem_mem hj)
      simp only [List.length_append, List.length_cons] at ho
      rw [Fy, AQ (List.getElem?_eq_getElem hk), Option.bind_some, if_pos (by omega), Bo (by simp; omega), Option.bind_some, Option.bind_some, AQ (List.getElem?_eq_getElem hj), Option.bind_some, QE hbj, Option.bind_some, Bo (by simp; omega), Option.bind_some]; simp) (fun o => by rw [Fy, AQ (List.getElem?_eq_getElem hk), Option.bind_some, if_neg (by omega)]) (o ++ DO) (by simp only [List.length_append, List.length_cons, List.length_nil]; omega), Option.bind_some, Bo (by simp only [List.length_append, List.length_cons, List.length_nil]; omega), Option.bind_some, Option.bind_some]
    simp
  have l5 : ∀ o : List UInt8, o.length ≤ 900000 → (o ++ G5).length ≤ 900000 → Av (EC c) (o, 0) = some (o ++ G5) := fun o ho ho2 => by
    have h6 : E.length = 6 := by rw [hE]; rfl
    rw [g5] at ho2 ⊢
    refine Oa E (fun p => BR p.1 [p.2]) (EC c) (by omega) (fun k hk o ho => ?_) (fun o => by rw [EC, if_neg (by omega)]) o (by omega)
    have hk6 : k < 6 := by omega
    have key : ix (Bm c) (k : Int) = some (E[k]).2 ∧ GC (k : Int) = some (E[k]).1 ∧ Jk (E[k]).2 := by
      subst hE
      match k, hk6 with
      | 0, _ => exact ⟨rfl, rfl, ok.ra⟩
      | 1, _ => exact ⟨rfl, rfl, ok.ro⟩
      | 2, _ => exact ⟨rfl, rfl, ok.wi⟩
      | 3, _ => exact ⟨rfl, rfl, ok.le⟩
      | 4, _ => exact ⟨rfl, rfl, ok.ma⟩
      | 5, _ => exact ⟨rfl, rfl, ok.re⟩
    have hx := f5.2 _ (List.getElem_mem hk)
    rw [EC, if_pos (by omega), key.1, Option.bind_some, key.2.1, Option.bind_some, Ha (one key.2.2) (by omega) (by simp), Option.bind_some, Bo (by rw [List.length_append] at ho; omega)]; rfl
  unfold Hd
  rw [t0, Option.bind_some, l1 A0 (by omega) (by rw [List.length_append]; omega), Option.bind_some, l2 _ (by simp only [List.length_append]; omega) (by simp only [List.length_append]; omega), Option.bind_some, l3 _ (by simp only [List.length_append]; omega) (by simp only [List.length_append]; omega), Option.bind_some, t4, Option.bind_some, Bo (by simp only [List.length_append]; omega), Option.bind_some, l5 _ (by simp only [List.length_append]; omega) (by simp only [List.length_append]; omega), Option.bind_some]
  simp only [List.append_assoc]
theorem Sr {A : Type} [DecidableEq A] (l m : List A) (hl : l.length ≤ 1000000) (step : Int → Option (Int ⊕ (Unit ⊕ Bool))) (hlen : l.length = m.length)
    (hs : ∀ (k : Nat) (h1 : k < l.length) (h2 : k < m.length), step (k : Int) = if l[k] = m[k] then some (.inl (BD ((k : Int) + 1))) else some (.inr (.inr false))) (he : step (l.length : Int) = some (.inr (.inl ()))) :
    Av step 0 = some (if l = m then .inl () else .inr false) := by
  have key : ∀ (d k : Nat), k + d = l.length → Av step (k : Int) = some (if l.drop k = m.drop k then .inl () else .inr false) := by
    intro d
    induction d with
    | zero =>
      intro k hk
      obtain rfl : k = l.length := by omega
      rw [List.drop_length, hlen, List.drop_length, if_pos rfl, ← hlen]
      exact AN he
    | succ d ih =>
      intro k hk
      have h1 : k < l.length := by omega
      have h2 : k < m.length := by omega
      have h := hs k h1 h2
      rw [List.drop_eq_getElem_cons h1, List.drop_eq_getElem_cons h2]
      by_cases c : l[k] = m[k]
      · rw [if_pos c, Bx (by omega), show (k : Int) + 1 = ((k + 1 : Nat) : Int) from by omega] at h
        rw [BZ h, ih (k + 1) (by omega)]
        by_cases e : l.drop (k + 1) = m.drop (k + 1)
        · rw [if_pos e, if_pos (by rw [c, e])]
        · rw [if_neg e, if_neg (fun h => e (List.cons.inj h).2)]
      · rw [if_neg c] at h
        rw [AN h, if_neg (fun h => c (List.cons.inj h).1)]
  have := key l.length 0 (by omega)
  simpa using this
theorem Rk {A : Type} [DecidableEq A] (l m : List A) (hl : l.length ≤ 1000000) (step : Int → Option (Int ⊕ (Unit ⊕ Bool)))
    (hs : ∀ (k : Nat) (h1 : k < l.length) (h2 : k < m.length), step (k : Int) = if l[k] = m[k] then some (.inl (BD ((k : Int) + 1))) else some (.inr (.inr false))) (he : step (l.length : Int) = some (.inr (.inl ()))) :
    (if (l.length : Int) ≠ (m.length : Int) then some false else ES (Av step 0) fun _ => some true) = some (decide (l = m)) := by
  by_cases c : l.length = m.length
  · rw [if_neg (fun h => h (by omega)), Sr l m hl step c hs he]
    by_cases e : l = m
    · rw [if_pos e, decide_eq_true e]; rfl
    · rw [if_neg e, decide_eq_false e]; rfl
  · rw [if_pos (by omega), decide_eq_false (fun e => c (by rw [e]))]
theorem Ri {l m : List Int} (h : l.length ≤ 1000000) : Cs l m = some (decide (l = m)) :=
  Rk l m h (BM l m) (fun k h1 h2 => by
    rw [BM, if_pos (by omega), AQ (List.getElem?_eq_getElem h1), Option.bind_some, AQ (List.getElem?_eq_getElem h2), Option.bind_some]
    by_cases c : l[k] = m[k]
    · rw [if_neg (fun h => h c), if_pos c]
    · rw [if_pos c, if_neg c]) (by rw [BM, if_neg (by omega)])
theorem Q4 {l m : List Int} (h : l.length ≤ 1000000) : BO l m = some (decide (l = m)) :=
  Rk l m h (Bj l m) (fun k h1 h2 => by
    rw [Bj, if_pos (by omega), AQ (List.getElem?_eq_getElem h1), Option.bind_some, AQ (List.getElem?_eq_getElem h2), Option.bind_some]
    by_cases c : l[k] = m[k]
    · rw [if_neg (fun h => h c), if_pos c]
    · rw [if_pos c, if_neg c]) (by rw [Bj, if_neg (by omega)])
theorem PC {l m : List Int} (h : l.length ≤ 1000000) : Hq l m = some (decide (l = m)) :=
  Rk l m h (FC l m) (fun k h1 h2 => by
    rw [FC, if_pos (by omega), AQ (List.getElem?_eq_getElem h1), Option.bind_some, AQ (List.getElem?_eq_getElem h2), Option.bind_some]
    by_cases c : l[k] = m[k]
    · rw [if_neg (fun h => h c), if_pos c]
    · rw [if_pos c, if_neg c]) (by rw [FC, if_neg (by omega)])
theorem Q2 {l m : List Int} (h : l.length ≤ 1000000) : Ii l m = some (decide (l = m)) :=
  Rk l m h (Fq l m) (fun k h1 h2 => by
    rw [Fq, if_pos (by omega), AQ (List.getElem?_eq_getElem h1), Option.bind_some, AQ (List.getElem?_eq_getElem h2), Option.bind_some]
    by_cases c : l[k] = m[k]
    · rw [if_neg (fun h => h c), if_pos c]
    · rw [if_pos c, if_neg c]) (by rw [Fq, if_neg (by omega)])
theorem Oz (x y : Lk) : (x.1 = y.1 ∧ x.2.1 = y.2.1 ∧ x.2.2.1 = y.2.2.1 ∧ x.2.2.2.1 = y.2.2.2.1 ∧ x.2.2.2.2.1 = y.2.2.2.2.1 ∧ x.2.2.2.2.2 = y.2.2.2.2.2) ↔ x = y := by
  obtain ⟨a, b, c, d, e, f⟩ := x
  obtain ⟨a', b', c', d', e', f'⟩ := y
  simp
theorem OK (x y : Int × Int) : (x.1 = y.1 ∧ x.2 = y.2) ↔ x = y := by
  obtain ⟨a, b⟩ := x
  obtain ⟨a', b'⟩ := y
  simp
theorem MZ {p : Prop} [Decidable p] {β : Type} {a b : β} : (if (!(decide p)) = true then a else b) = if p then b else a := by
  by_cases h : p
  · rw [decide_eq_true h, if_pos h]; rfl
  · rw [decide_eq_false h, if_neg h]; rfl
theorem RQ {l m : List Lk} (h : l.length ≤ 1000000) : Bu l m = some (decide (l = m)) :=
  Rk l m h (AW l m) (fun k h1 h2 => by
    rw [AW, if_pos (by omega), AQ (List.getElem?_eq_getElem h1), Option.bind_some, AQ (List.getElem?_eq_getElem h2), Option.bind_some, MZ]
    simp only [Oz]) (by rw [AW, if_neg (by omega)])
theorem RI {l m : List (Int × Int)} (h : l.length ≤ 1000000) : Bv l m = some (decide (l = m)) :=
  Rk l m h (AX l m) (fun k h1 h2 => by
    rw [AX, if_pos (by omega), AQ (List.getElem?_eq_getElem h1), Option.bind_some, AQ (List.getElem?_eq_getElem h2), Option.bind_some, MZ]
    simp only [OK]) (by rw [AX, if_neg (by omega)])
theorem RK {l m : List (List Int)} (h : l.length ≤ 1000000) (hx : ∀ x ∈ l, x.length ≤ 1000000) : AK l m = some (decide (l = m)) :=
  Rk l m h (Ay l m) (fun k h1 h2 => by
    rw [Ay, if_pos (by omega), AQ (List.getElem?_eq_getElem h1), Option.bind_some, AQ (List.getElem?_eq_getElem h2), Option.bind_some, Q4 (hx _ (List.getElem_mem h1)), Option.bind_some, MZ]) (by rw [Ay, if_neg (by omega)])
structure Sm (c : Js) : Prop where
  f1 : c.1.2.1.length ≤ 1000000
  f2 : c.1.2.2.length ≤ 1000000
  f3 : c.2.1.length ≤ 1000000
  f4 : c.2.2.1.length ≤ 1000000
  f5 : ∀ x ∈ c.2.1, x.length ≤ 1000000
theorem P8 {c d : Js} (h : Sm c) : ∃ b, Ea c d = some b ∧ (b = true ↔ c = d) := by
  obtain ⟨h1, h2, h3, h4, h5⟩ := h
  unfold Ea
  rw [RQ h1, RI h2, RK h3 h5, Ri h4]
  obtain ⟨⟨sw, li, ho⟩, we, st, ra, ro, wi, le, ma, re⟩ := c
  obtain ⟨⟨sw', li', ho'⟩, we', st', ra', ro', wi', le', ma', re'⟩ := d
  simp only [Option.bind_some, decide_eq_true_eq]
  by_cases e1 : sw = sw'
  case neg => rw [if_neg e1]; exact ⟨false, rfl, by simp [e1]⟩
  rw [if_pos e1]
  by_cases e2 : li = li'
  case neg => rw [if_neg e2]; exact ⟨false, rfl, by simp [e2]⟩
  rw [if_pos e2]
  by_cases e3 : ho = ho'
  case neg => rw [if_neg e3]; exact ⟨false, rfl, by simp [e3]⟩
  rw [if_pos e3]
  by_cases e4 : we = we'
  case neg => rw [if_neg e4]; exact ⟨false, rfl, by simp [e4]⟩
  rw [if_pos e4]
  by_cases e5 : st = st'
  case neg => rw [if_neg e5]; exact ⟨false, rfl, by simp [e5]⟩
  rw [if_pos e5]
  by_cases e6 : ra = ra'
  case neg => rw [if_neg e6]; exact ⟨false, rfl, by simp [e6]⟩
  rw [if_pos e6]
  by_cases e7 : ro = ro'
  case neg => rw [if_neg e7]; exact ⟨false, rfl, by simp [e7]⟩
  rw [if_pos e7]
  by_cases e8 : wi = wi'
  case neg => rw [if_neg e8]; exact ⟨false, rfl, by simp [e8]⟩
  rw [if_pos e8]
  by_cases e9 : le = le'
  case neg => rw [if_neg e9]; exact ⟨false, rfl, by simp [e9]⟩
  rw [if_pos e9]
  by_cases e10 : ma = ma'
  case neg => rw [if_neg e10]; exact ⟨false, rfl, by simp [e10]⟩
  rw [if_pos e10]
  exact ⟨decide (re = re'), rfl, by simp [e1, e2, e3, e4, e5, e6, e7, e8, e9, e10]⟩
theorem Mg {c d : Js} (h : Sm c) : ∃ b, GA c d = some b ∧ (b = true ↔ c = d) := by
  obtain ⟨h1, h2, h3, h4, h5⟩ := h
  unfold GA
  rw [PC h4, PC (by simp [Bm])]
  simp only [Option.bind_some]
  by_cases e1 : c.1.1 = d.1.1
  case neg => rw [if_pos e1]; exact ⟨false, rfl, ⟨fun h => (by cases h), fun h => absurd (by rw [h]) e1⟩⟩
  rw [if_neg (fun h => h e1)]
  by_cases n2 : c.1.2.1.length = d.1.2.1.length
  case neg => rw [if_pos (by omega)]; exact ⟨false, rfl, ⟨fun h => (by cases h), fun h => absurd (by rw [h]) n2⟩⟩
  rw [if_neg (by omega)]
  by_cases n3 : c.1.2.2.length = d.1.2.2.length
  case neg => rw [if_pos (by omega)]; exact ⟨false, rfl, ⟨fun h => (by cases h), fun h => absurd (by rw [h]) n3⟩⟩
  rw [if_neg (by omega)]
  by_cases n4 : c.2.1.length = d.2.1.length
  case neg => rw [if_pos (by omega)]; exact ⟨false, rfl, ⟨fun h => (by cases h), fun h => absurd (by rw [h]) n4⟩⟩
  rw [if_neg (by omega), MZ]
  by_cases e5 : c.2.2.1 = d.2.2.1
  case neg => rw [if_neg e5]; exact ⟨false, rfl, ⟨fun h => (by cases h), fun h => absurd (by rw [h]) e5⟩⟩
  rw [if_pos e5, Option.bind_some]
  by_cases e6 : Bm c = Bm d
  case neg => rw [decide_eq_false e6]; exact ⟨false, rfl, ⟨fun h => (by cases h), fun h => absurd (by rw [h]) e6⟩⟩
  rw [decide_eq_true e6, if_neg (by decide)]
  rw [Sr c.1.2.1 d.1.2.1 h1 (Fk c d) n2 (fun k h1 h2 => by
    rw [Fk, if_pos (by omega), AQ (List.getElem?_eq_getElem h1), Option.bind_some, AQ (List.getElem?_eq_getElem h2), Option.bind_some, MZ]
    simp only [Oz]) (by rw [Fk, if_neg (by omega)])]
  by_cases e2 : c.1.2.1 = d.1.2.1
  case neg => rw [if_neg e2]; exact ⟨false, rfl, ⟨fun h => (by cases h), fun h => absurd (by rw [h]) e2⟩⟩
  rw [if_pos e2, C0]
  rw [Sr c.1.2.2 d.1.2.2 h2 (Fv c d) n3 (fun k h1 h2 => by
    rw [Fv, if_pos (by omega), AQ (List.getElem?_eq_getElem h1), Option.bind_some, AQ (List.getElem?_eq_getElem h2), Option.bind_some, MZ]
    simp only [OK]) (by rw [Fv, if_neg (by omega)])]
  by_cases e3 : c.1.2.2 = d.1.2.2
  case neg => rw [if_neg e3]; exact ⟨false, rfl, ⟨fun h => (by cases h), fun h => absurd (by rw [h]) e3⟩⟩
  rw [if_pos e3, C0]
  rw [Sr c.2.1 d.2.1 h3 (FB c d) n4 (fun k h1 h2 => by
    rw [FB, if_pos (by omega), AQ (List.getElem?_eq_getElem h1), Option.bind_some, AQ (List.getElem?_eq_getElem h2), Option.bind_some, Q2 (h5 _ (List.getElem_mem h1)), Option.bind_some, MZ]) (by rw [FB, if_neg (by omega)])]
  by_cases e4 : c.2.1 = d.2.1
  case neg => rw [if_neg e4]; exact ⟨false, rfl, ⟨fun h => (by cases h), fun h => absurd (by rw [h]) e4⟩⟩
  rw [if_pos e4, C0]
  refine ⟨true, rfl, ⟨fun _ => ?_, fun _ => rfl⟩⟩
  obtain ⟨⟨sw, li, ho⟩, we, st, ra, ro, wi, le, ma, re⟩ := c
  obtain ⟨⟨sw', li', ho'⟩, we', st', ra', ro', wi', le', ma', re'⟩ := d
  simp only [Bm, List.cons.injEq, and_true] at e6
  simp only at e1 e2 e3 e4 e5
  simp [e1, e2, e3, e4, e5, e6]
abbrev Wf (v : Int) : Prop := (Lit.int .i64 v).wf = true
abbrev Sp : Js → Prop := Fe (Fe (fun n => Wf n) (Fe (Ld (Fe (fun n => Wf n) (Fe (fun n => Wf n) (Fe (fun n => Wf n) (Fe (fun n => Wf n) (Fe (fun n => Wf n) fun n => Wf n)))))) (Ld (Fe (fun n => Wf n) fun n => Wf n)))) (Fe (Ld (Ld fun n => (Lit.int .u64 n).wf = true)) (Fe (Ld fun n => Wf n) (Fe (fun n => Wf n) (Fe (fun n => Wf n) (Fe (fun n => Wf n) (Fe (fun n => Wf n) (Fe (fun n => Wf n) fun n => Wf n)))))))
theorem Wf.i {v : Int} (h : Wf v) : Jk v := by
  unfold Wf at h
  simp only [Lit.wf, IntKind.has] at h
  have : -9223372036854775808 ≤ v ∧ v ≤ 9223372036854775807 := by simpa [IntKind.min, IntKind.max, IntKind.bits, IntKind.signed] using h
  exact this
theorem Sp.i {c : Js} (h : Sp c) : OkI c := by
  obtain ⟨⟨h1, ⟨_, h2⟩, _, h3⟩, ⟨_, h4⟩, ⟨_, h5⟩, h6, h7, h8, h9, h10, h11⟩ := h
  refine ⟨Wf.i h1, fun x hx v hv => ?_, fun x hx v hv => ?_, fun x hx v hv => ?_, fun v hv => Wf.i (h5 v hv), Wf.i h6, Wf.i h7, Wf.i h8, Wf.i h9, Wf.i h10, Wf.i h11⟩
  · obtain ⟨a, b, c, d, e, f⟩ := h2 x hx
    simp only [GV, List.mem_cons, List.not_mem_nil, or_false] at hv
    rcases hv with rfl | rfl | rfl | rfl | rfl | rfl
    · exact Wf.i a
    · exact Wf.i b
    · exact Wf.i c
    · exact Wf.i d
    · exact Wf.i e
    · exact Wf.i f
  · obtain ⟨a, b⟩ := h3 x hx
    simp only [GX, List.mem_cons, List.not_mem_nil, or_false] at hv
    rcases hv with rfl | rfl
    · exact Wf.i a
    · exact Wf.i b
  · have h : (Lit.int .u64 v).wf = true := (h4 x hx).2 v hv
    simp only [Lit.wf, IntKind.has] at h
    have : 0 ≤ v ∧ v ≤ 18446744073709551615 := by simpa [IntKind.min, IntKind.max, IntKind.bits, IntKind.signed] using h
    exact ⟨this.1, by omega⟩
theorem Jm (p0 : Js) (ok0 : Sp p0) (p1 : Js) (ok1 : Sp p1) (p2 : List UInt8) {A : Prop} (_ : A) : EJ p0 p1 p2 = some true := by
  unfold EJ
  obtain ⟨b, e1, e2⟩ := LI (c := p0) ok0.2.1.1
  rw [e1, Option.bind_some]
  by_cases q : b = true
  case neg => rw [if_pos (by simpa using q), Option.bind_some, if_pos rfl, Jr]; rfl
  subst q
  have hL := e2 rfl
  obtain ⟨b, f1, f2⟩ := LI (c := p1) ok1.2.1.1
  rw [if_neg (by decide), f1, Option.bind_some]
  by_cases q : b = true
  case neg => rw [if_pos (by simpa using q), Option.bind_some, if_pos rfl, Jr]; rfl
  subst q
  rw [if_neg (by decide), Option.bind_some]
  by_cases q : 2000 < (p2.length : Int)
  · rw [decide_eq_true q, if_pos rfl, Jr]; rfl
  rw [decide_eq_false q, if_neg (by decide)]
  obtain ⟨c, n, e, g1, g2, g3⟩ := Ot (s := p2) (by omega)
  have hT := RT ok0.i hL
  have hS : Sm p0 := ⟨by have := hL.1; omega, by have := hL.2.1; omega, by have := hL.2.2.1; omega, by have := hL.2.2.2.1; omega, fun x hx => by have := hL.2.2.2.2 x hx; omega⟩
  have hC : Sm c := ⟨by have := g3.1; omega, by have := g3.2.1; omega, by have := g3.2.2.1; omega, by have := g3.2.2.2.1; omega, fun x hx => by have := g3.2.2.2.2 x hx; omega⟩
  obtain ⟨b1, s1, s2⟩ := P8 (d := p1) hS
  obtain ⟨b2, s3, s4⟩ := Mg (d := p1) hS
  obtain ⟨b3, s5, s6⟩ := Mg (d := c) hC
  obtain rfl : b3 = true := s6.2 rfl
  obtain rfl : b1 = b2 := Bool.eq_iff_iff.2 (s2.trans s4.symm)
  rw [g1, Option.bind_some, g2, Option.bind_some, QX ok0.i (by omega), Option.bind_some, Qt ok0.i (by omega), Option.bind_some, if_pos rfl, s1, Option.bind_some, s3, Option.bind_some, if_pos rfl, s5, Option.bind_some, if_pos rfl, if_pos rfl, if_pos rfl, Jr]
  rfl
end Go.Proofs.YthmkgdnnocemmaaGreatDoor
