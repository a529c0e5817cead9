/- Layer 42: what the document finds. Conditions: none. -/
import Derived.Test.YtflaelbmglmmcaadM42B
namespace Go.Proofs.Ytflaelbmglmmcaa
set_option linter.unusedVariables false
set_option linter.unusedSimpArgs false
open Go Go.RowKit
def mD (l : List Ev) : Nat → List (Int × Int)
  | 0 => []
  | d + 1 => match l[l.length - (d + 1)]? with
    | some e => if e.1 = 9 ∨ e.1 = 10 then C5 (mD l d) e.2.2.1 ((l.length - (d + 1) : Nat) : Int) else mD l d
    | none => mD l d
theorem OY (l : List Ev) {d k : Nat} {e : Ev} (hk : k + (d + 1) = l.length) (hg : l[k]? = some e) : mD l (d + 1) = if e.1 = 9 ∨ e.1 = 10 then C5 (mD l d) e.2.2.1 (k : Int) else mD l d := by
  have hi : l.length - (d + 1) = k := by omega
  rw [mD, hi, hg]
theorem Ju (l : List Ev) (m : List (Int × Int)) (e q : Ev) {k : Nat} (hg : l[k]? = some q) : Hc l (C5 m q.2.2.1 (k : Int)) e = if e.2.2.1 = q.2.2.1 then Ck e q else Hc l m e := by
  unfold Hc
  rw [Fx]
  by_cases c : e.2.2.1 = q.2.2.1
  · rw [if_pos c, if_pos c]
    simp only [Int.toNat_natCast, hg]
  · rw [if_neg c, if_neg c]
theorem Lu (l : List Ev) (hl : l.length ≤ 1000) {i : Nat} {e : Ev} (he : l[i]? = some e) : ∀ (r d : Nat), d + r + 1 + i = l.length → AM (C9 l (i : Int) e) (((l.length - 1 - d : Nat) : Int), Hc l (mD l d) e) = some (Hc l (mD l (d + r)) e)
  | 0, d, h => by rw [A5 (by rw [C9, if_neg (by omega)])]; rfl
  | r + 1, d, h => by
    have hk : l.length - 1 - d < l.length := by omega
    obtain ⟨k, hkk⟩ : ∃ k, k = l.length - 1 - d := ⟨_, rfl⟩
    obtain ⟨q, hq⟩ : ∃ q, l[k]? = some q := ⟨l[k]'(by omega), List.getElem?_eq_getElem (by omega)⟩
    have hm := OY l (d := d) (k := k) (by omega) hq
    have ih := Lu l hl he r (d + 1) (by omega)
    have hstep : C9 l (i : Int) e ((k : Int), Hc l (mD l d) e) = some (.inl (((l.length - 1 - (d + 1) : Nat) : Int), Hc l (mD l (d + 1)) e)) := by
      have h1 : ((ix l (k : Int)).bind fun x14 => (if x14.2.2.1 = e.2.2.1 then (ix l (k : Int)).bind fun x15 => some (decide (x15.1 = 9)) else some false)) = some (decide (q.2.2.1 = e.2.2.1 ∧ q.1 = 9)) := by
        rw [A4 hq, Option.bind_some, Option.bind_some]
        by_cases a : q.2.2.1 = e.2.2.1 <;> simp [a]
      have h2 : ((ix l (k : Int)).bind fun x14 => (if x14.2.2.1 = e.2.2.1 then (ix l (k : Int)).bind fun x15 => some (decide (x15.1 = 10)) else some false)) = some (decide (q.2.2.1 = e.2.2.1 ∧ q.1 = 10)) := by
        rw [A4 hq, Option.bind_some, Option.bind_some]
        by_cases a : q.2.2.1 = e.2.2.1 <;> simp [a]
      have hA : ((if decide (q.2.2.1 = e.2.2.1 ∧ q.1 = 9) = true then (ix l (i : Int)).bind fun x16 => some x16.2.2.2.2.2 else some (Hc l (mD l d) e)) : Option Int) = some (if q.2.2.1 = e.2.2.1 ∧ q.1 = 9 then e.2.2.2.2.2 else Hc l (mD l d) e) := by
        rw [A4 he, Option.bind_some]
        by_cases a : q.2.2.1 = e.2.2.1 ∧ q.1 = 9
        · rw [if_pos (decide_eq_true a), if_pos a]
        · rw [if_neg (by rw [decide_eq_true_eq]; exact a), if_neg a]
      have hB : ∀ z : Int, ((if decide (q.2.2.1 = e.2.2.1 ∧ q.1 = 10) = true then (ix l (k : Int)).bind fun x20 => some x20.2.1 else some z) : Option Int) = some (if q.2.2.1 = e.2.2.1 ∧ q.1 = 10 then q.2.1 else z) := fun z => by
        rw [A4 hq, Option.bind_some]
        by_cases a : q.2.2.1 = e.2.2.1 ∧ q.1 = 10
        · rw [if_pos (decide_eq_true a), if_pos a]
        · rw [if_neg (by rw [decide_eq_true_eq]; exact a), if_neg a]
      rw [C9, if_pos (by omega), h1, Option.bind_some, hA, Option.bind_some, h2, Option.bind_some, hB, Option.bind_some, Bn (by omega), show (k : Int) - 1 = ((l.length - 1 - (d + 1) : Nat) : Int) by omega, hm]
      congr 3
      by_cases a : q.2.2.1 = e.2.2.1
      · by_cases b10 : q.1 = 10
        · rw [if_pos ⟨a, b10⟩, if_pos (.inr b10), Ju l _ e q hq, if_pos a.symm]
          unfold Ck; rw [if_neg (show ¬ q.1 = 9 by omega)]
        · rw [if_neg (fun h => b10 h.2)]
          by_cases b9 : q.1 = 9
          · rw [if_pos ⟨a, b9⟩, if_pos (.inl b9), Ju l _ e q hq, if_pos a.symm]
            unfold Ck; rw [if_pos b9]
          · rw [if_neg (fun h => b9 h.2), if_neg (show ¬ (q.1 = 9 ∨ q.1 = 10) by omega)]
      · rw [if_neg (fun h => a h.1), if_neg (fun h => a h.1)]
        by_cases b : q.1 = 9 ∨ q.1 = 10
        · rw [if_pos b, Ju l _ e q hq, if_neg (fun h => a h.symm)]
        · rw [if_neg b]
    rw [← hkk, BU hstep, ih, show d + 1 + r = d + (r + 1) by omega]
def oG (l : List Ev) (i : Nat) : List G3 := (gd l (IL (l.take i)) (mD l (l.length - i))).reverse
theorem Om (l : List Ev) {i : Nat} {e : Ev} (he : l[i]? = some e) : oG l (i + 1) = oG l i ++ if e.1 = 8 then [(e.2.2.1, e.2.2.2.2.1, Hc l (mD l (l.length - 1 - i)) e)] else [] := by
  have hi := (List.getElem?_eq_some_iff.1 he).1
  obtain ⟨d, hd⟩ : ∃ d, d = l.length - 1 - i := ⟨_, rfl⟩
  have hm := OY l (d := d) (k := i) (by omega) he
  unfold oG
  rw [HS he, show l.length - (i + 1) = d by omega, show l.length - i = d + 1 by omega, ← hd, hm, gd]
  by_cases c : e.1 = 9 ∨ e.1 = 10
  · rw [if_pos c, if_pos c, if_neg (by omega), List.append_nil]
  · rw [if_neg c, if_neg c]
    by_cases c8 : e.1 = 8
    · rw [if_pos c8, if_pos c8, List.reverse_cons]
    · rw [if_neg c8, if_neg c8, List.append_nil]
theorem Pk (l : List Ev) (i : Nat) : (oG l i).length ≤ i := by
  have := HY l (IL (l.take i)) (mD l (l.length - i))
  rw [IX, List.length_take] at this
  unfold oG; rw [List.length_reverse]; omega
theorem Hq {l : List Ev} (hl : l.length ≤ 1000) : Eb l = some (Bb l) := by
  unfold Eb
  obtain ⟨x, h1, h2⟩ := EC l.length (fun (x : List G3) (k : Nat) => (x, (k : Int))) (DA l) id (fun x k => x = oG l k) (fun x k hk hx => by
    obtain ⟨e, he⟩ : ∃ e, l[k]? = some e := ⟨l[k], List.getElem?_eq_getElem hk⟩
    have hlen := Pk l k
    refine ⟨oG l (k + 1), ?_, rfl⟩
    rw [Om l he, hx, DA, if_pos (by omega), A4 he, Option.bind_some]
    by_cases c : e.1 = 8
    · have hin := Lu l hl he (l.length - 1 - k) 0 (by omega)
      have hin : AM (C9 l (k : Int) e) (((l.length - 1 : Nat) : Int), 1125899906842624) = some (Hc l (mD l (0 + (l.length - 1 - k))) e) := hin
      rw [Nat.zero_add] at hin
      rw [if_neg (fun h => h c), if_pos c, Option.bind_some, Option.bind_some, Bn (by omega), show (l.length : Int) - 1 = ((l.length - 1 : Nat) : Int) by omega, hin, Option.bind_some, Eu (by simp; omega), Option.bind_some, Option.bind_some, Bn (by omega)]; rfl
    · rw [if_pos c, if_neg c, Option.bind_some, List.append_nil, Bn (by omega)]; rfl) (fun x _ => by rw [DA, if_neg (by omega)]; rfl) [] rfl
  have h3 : AM (DA l) ([], 0) = some (id x) := h2
  have he : oG l l.length = Bb l := by unfold oG Bb; rw [List.take_length, Nat.sub_self]; rfl
  rw [h3, h1, he]; rfl
theorem Jw {l : List Ev} (hl : l.length ≤ 1000) (at_ : Int) : DJ l at_ = some ((Bb l).any (JX at_)) := by
  have hg := ES l
  unfold DJ
  rw [Hq hl, Option.bind_some, DC (Bb l) (by omega) (DL at_ (Bb l)) (fun g => JX at_ g = true) true (fun k hk => by
    have e1 : (Bb l)[k]? = some (Bb l)[k] := List.getElem?_eq_getElem hk
    have e2 : ((ix (Bb l) (k : Int)).bind fun x4 => (if x4.2.1 ≤ at_ then (ix (Bb l) (k : Int)).bind fun x5 => some (decide (at_ ≤ x5.2.2)) else some false)) = some (JX at_ (Bb l)[k]) := by
      rw [A4 e1, Option.bind_some, Option.bind_some]
      unfold JX
      by_cases c : (Bb l)[k].2.1 ≤ at_ <;> simp [c]
    rw [DL, if_pos (by omega), e2, Option.bind_some]) (by rw [DL, if_neg (by omega)])]
  by_cases c : ∃ g ∈ Bb l, JX at_ g = true
  · rw [if_pos c, List.any_eq_true.2 c]; rfl
  · rw [if_neg c]
    have : (Bb l).any (JX at_) = false := by
      cases h : (Bb l).any (JX at_) with
      | true => exact absurd (List.any_eq_true.1 h) c
      | false => rfl
    rw [this]; rfl
def fF (at_ : Int) (a : Int) (C : List (Int × Int)) : Int := C.foldl (fun a c => if c.2 < at_ then c.1 else a) a
theorem NK (at_ a : Int) (C D : List (Int × Int)) : fF at_ a (C ++ D) = fF at_ (fF at_ a C) D := by unfold fF; rw [List.foldl_append]
theorem Mv (l : List Ev) (at_ : Int) (G : List G3) (hG : G.length ≤ 1000) {i : Nat} {e : Ev} (he : l[i]? = some e) : ∀ (X : List G3) (k : Nat) (a : Int), G.drop k = X → k ≤ G.length → AM (CQ l at_ G (i : Int)) (a, (k : Int)) = some (fF at_ a (if e.1 = 9 then pr e X else []))
  | [], k, a, hX, hk => by
    have : G.length ≤ k := List.drop_eq_nil_iff.1 hX
    rw [A5 (by rw [CQ, if_neg (by omega)])]
    by_cases c : e.1 = 9 <;> simp [c, pr, fF]
  | g :: X, k, a, hX, hk => by
    have hg : G[k]? = some g := by rw [← List.head?_drop, hX]; rfl
    have hlt := (List.getElem?_eq_some_iff.1 hg).1
    have hd : G.drop (k + 1) = X := by rw [← List.tail_drop, hX]; rfl
    have hc : ((ix l (i : Int)).bind fun x10 => (if x10.1 = 9 then (ix G (k : Int)).bind fun x11 => (ix l (i : Int)).bind fun x12 => (if x11.1 = x12.2.2.1 then (ix G (k : Int)).bind fun x13 => some (decide (x13.2.2 < at_)) else some false) else some false)) = some (decide (e.1 = 9 ∧ g.1 = e.2.2.1 ∧ g.2.2 < at_)) := by
      rw [A4 he, A4 hg]
      simp only [Option.bind_some]
      by_cases a : e.1 = 9 <;> by_cases b : g.1 = e.2.2.1 <;> simp [a, b]
    have hst : CQ l at_ G (i : Int) (a, (k : Int)) = some (.inl ((if e.1 = 9 ∧ g.1 = e.2.2.1 ∧ g.2.2 < at_ then e.2.2.2.2.1 else a), ((k + 1 : Nat) : Int))) := by
      rw [CQ, if_pos (by omega), hc, Option.bind_some, A4 he, Option.bind_some, Bn (by omega)]
      by_cases c : e.1 = 9 ∧ g.1 = e.2.2.1 ∧ g.2.2 < at_
      · rw [if_pos (decide_eq_true c), if_pos c]; rfl
      · rw [if_neg (by rw [decide_eq_true_eq]; exact c), if_neg c]; rfl
    rw [BU hst, Mv l at_ G hG he X (k + 1) _ hd (by omega), I0]
    by_cases a9 : e.1 = 9
    · rw [if_pos a9, if_pos a9, NK]
      congr 1
      by_cases b : g.1 = e.2.2.1
      · rw [if_pos b]
        by_cases c : g.2.2 < at_
        · rw [if_pos ⟨a9, b, c⟩]; simp [fF, c]
        · rw [if_neg (fun h => c h.2.2)]; simp [fF, c]
      · rw [if_neg b, if_neg (fun h => b h.2.1)]; rfl
    · rw [if_neg a9, if_neg a9, if_neg (fun h => a9 h.1)]
theorem Mn (l : List Ev) (hl : l.length ≤ 1000) (at_ : Int) (G : List G3) (hG : G.length ≤ 1000) : ∀ (X : List Ev) (k : Nat) (a : Int), l.drop k = X → k ≤ l.length → AM (Dh l at_ G) (a, (k : Int)) = some (fF at_ a (cm G X))
  | [], k, a, hX, hk => by
    have : l.length ≤ k := List.drop_eq_nil_iff.1 hX
    rw [A5 (by rw [Dh, if_neg (by omega)])]; simp [cm, fF]
  | e :: X, k, a, hX, hk => by
    have hg : l[k]? = some e := by rw [← List.head?_drop, hX]; rfl
    have hlt := (List.getElem?_eq_some_iff.1 hg).1
    have hd : l.drop (k + 1) = X := by rw [← List.tail_drop, hX]; rfl
    have h2 := Mv l at_ G hG hg G 0 a rfl (Nat.zero_le _)
    have h2 : AM (CQ l at_ G (k : Int)) (a, 0) = _ := h2
    rw [BU (s' := (fF at_ a (if e.1 = 9 then pr e G else []), ((k + 1 : Nat) : Int))) (by
      rw [Dh, if_pos (by omega), h2, Option.bind_some, Bn (by omega)]; rfl), Mn l hl at_ G hG X (k + 1) _ hd (by omega), IU, NK]
theorem Ko {l : List Ev} (hl : l.length ≤ 200) (at_ : Int) : DO l at_ = some (Hj (Gf l) at_) := by
  have hg := ES l
  have h := Mn l (by omega) at_ (Bb l) (by omega) l 0 0 rfl (Nat.zero_le _)
  have h : AM (Dh l at_ (Bb l)) (0, 0) = some (fF at_ 0 (cm (Bb l) l)) := h
  unfold DO
  rw [Hq (by omega), Option.bind_some, h]; rfl
theorem La (t : Tp) {R : List Rt} (hR : FU R) {l : List Ev} (hl : l.length ≤ 200) {T : List Tr} {k : Nat} {x : Tr} (hx : T[k]? = some x) (hk : k ≤ 100000) (hs : x.2.2.2.2.1.length ≤ 1000) {y : List (Int × Int)} (hy : y.length ≤ 10000) :
    Dt t R l T (y, (k : Int)) = some (.inl (y ++ Mk t R (Bb l) (Gf l) x, ((k + 1 : Nat) : Int))) := by
  have hlt := (List.getElem?_eq_some_iff.1 hx).1
  have hoth : ((DJ l x.2.2.2.1).bind fun x15 => (if (!x15) = true then (DO l x.2.2.2.1).bind fun x16 => (DR t R x16 x).bind fun x17 => some (!x17) else some false)) = some (Ia t R (Bb l) (Gf l) x) := by
    unfold Ia
    rw [Jw (by omega), Option.bind_some, Ko hl]
    simp only [Option.bind_some]
    by_cases d : (Bb l).any (JX x.2.2.2.1) = true
    · rw [d, if_neg (by decide)]
      by_cases c : x.2.2.2.2.1 = []
      · rw [if_pos c]
      · rw [if_neg c, if_pos rfl]
    · have df : (Bb l).any (JX x.2.2.2.1) = false := by cases h : (Bb l).any (JX x.2.2.2.1) with | true => exact absurd h d | false => rfl
      rw [df, if_pos (by decide)]
      by_cases c : x.2.2.2.2.1 = []
      · have hw : DR t R (Hj (Gf l) x.2.2.2.1) x = some true := by unfold DR; rw [if_pos (by rw [c]; rfl)]
        rw [if_pos c, hw]; rfl
      · obtain ⟨b, hb, hb2⟩ := I9 t hR (Hj (Gf l) x.2.2.2.1) c hs
        rw [if_neg c, if_neg (by decide), hb2, hb]; rfl
  have ht : (Fw x.2.2.2.2.1) = some (decide (¬ x.2.2.2.2.1.Nodup)) := MK (by omega)
  have l1 := E0 (p := decide (¬ x.2.2.2.2.1.Nodup) = true) (1, x.1)
  have l2 := E0 (p := x.2.2.2.2.2.1 = 4) (2, x.1)
  have l3 := E0 (p := (decide (x.2.2.2.2.2.1 = 3) && decide (x.2.2.2.2.2.2.1 ≠ x.2.2.1)) = true) (3, x.1)
  rw [Dt, if_pos (by omega), A4 hx, Option.bind_some, ht, Option.bind_some, F0 (by omega), Option.bind_some, F0 (by rw [List.length_append]; omega), Option.bind_some]
  rw [F0 (by rw [List.length_append, List.length_append]; omega), Option.bind_some, hoth, Option.bind_some, F0 (by rw [List.length_append, List.length_append, List.length_append]; omega), Option.bind_some, Bn (by omega)]
  congr 2
  refine Prod.ext ?_ rfl
  show _ = y ++ Mk t R (Bb l) (Gf l) x
  unfold Mk
  simp only [decide_eq_true_eq, Bool.and_eq_true, List.append_assoc]
theorem Im (t : Tp) {R : List Rt} (hR : FU R) {l : List Ev} (hl : l.length ≤ 200) (T : List Tr) (hT : T.length ≤ 1000) (hs : ∀ x ∈ T, x.2.2.2.2.1.length ≤ 1000) : ∀ (X : List Tr) (k : Nat) (y : List (Int × Int)), T.drop k = X → k ≤ T.length → y.length ≤ 4 * k → AM (Dt t R l T) (y, (k : Int)) = some (y ++ X.flatMap (Mk t R (Bb l) (Gf l)))
  | [], k, y, hX, hk, hy => by
    have : T.length ≤ k := List.drop_eq_nil_iff.1 hX
    rw [A5 (by rw [Dt, if_neg (by omega)])]; simp
  | x :: X, k, y, hX, hk, hy => by
    have hg : T[k]? = some x := by rw [← List.head?_drop, hX]; rfl
    have hlt := (List.getElem?_eq_some_iff.1 hg).1
    have hd : T.drop (k + 1) = X := by rw [← List.tail_drop, hX]; rfl
    have hf := KT t R (Bb l) (Gf l) x
    rw [BU (La t hR hl hg (by omega) (hs x (List.mem_of_getElem? hg)) (by omega)), Im t hR hl T hT hs X (k + 1) _ hd (by omega) (by rw [List.length_append]; omega), List.flatMap_cons, List.append_assoc]
theorem MJ (t : Tp) {R : List Rt} (hR : FU R) {l : List Ev} (hl : l.length ≤ 200) : Gk t R l = some (Gw t R l) := by
  have h3 := JB l
  have h4 := KD l
  have h5 := Im t hR hl (tr l) (by omega) (fun x hx => by have := h4 x hx; omega) (tr l) 0 [] rfl (Nat.zero_le _) (Nat.le_refl _)
  have h5 : AM (Dt t R l (tr l)) ([], 0) = some ([] ++ (tr l).flatMap (Mk t R (Bb l) (Gf l))) := h5
  unfold Gk
  rw [O5 (by omega), Option.bind_some, h5]; rfl
theorem M7 (t : Tp) (R : List Rt) (l : List Ev) : (Gw t R l).length ≤ 4 * l.length := by
  have : ∀ T : List Tr, (T.flatMap (Mk t R (Bb l) (Gf l))).length ≤ 4 * T.length := fun T => by
    induction T with
    | nil => simp
    | cons x T ih => have := KT t R (Bb l) (Gf l) x; rw [List.flatMap_cons, List.length_append, List.length_cons]; omega
  have h1 := this (tr l)
  have h2 := JB l
  unfold Gw; omega
def Hi (e : Ev) : Bool := decide (e.1 = 12) && decide (0 ≤ e.2.2.2.1)
theorem J3 (l : List Ev) (hl : l.length ≤ 1000) : ∀ (X : List Ev) (k : Nat) (b : Bool), l.drop k = X → k ≤ l.length → AM (Cy l) (b, (k : Int)) = some (b || X.any Hi)
  | [], k, b, hX, hk => by
    have : l.length ≤ k := List.drop_eq_nil_iff.1 hX
    rw [A5 (by rw [Cy, if_neg (by omega)])]; simp
  | e :: X, k, b, hX, hk => by
    have hg : l[k]? = some e := by rw [← List.head?_drop, hX]; rfl
    have hlt := (List.getElem?_eq_some_iff.1 hg).1
    have hd : l.drop (k + 1) = X := by rw [← List.tail_drop, hX]; rfl
    rw [BU (s' := (b || Hi e, ((k + 1 : Nat) : Int))) (by
      rw [Cy, if_pos (by omega), Bn (by omega)]
      cases b with
      | true => rw [if_pos rfl]; rfl
      | false =>
        rw [if_neg (by decide), A4 hg, Option.bind_some, Option.bind_some]
        unfold Hi
        by_cases c : e.1 = 12
        · rw [if_pos c, decide_eq_true c]; rfl
        · rw [if_neg c, decide_eq_false c]; rfl), J3 l hl X (k + 1) _ hd (by omega), List.any_cons, Bool.or_assoc]
theorem J8 (l : List Ev) (hl : l.length ≤ 1000) : ∀ (X : List Ev) (k : Nat), l.drop k = X → k ≤ l.length → ∃ r, AM (AR l) (k : Int) = some r ∧ ((r = .inl () ∧ X.any Hi = false) ∨ ∃ j : Int, r = .inr j ∧ 0 ≤ j ∧ X.any Hi = true)
  | [], k, hX, hk => by
    have : l.length ≤ k := List.drop_eq_nil_iff.1 hX
    exact ⟨.inl (), A5 (by rw [AR, if_neg (by omega)]), .inl ⟨rfl, rfl⟩⟩
  | x :: X, k, hX, hk => by
    have hg : l[k]? = some x := by rw [← List.head?_drop, hX]; rfl
    have hlt := (List.getElem?_eq_some_iff.1 hg).1
    have hd : l.drop (k + 1) = X := by rw [← List.tail_drop, hX]; rfl
    by_cases c : Hi x = true
    · exact ⟨.inr (k : Int), A5 (by rw [AR, if_pos (by omega), A4 hg, Option.bind_some, show CW x = true from c, if_pos rfl]), .inr ⟨(k : Int), rfl, by omega, by rw [List.any_cons, c]; rfl⟩⟩
    · obtain ⟨r, e1, e2⟩ := J8 l hl X (k + 1) hd (by omega)
      have cf : Hi x = false := by cases h : Hi x with | true => exact absurd h c | false => rfl
      refine ⟨r, by rw [BU (s' := ((k + 1 : Nat) : Int)) (by rw [AR, if_pos (by omega), A4 hg, Option.bind_some, if_neg (show ¬ CW x = true from c), Bn (by omega)]; rfl)]; exact e1, ?_⟩
      rw [List.any_cons, cf, Bool.false_or]; exact e2
theorem LJ {l : List Ev} (hl : l.length ≤ 1000) : D1 l = some (l.any Hi) := by
  obtain ⟨r, e1, e2⟩ := J8 l hl l 0 rfl (Nat.zero_le _)
  have e1 : AM (AR l) 0 = some r := e1
  unfold D1 Bv BD
  rw [e1]
  rcases e2 with ⟨rfl, h⟩ | ⟨j, rfl, h0, h⟩
  · rw [h]; rfl
  · rw [h]
    show some (decide (0 ≤ j)) = _
    rw [decide_eq_true h0]
theorem OI (k : Int) : GL k = some (CJ k) := by
  unfold GL
  by_cases c : k < 1 ∨ 4 < k
  · rw [if_pos (by simpa using c)]
    unfold CJ
    rw [if_neg (by omega), if_neg (by omega), if_neg (by omega), if_neg (by omega)]
  · rw [if_neg (by simpa using c)]
    have : k = 1 ∨ k = 2 ∨ k = 3 ∨ k = 4 := by omega
    rcases this with rfl | rfl | rfl | rfl <;> rfl
theorem IB (p0 : Tp) {A0 : Prop} (_ : A0) (p1 : List Rt) (ok1 : L8 (L8 (L8 (fun n => (Lit.int .i64 n).wf = true))) p1) (p2 : List Ev) {A2 : Prop} (_ : A2) (p3 : Int) {A3 : Prop} (_ : A3) : EF p0 p1 p2 p3 = some true := by
  unfold EF
  rw [OD]
  obtain ⟨b, hb, hs⟩ := Oq p0 p1 (fun r hr => (ok1.2 r hr).1) p2
  rw [hb, Option.bind_some]
  cases b with
  | false => rw [if_pos (by decide)]; rfl
  | true =>
    rw [if_neg (by decide)]
    obtain ⟨h100, hR⟩ := hs rfl
    have hg := ES p2
    have hF : D3 p2 p3 = some (Hj (Gf p2) p3) := by
      unfold D3
      rw [Ky (by omega), Option.bind_some, Lg _ (by have := Mm (l := p2) (by omega); omega)]; rfl
    have hW : D2 p2 p3 = some ((Bb p2).any (JX p3)) := by
      unfold D2
      rw [Ky (by omega), Option.bind_some, J6 (by omega)]; rfl
    have hfl := M7 p0 p1 p2
    rw [Kc (by omega), Option.bind_some, Hq (by omega), Option.bind_some, if_neg (fun h => h rfl), hW, Option.bind_some, Jw (by omega), Option.bind_some, if_neg (fun h => h rfl), hF, Option.bind_some, Ko (by omega), Option.bind_some, if_neg (fun h => h rfl), OI, Option.bind_some, Option.bind_some, if_neg (by simp)]
    rw [DC (Bb p2) (by omega) (CX (Bb p2) (Bb p2)) (fun _ => False) false (fun k hk => by
      have e1 : (Bb p2)[k]? = some (Bb p2)[k] := List.getElem?_eq_getElem hk
      rw [CX, if_pos (by omega), A4 e1]; simp) (by rw [CX, if_neg (by omega)]), if_neg (fun ⟨_, _, h⟩ => h)]
    simp only [D6, Option.bind_some]
    rw [NI p0 hR (by omega), Option.bind_some, MJ p0 hR (by omega), Option.bind_some, if_neg (fun h => h rfl)]
    rw [DC (Gw p0 p1 p2) (by omega) (CY (Gw p0 p1 p2) (Gw p0 p1 p2)) (fun _ => False) false (fun k hk => by
      have e1 : (Gw p0 p1 p2)[k]? = some (Gw p0 p1 p2)[k] := List.getElem?_eq_getElem hk
      rw [CY, if_pos (by omega), A4 e1]; simp) (by rw [CY, if_neg (by omega)]), if_neg (fun ⟨_, _, h⟩ => h)]
    have hc := J3 p2 (by omega) p2 0 false rfl (Nat.zero_le _)
    have hc : AM (Cy p2) (false, 0) = some (p2.any Hi) := by rw [Bool.false_or] at hc; exact hc
    simp only [Option.bind_some]
    rw [hc, Option.bind_some, LJ (by omega), Option.bind_some, if_pos rfl]
    rfl
end Go.Proofs.Ytflaelbmglmmcaa
