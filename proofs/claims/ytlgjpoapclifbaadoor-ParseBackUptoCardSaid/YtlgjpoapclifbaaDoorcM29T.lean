/- Layer 29: trees. Conditions: none. -/
import Derived.Test.YtlgjpoapclifbaaDoorcLP
import Derived.Test.YtlgjpoapclifbaaDoorcA13
import Derived.Test.YtlgjpoapclifbaaDoorcEV
namespace Go.Proofs.YtlgjpoapclifbaaDoor
set_option linter.unusedVariables false
set_option linter.unusedSimpArgs false
open Go Go.RowKit
theorem Pe {t x : Tr34} (h : x ∈ t.un.2.2.2) : SizeOf.sizeOf x < SizeOf.sizeOf t := by
  cases t with
  | mk k f v l =>
    have h' : x ∈ l := h
    have := List.sizeOf_lt_of_mem h'
    simp only [Tr34.mk.sizeOf_spec]; omega
theorem Qc {t x : Tr25} (h : x ∈ t.un.2.2.2) : SizeOf.sizeOf x < SizeOf.sizeOf t := by
  cases t with
  | mk k f v l =>
    have h' : x ∈ l := h
    have := List.sizeOf_lt_of_mem h'
    simp only [Tr25.mk.sizeOf_spec]; omega
theorem Pf (t : Tr34) : t.cnt = 1 + (t.un.2.2.2.map Tr34.cnt).sum := by cases t; rw [Tr34.cnt]; rfl
theorem IM (t : Tr25) : t.cnt = 1 + (t.un.2.2.2.map Tr25.cnt).sum := by cases t; rw [Tr25.cnt]; rfl
theorem Iq {α : Type} {g : α → Nat} : ∀ {l : List α} {x : α}, x ∈ l → g x ≤ (l.map g).sum
  | y :: l, x, h => by
    rw [List.map_cons, List.sum_cons]
    rcases List.mem_cons.1 h with e | h
    · rw [e]; omega
    · have := Iq (g := g) h; omega
theorem Jj {α : Type} {g : α → Nat} (hg : ∀ x, 1 ≤ g x) : ∀ l : List α, l.length ≤ (l.map g).sum
  | [] => Nat.zero_le _
  | y :: l => by
    have := hg y
    have := Jj hg l
    rw [List.map_cons, List.sum_cons, List.length_cons]; omega
theorem O1 {α : Type} {g : α → Nat} (l : List α) (i : Nat) : ((l.take i).map g).sum ≤ (l.map g).sum := by
  have h : (l.map g).sum = ((l.take i).map g).sum + ((l.drop i).map g).sum := by
    rw [← List.sum_append, ← List.map_append, List.take_append_drop]
  omega
theorem Tn {t x : Tr34} (h : x ∈ t.un.2.2.2) : x.cnt ≤ t.cnt := by rw [Pf t]; have := Iq (g := Tr34.cnt) h; omega
theorem Vx {t x : Tr25} (h : x ∈ t.un.2.2.2) : x.cnt ≤ t.cnt := by rw [IM t]; have := Iq (g := Tr25.cnt) h; omega
theorem Ur (t : Tr34) : t.un.2.2.2.length + 1 ≤ t.cnt := by rw [Pf t]; have := Jj (g := Tr34.cnt) (fun x => by rw [Pf x]; omega) t.un.2.2.2; omega
theorem VL (t : Tr25) : t.un.2.2.2.length + 1 ≤ t.cnt := by rw [IM t]; have := Jj (g := Tr25.cnt) (fun x => by rw [IM x]; omega) t.un.2.2.2; omega
def th : Tr25 → Tr34
  | .mk k f v l => .mk k f v (l.map th)
theorem Tx (t : Tr25) : th t = Tr34.of (t.un.1, t.un.2.1, t.un.2.2.1, t.un.2.2.2.map th) := by cases t; rw [th]; rfl
theorem T8 (t : Tr34) : Tr34.of t.un = t := by cases t; rfl
theorem O8 : ∀ (n : Nat) (t : Tr25), SizeOf.sizeOf t < n → t.cnt ≤ 2097152 → CQ n t = some (th t)
  | 0, t, h, _ => absurd h (Nat.not_lt_zero _)
  | n + 1, t, h, hc => by
    have hl := VL t
    show Dn (CQ n) t = _
    unfold Dn
    obtain ⟨o, h1, h2⟩ := EN t.un.2.2.2.length (fun (o : List Tr34) (i : Nat) => ((i : Int), o)) (CD (CQ n) t) id (fun o i => o = (t.un.2.2.2.take i).map th)
      (fun o i hi ho => by
        have hm := List.getElem_mem hi
        have hx := O8 n t.un.2.2.2[i] (by have := Qc hm; omega) (Nat.le_trans (Vx hm) hc)
        refine ⟨o ++ [th t.un.2.2.2[i]], ?_, by rw [ho, List.take_succ_eq_append_getElem hi, List.map_append]; rfl⟩
        rw [CD, if_pos (by omega), C0 (List.getElem?_eq_getElem hi), Option.bind_some, hx, Option.bind_some, BS (by rw [ho]; simp; omega), Option.bind_some, BN (by omega)]; rfl)
      (fun o _ => by rw [CD, if_neg (by omega)]; rfl) [] rfl
    rw [List.take_length] at h1
    have h2' : Br (CD (CQ n) t) (0, []) = some o := h2
    rw [h2', h1, Option.bind_some, ← Tx]
theorem Ny {t : Tr25} (hc : t.cnt ≤ 2097152) : GY t = some (th t) := B9 (g := fun n => CQ n t) (fun n r h => Iv n t r h) (O8 (SizeOf.sizeOf t + 1) t (by omega) hc)
theorem UG {a b : Tr34} (h1 : a.un.1 = b.un.1) (h2 : a.un.2.1 = b.un.2.1) (h3 : a.un.2.2.1 = b.un.2.2.1) (h4 : a.un.2.2.2 = b.un.2.2.2) : a = b := by
  rw [← T8 a, ← T8 b]
  show Tr34.mk _ _ _ _ = Tr34.mk _ _ _ _
  rw [h1, h2, h3, h4]
theorem Q1 {α : Type} {l m : List α} (hl : l.length = m.length) : (∃ k, k < l.length ∧ l[k]? ≠ m[k]?) ↔ l ≠ m := by
  constructor
  · rintro ⟨k, _, h⟩ rfl; exact h rfl
  · intro h
    refine Classical.byContradiction fun hn => h (List.ext_getElem? fun k => ?_)
    by_cases hk : k < l.length
    · exact Classical.byContradiction fun h2 => hn ⟨k, hk, h2⟩
    · rw [List.getElem?_eq_none (by omega), List.getElem?_eq_none (by omega)]
open Classical in
theorem QB : ∀ (n : Nat) (a b : Tr34), SizeOf.sizeOf a < n → a.cnt ≤ 2097152 → DX n a b = some (decide (a = b))
  | 0, a, b, h, _ => absurd h (Nat.not_lt_zero _)
  | n + 1, a, b, h, hc => by
    have hl := Ur a
    show Ef (DX n) a b = _
    unfold Ef
    by_cases c : a.un.1 = b.un.1 ∧ a.un.2.1 = b.un.2.1 ∧ a.un.2.2.1 = b.un.2.2.1 ∧ a.un.2.2.2.length = b.un.2.2.2.length
    · obtain ⟨c1, c2, c3, c4⟩ := c
      rw [if_neg (by simp [c1, c2, c3, c4])]
      rw [J5 a.un.2.2.2.length (Ej (DX n) a b) (fun k => a.un.2.2.2[k]? ≠ b.un.2.2.2[k]?) false (fun k hk => by
        have hm := List.getElem_mem hk
        have hkb : k < b.un.2.2.2.length := by omega
        have hx := QB n a.un.2.2.2[k] b.un.2.2.2[k] (by have := Pe hm; omega) (Nat.le_trans (Tn hm) hc)
        rw [Ej, if_pos (by omega), C0 (List.getElem?_eq_getElem hk), Option.bind_some, C0 (List.getElem?_eq_getElem hkb), Option.bind_some, hx, Option.bind_some, BN (by omega)]
        by_cases e : a.un.2.2.2[k] = b.un.2.2.2[k]
        · rw [decide_eq_true e, if_neg (by decide), if_neg (by rw [List.getElem?_eq_getElem hk, List.getElem?_eq_getElem hkb, e]; simp)]; rfl
        · rw [decide_eq_false e, if_pos (by decide), if_pos (by rw [List.getElem?_eq_getElem hk, List.getElem?_eq_getElem hkb]; simpa using e)]) (by rw [Ej, if_neg (by omega)])]
      by_cases e : a.un.2.2.2 = b.un.2.2.2
      · rw [if_neg (fun hh => (Q1 c4).1 hh e), decide_eq_true (UG c1 c2 c3 e)]; rfl
      · rw [if_pos ((Q1 c4).2 e), decide_eq_false (fun hh => e (by rw [hh]))]; rfl
    · rw [if_pos (by simp only [Bool.or_eq_true, decide_eq_true_eq]; omega), decide_eq_false (fun hh => c (by rw [hh]; exact ⟨rfl, rfl, rfl, rfl⟩))]
open Classical in
theorem L7 {a b : Tr34} (hc : a.cnt ≤ 2097152) : Ha a b = some (decide (a = b)) := B9 (g := fun n => DX n a b) (fun n r h => JJ n a b r h) (QB (SizeOf.sizeOf a + 1) a b (by omega) hc)
theorem PM (t : Tr34) : Tr34.of (t.un.1, t.un.2.1, t.un.2.2.1, t.un.2.2.2) = t := by cases t; rfl
theorem NE (t : Tr25) : Tr25.of (t.un.1, t.un.2.1, t.un.2.2.1, t.un.2.2.2) = t := by cases t; rfl
theorem RD (t : Tr37) : Tr37.of (t.un.1, t.un.2.1, t.un.2.2.1, t.un.2.2.2.1, t.un.2.2.2.2) = t := by cases t; rfl
theorem Pm (t : Tr28) : Tr28.of (t.un.1, t.un.2.1, t.un.2.2.1, t.un.2.2.2.1, t.un.2.2.2.2) = t := by cases t; rfl
theorem S2 {t x : Tr37} (h : x ∈ t.un.2.2.2.2) : SizeOf.sizeOf x < SizeOf.sizeOf t := by
  cases t with
  | mk k p f v l =>
    have h' : x ∈ l := h
    have := List.sizeOf_lt_of_mem h'
    simp only [Tr37.mk.sizeOf_spec]; omega
theorem To {t x : Tr28} (h : x ∈ t.un.2.2.2.2) : SizeOf.sizeOf x < SizeOf.sizeOf t := by
  cases t with
  | mk k p f v l =>
    have h' : x ∈ l := h
    have := List.sizeOf_lt_of_mem h'
    simp only [Tr28.mk.sizeOf_spec]; omega
theorem RW (t : Tr37) : t.cnt = 1 + (t.un.2.1.cnt + (t.un.2.2.2.2.map Tr37.cnt).sum) := by cases t; rw [Tr37.cnt]; rfl
theorem Qg (t : Tr28) : t.cnt = 1 + (t.un.2.1.cnt + (t.un.2.2.2.2.map Tr28.cnt).sum) := by cases t; rw [Tr28.cnt]; rfl
theorem cD {t x : Tr37} (h : x ∈ t.un.2.2.2.2) : x.cnt ≤ t.cnt := by rw [RW t]; have := Iq (g := Tr37.cnt) h; omega
theorem cP {t x : Tr28} (h : x ∈ t.un.2.2.2.2) : x.cnt ≤ t.cnt := by rw [Qg t]; have := Iq (g := Tr28.cnt) h; omega
theorem qD (t : Tr37) : t.un.2.1.cnt + 1 ≤ t.cnt := by rw [RW t]; omega
theorem qP (t : Tr28) : t.un.2.1.cnt + 1 ≤ t.cnt := by rw [Qg t]; omega
theorem lD (t : Tr37) : t.un.2.2.2.2.length + 1 ≤ t.cnt := by rw [RW t]; have := Jj (g := Tr37.cnt) (fun x => by rw [RW x]; omega) t.un.2.2.2.2; omega
theorem lP (t : Tr28) : t.un.2.2.2.2.length + 1 ≤ t.cnt := by rw [Qg t]; have := Jj (g := Tr28.cnt) (fun x => by rw [Qg x]; omega) t.un.2.2.2.2; omega
def pt : Tr28 → Tr37
  | .mk k p f v l => .mk k (th p) f v (l.map pt)
theorem Tp (t : Tr28) : pt t = Tr37.of (t.un.1, th t.un.2.1, t.un.2.2.1, t.un.2.2.2.1, t.un.2.2.2.2.map pt) := by cases t; rw [pt]; rfl
theorem loop_copy' {α β : Type} (l : List α) (hl : l.length ≤ 1000000000) (f : α → β) (step : Int × List β → Option ((Int × List β) ⊕ List β))
    (hs : ∀ (k : Nat) (hk : k < l.length) (out : List β), out.length = k → step ((k : Int), out) = (DQ out [f l[k]]).bind fun x => some (.inl (DP ((k : Int) + 1), x)))
    (he : ∀ out, step ((l.length : Int), out) = some (.inr out)) : Br step (0, []) = some (l.map f) := by
  obtain ⟨s, h1, h2⟩ := EN l.length (fun (out : List β) (k : Nat) => ((k : Int), out)) step id (fun out k => out = (l.take k).map f)
    (fun out k hk hI => ⟨out ++ [f l[k]], by
      rw [hs k hk out (by rw [hI]; simp; omega), BS (by rw [hI]; simp; omega), Option.bind_some, BN (by omega)]; rfl, by
      show out ++ [f l[k]] = (l.take (k + 1)).map f
      rw [hI, List.take_succ_eq_append_getElem hk, List.map_append]; rfl⟩) (fun out _ => he out) [] (by simp)
  have h3 : Br step (0, []) = some (id s) := h2
  rw [h3, h1, List.take_length]; rfl
theorem NP : ∀ (n : Nat) (t : Tr28), SizeOf.sizeOf t < n → t.cnt ≤ 1048576 → CY n t = some (pt t)
  | 0, t, h, _ => absurd h (Nat.not_lt_zero _)
  | n + 1, t, h, hc => by
    have hl := lP t
    have hq := qP t
    show Do (CY n) t = _
    unfold Do
    rw [NE, Ny (by omega), Option.bind_some, loop_copy' t.un.2.2.2.2 (by omega) pt (CI (CY n) t) (fun k hk out ho => by
      have hm := List.getElem_mem hk
      rw [CI, if_pos (by omega), C0 (List.getElem?_eq_getElem hk), Option.bind_some, NE, Pm, NP n _ (by have := To hm; omega) (Nat.le_trans (cP hm) hc), Option.bind_some, PM, RD]) (fun out => by rw [CI, if_neg (by omega)]), Option.bind_some, Tp]
theorem Qa {t : Tr28} (hc : t.cnt ≤ 1048576) : Ib t = some (pt t) := B9 (g := fun n => CY n t) (fun n r h => Iy n t r h) (NP (SizeOf.sizeOf t + 1) t (by omega) hc)
theorem Pu : ∀ (n : Nat) (t : Tr37), SizeOf.sizeOf t < n → t.cnt ≤ 1048576 → DT n t t = some true
  | 0, t, h, _ => absurd h (Nat.not_lt_zero _)
  | n + 1, t, h, hc => by
    have hl := lD t
    have hq := qD t
    show Ei (DT n) t t = _
    unfold Ei
    rw [if_neg (fun h => h rfl), if_neg (fun h => h rfl), if_neg (fun h => h rfl), PM, L7 (by omega), Option.bind_some, if_neg (by rw [@decide_eq_true _ (_) rfl]; decide), Option.bind_some, if_neg (by simp), Ns t.un.2.2.2.2 (by omega) (El (DT n) t t) (fun _ => False) false (fun k hk => by
      have hm := List.getElem_mem hk
      rw [El, if_pos (by omega), C0 (List.getElem?_eq_getElem hk), Option.bind_some, Option.bind_some, PM, RD, Pu n _ (by have := S2 hm; omega) (Nat.le_trans (cD hm) hc), Option.bind_some, if_neg (by decide), if_neg id]) (by rw [El, if_neg (by omega)]), if_neg (by simp)]; rfl
theorem Ud {t : Tr37} (hc : t.cnt ≤ 1048576) : KA t t = some true := B9 (g := fun n => DT n t t) (fun n r h => Ju n t t r h) (Pu (SizeOf.sizeOf t + 1) t (by omega) hc)
end Go.Proofs.YtlgjpoapclifbaaDoor
