/- Layer 29: trees. Conditions: none. -/
import Derived.Test.YtlgjpoapclifbaaDoorbLP
import Derived.Test.YtlgjpoapclifbaaDoorbA13
import Derived.Test.YtlgjpoapclifbaaDoorbEV
namespace Go.Proofs.YtlgjpoapclifbaaDoor
set_option linter.unusedVariables false
set_option linter.unusedSimpArgs false
open Go Go.RowKit
theorem ST {t x : Tr34} (h : x ∈ t.un.2.2.2) : SizeOf.sizeOf x < SizeOf.sizeOf t := by
  cases t with
  | mk k f v l =>
    have h' : x ∈ l := h
    have := List.sizeOf_lt_of_mem h'
    simp only [Tr34.mk.sizeOf_spec]; omega
theorem Sj {t x : Tr25} (h : x ∈ t.un.2.2.2) : SizeOf.sizeOf x < SizeOf.sizeOf t := by
  cases t with
  | mk k f v l =>
    have h' : x ∈ l := h
    have := List.sizeOf_lt_of_mem h'
    simp only [Tr25.mk.sizeOf_spec]; omega
theorem O4 (t : Tr34) : t.cnt = 1 + (t.un.2.2.2.map Tr34.cnt).sum := by cases t; rw [Tr34.cnt]; rfl
theorem Nt (t : Tr25) : t.cnt = 1 + (t.un.2.2.2.map Tr25.cnt).sum := by cases t; rw [Tr25.cnt]; rfl
theorem KX {α : Type} {g : α → Nat} : ∀ {l : List α} {x : α}, x ∈ l → g x ≤ (l.map g).sum
  | y :: l, x, h => by
    rw [List.map_cons, List.sum_cons]
    rcases List.mem_cons.1 h with e | h
    · rw [e]; omega
    · have := KX (g := g) h; omega
theorem JM {α : Type} {g : α → Nat} (hg : ∀ x, 1 ≤ g x) : ∀ l : List α, l.length ≤ (l.map g).sum
  | [] => Nat.zero_le _
  | y :: l => by
    have := hg y
    have := JM hg l
    rw [List.map_cons, List.sum_cons, List.length_cons]; omega
theorem TK {t x : Tr34} (h : x ∈ t.un.2.2.2) : x.cnt ≤ t.cnt := by rw [O4 t]; have := KX (g := Tr34.cnt) h; omega
theorem TD {t x : Tr25} (h : x ∈ t.un.2.2.2) : x.cnt ≤ t.cnt := by rw [Nt t]; have := KX (g := Tr25.cnt) h; omega
theorem TJ (t : Tr34) : t.un.2.2.2.length + 1 ≤ t.cnt := by rw [O4 t]; have := JM (g := Tr34.cnt) (fun x => by rw [O4 x]; omega) t.un.2.2.2; omega
theorem TL (t : Tr25) : t.un.2.2.2.length + 1 ≤ t.cnt := by rw [Nt t]; have := JM (g := Tr25.cnt) (fun x => by rw [Nt x]; omega) t.un.2.2.2; omega
def th : Tr25 → Tr34
  | .mk k f v l => .mk k f v (l.map th)
theorem R7 (t : Tr25) : (th t).un = (t.un.1, t.un.2.1, t.un.2.2.1, t.un.2.2.2.map th) := by cases t; rw [th]; rfl
theorem Rr (t : Tr25) : th t = Tr34.of (t.un.1, t.un.2.1, t.un.2.2.1, t.un.2.2.2.map th) := by cases t; rw [th]; rfl
theorem PZ (t : Tr34) : Tr34.of t.un = t := by cases t; rfl
theorem Nq : ∀ (n : Nat) (t : Tr25), SizeOf.sizeOf t < n → t.cnt ≤ 2097152 → Cz n t = some (th t)
  | 0, t, h, _ => absurd h (Nat.not_lt_zero _)
  | n + 1, t, h, hc => by
    have hl := TL t
    show C2 (Cz n) t = _
    unfold C2
    obtain ⟨o, h1, h2⟩ := Lo t.un.2.2.2.length (fun (o : List Tr34) (i : Nat) => ((i : Int), o)) (Cm (Cz n) t) id (fun o i => o = (t.un.2.2.2.take i).map th)
      (fun o i hi ho => by
        have hm := List.getElem_mem hi
        have hx := Nq n t.un.2.2.2[i] (by have := Sj hm; omega) (Nat.le_trans (TD hm) hc)
        refine ⟨o ++ [th t.un.2.2.2[i]], ?_, by rw [ho, List.take_succ_eq_append_getElem hi, List.map_append]; rfl⟩
        rw [Cm, if_pos (by omega), CQ (List.getElem?_eq_getElem hi), Option.bind_some, hx, Option.bind_some, Gj (by rw [ho]; simp; omega), Option.bind_some, BU (by omega)]; rfl)
      (fun o _ => by rw [Cm, if_neg (by omega)]; rfl) [] rfl
    rw [List.take_length] at h1
    have h2' : Bx (Cm (Cz n) t) (0, []) = some o := h2
    rw [h2', h1, Option.bind_some, ← Rr]
theorem Mr {t : Tr25} (hc : t.cnt ≤ 2097152) : HK t = some (th t) := Dd (g := fun n => Cz n t) (fun n r h => H0 n t r h) (Nq (SizeOf.sizeOf t + 1) t (by omega) hc)
theorem Sh {a b : Tr34} (h1 : a.un.1 = b.un.1) (h2 : a.un.2.1 = b.un.2.1) (h3 : a.un.2.2.1 = b.un.2.2.1) (h4 : a.un.2.2.2 = b.un.2.2.2) : a = b := by
  rw [← PZ a, ← PZ b]
  show Tr34.mk _ _ _ _ = Tr34.mk _ _ _ _
  rw [h1, h2, h3, h4]
theorem OI {α : Type} {l m : List α} (hl : l.length = m.length) : (∃ k, k < l.length ∧ l[k]? ≠ m[k]?) ↔ l ≠ m := by
  constructor
  · rintro ⟨k, _, h⟩ rfl; exact h rfl
  · intro h
    refine Classical.byContradiction fun hn => h (List.ext_getElem? fun k => ?_)
    by_cases hk : k < l.length
    · exact Classical.byContradiction fun h2 => hn ⟨k, hk, h2⟩
    · rw [List.getElem?_eq_none (by omega), List.getElem?_eq_none (by omega)]
open Classical in
theorem OB : ∀ (n : Nat) (a b : Tr34), SizeOf.sizeOf a < n → a.cnt ≤ 2097152 → Dz n a b = some (decide (a = b))
  | 0, a, b, h, _ => absurd h (Nat.not_lt_zero _)
  | n + 1, a, b, h, hc => by
    have hl := TJ a
    show DT (Dz n) a b = _
    unfold DT
    by_cases c : a.un.1 = b.un.1 ∧ a.un.2.1 = b.un.2.1 ∧ a.un.2.2.1 = b.un.2.2.1 ∧ a.un.2.2.2.length = b.un.2.2.2.length
    · obtain ⟨c1, c2, c3, c4⟩ := c
      rw [if_neg (by simp [c1, c2, c3, c4])]
      rw [K9 a.un.2.2.2.length (DU (Dz n) a b) (fun k => a.un.2.2.2[k]? ≠ b.un.2.2.2[k]?) false (fun k hk => by
        have hm := List.getElem_mem hk
        have hkb : k < b.un.2.2.2.length := by omega
        have hx := OB n a.un.2.2.2[k] b.un.2.2.2[k] (by have := ST hm; omega) (Nat.le_trans (TK hm) hc)
        rw [DU, if_pos (by omega), CQ (List.getElem?_eq_getElem hk), Option.bind_some, CQ (List.getElem?_eq_getElem hkb), Option.bind_some, hx, Option.bind_some, BU (by omega)]
        by_cases e : a.un.2.2.2[k] = b.un.2.2.2[k]
        · rw [decide_eq_true e, if_neg (by decide), if_neg (by rw [List.getElem?_eq_getElem hk, List.getElem?_eq_getElem hkb, e]; simp)]; rfl
        · rw [decide_eq_false e, if_pos (by decide), if_pos (by rw [List.getElem?_eq_getElem hk, List.getElem?_eq_getElem hkb]; simpa using e)]) (by rw [DU, if_neg (by omega)])]
      by_cases e : a.un.2.2.2 = b.un.2.2.2
      · rw [if_neg (fun hh => (OI c4).1 hh e), decide_eq_true (Sh c1 c2 c3 e)]; rfl
      · rw [if_pos ((OI c4).2 e), decide_eq_false (fun hh => e (by rw [hh]))]; rfl
    · rw [if_pos (by simp only [Bool.or_eq_true, decide_eq_true_eq]; omega), decide_eq_false (fun hh => c (by rw [hh]; exact ⟨rfl, rfl, rfl, rfl⟩))]
open Classical in
theorem NI {a b : Tr34} (hc : a.cnt ≤ 2097152) : Jv a b = some (decide (a = b)) := Dd (g := fun n => Dz n a b) (fun n r h => Jh n a b r h) (OB (SizeOf.sizeOf a + 1) a b (by omega) hc)
theorem PM (t : Tr34) : Tr34.of (t.un.1, t.un.2.1, t.un.2.2.1, t.un.2.2.2) = t := by cases t; rfl
theorem Pl (t : Tr25) : Tr25.of (t.un.1, t.un.2.1, t.un.2.2.1, t.un.2.2.2) = t := by cases t; rfl
theorem Qv (t : Tr37) : Tr37.of (t.un.1, t.un.2.1, t.un.2.2.1, t.un.2.2.2.1, t.un.2.2.2.2) = t := by cases t; rfl
theorem Qk (t : Tr28) : Tr28.of (t.un.1, t.un.2.1, t.un.2.2.1, t.un.2.2.2.1, t.un.2.2.2.2) = t := by cases t; rfl
theorem TF {t x : Tr37} (h : x ∈ t.un.2.2.2.2) : SizeOf.sizeOf x < SizeOf.sizeOf t := by
  cases t with
  | mk k p f v l =>
    have h' : x ∈ l := h
    have := List.sizeOf_lt_of_mem h'
    simp only [Tr37.mk.sizeOf_spec]; omega
theorem S7 {t x : Tr28} (h : x ∈ t.un.2.2.2.2) : SizeOf.sizeOf x < SizeOf.sizeOf t := by
  cases t with
  | mk k p f v l =>
    have h' : x ∈ l := h
    have := List.sizeOf_lt_of_mem h'
    simp only [Tr28.mk.sizeOf_spec]; omega
theorem QD (t : Tr37) : t.cnt = 1 + (t.un.2.1.cnt + (t.un.2.2.2.2.map Tr37.cnt).sum) := by cases t; rw [Tr37.cnt]; rfl
theorem Pr (t : Tr28) : t.cnt = 1 + (t.un.2.1.cnt + (t.un.2.2.2.2.map Tr28.cnt).sum) := by cases t; rw [Tr28.cnt]; rfl
theorem cD {t x : Tr37} (h : x ∈ t.un.2.2.2.2) : x.cnt ≤ t.cnt := by rw [QD t]; have := KX (g := Tr37.cnt) h; omega
theorem cP {t x : Tr28} (h : x ∈ t.un.2.2.2.2) : x.cnt ≤ t.cnt := by rw [Pr t]; have := KX (g := Tr28.cnt) h; omega
theorem qD (t : Tr37) : t.un.2.1.cnt + 1 ≤ t.cnt := by rw [QD t]; omega
theorem qP (t : Tr28) : t.un.2.1.cnt + 1 ≤ t.cnt := by rw [Pr t]; omega
theorem lD (t : Tr37) : t.un.2.2.2.2.length + 1 ≤ t.cnt := by rw [QD t]; have := JM (g := Tr37.cnt) (fun x => by rw [QD x]; omega) t.un.2.2.2.2; omega
theorem lP (t : Tr28) : t.un.2.2.2.2.length + 1 ≤ t.cnt := by rw [Pr t]; have := JM (g := Tr28.cnt) (fun x => by rw [Pr x]; omega) t.un.2.2.2.2; omega
def pt : Tr28 → Tr37
  | .mk k p f v l => .mk k (th p) f v (l.map pt)
theorem R9 (t : Tr28) : (pt t).un = (t.un.1, th t.un.2.1, t.un.2.2.1, t.un.2.2.2.1, t.un.2.2.2.2.map pt) := by cases t; rw [pt]; rfl
theorem Rb (t : Tr28) : pt t = Tr37.of (t.un.1, th t.un.2.1, t.un.2.2.1, t.un.2.2.2.1, t.un.2.2.2.2.map pt) := by cases t; rw [pt]; rfl
theorem loop_copy' {α β : Type} (l : List α) (hl : l.length ≤ 1000000000) (f : α → β) (step : Int × List β → Option ((Int × List β) ⊕ List β))
    (hs : ∀ (k : Nat) (hk : k < l.length) (out : List β), out.length = k → step ((k : Int), out) = (Eo out [f l[k]]).bind fun x => some (.inl (Co ((k : Int) + 1), x)))
    (he : ∀ out, step ((l.length : Int), out) = some (.inr out)) : Bx step (0, []) = some (l.map f) := by
  obtain ⟨s, h1, h2⟩ := Lo l.length (fun (out : List β) (k : Nat) => ((k : Int), out)) step id (fun out k => out = (l.take k).map f)
    (fun out k hk hI => ⟨out ++ [f l[k]], by
      rw [hs k hk out (by rw [hI]; simp; omega), Gj (by rw [hI]; simp; omega), Option.bind_some, BU (by omega)]; rfl, by
      show out ++ [f l[k]] = (l.take (k + 1)).map f
      rw [hI, List.take_succ_eq_append_getElem hk, List.map_append]; rfl⟩) (fun out _ => he out) [] (by simp)
  have h3 : Bx step (0, []) = some (id s) := h2
  rw [h3, h1, List.take_length]; rfl
theorem Mo : ∀ (n : Nat) (t : Tr28), SizeOf.sizeOf t < n → t.cnt ≤ 1048576 → CL n t = some (pt t)
  | 0, t, h, _ => absurd h (Nat.not_lt_zero _)
  | n + 1, t, h, hc => by
    have hl := lP t
    have hq := qP t
    show C0 (CL n) t = _
    unfold C0
    rw [Pl, Mr (by omega), Option.bind_some, loop_copy' t.un.2.2.2.2 (by omega) pt (Ct (CL n) t) (fun k hk out ho => by
      have hm := List.getElem_mem hk
      rw [Ct, if_pos (by omega), CQ (List.getElem?_eq_getElem hk), Option.bind_some, Pl, Qk, Mo n _ (by have := S7 hm; omega) (Nat.le_trans (cP hm) hc), Option.bind_some, PM, Qv]) (fun out => by rw [Ct, if_neg (by omega)]), Option.bind_some, Rb]
theorem Od {t : Tr28} (hc : t.cnt ≤ 1048576) : Ju t = some (pt t) := Dd (g := fun n => CL n t) (fun n r h => H3 n t r h) (Mo (SizeOf.sizeOf t + 1) t (by omega) hc)
theorem Nh : ∀ (n : Nat) (t : Tr37), SizeOf.sizeOf t < n → t.cnt ≤ 1048576 → Du n t t = some true
  | 0, t, h, _ => absurd h (Nat.not_lt_zero _)
  | n + 1, t, h, hc => by
    have hl := lD t
    have hq := qD t
    show DS (Du n) t t = _
    unfold DS
    rw [if_neg (fun h => h rfl), if_neg (fun h => h rfl), if_neg (fun h => h rfl), PM, NI (by omega), Option.bind_some, if_neg (by rw [@decide_eq_true _ (_) rfl]; decide), Option.bind_some, if_neg (by simp), Pv t.un.2.2.2.2 (by omega) (DP (Du n) t t) (fun _ => False) false (fun k hk => by
      have hm := List.getElem_mem hk
      rw [DP, if_pos (by omega), CQ (List.getElem?_eq_getElem hk), Option.bind_some, Option.bind_some, PM, Qv, Nh n _ (by have := TF hm; omega) (Nat.le_trans (cD hm) hc), Option.bind_some, if_neg (by decide), if_neg id]) (by rw [DP, if_neg (by omega)]), if_neg (by simp)]; rfl
theorem RB {t : Tr37} (hc : t.cnt ≤ 1048576) : LC t t = some true := Dd (g := fun n => Du n t t) (fun n r h => I8 n t t r h) (Nh (SizeOf.sizeOf t + 1) t (by omega) hc)
end Go.Proofs.YtlgjpoapclifbaaDoor
