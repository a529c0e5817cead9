/- Layer 30: trees, what is asked. Conditions: none. -/
import Derived.Test.YtgoifghhcekahaaGreatDoordNS
import Derived.Test.YtgoifghhcekahaaGreatDoordEVB
namespace Go.Proofs.YtgoifghhcekahaaGreatDoor
set_option linter.unusedVariables false
set_option linter.unusedSimpArgs false
open Go Go.RowKit
abbrev PK := Int × Int × Int × Int
theorem Qd {t x : Tr28} (h : x ∈ t.un.2.2.2) : SizeOf.sizeOf x < SizeOf.sizeOf t := by
  cases t with
  | mk k f v l =>
    have h' : x ∈ l := h
    have := List.sizeOf_lt_of_mem h'
    simp only [Tr28.mk.sizeOf_spec]; omega
theorem NJ {t x : Tr36} (h : x ∈ t.un.2.2.2) : SizeOf.sizeOf x < SizeOf.sizeOf t := by
  cases t with
  | mk k f v l =>
    have h' : x ∈ l := h
    have := List.sizeOf_lt_of_mem h'
    simp only [Tr36.mk.sizeOf_spec]; omega
theorem P2 (t : Tr28) : t.cnt = 1 + (t.un.2.2.2.map Tr28.cnt).sum := by cases t; rw [Tr28.cnt]; rfl
theorem H3 (t : Tr36) : t.cnt = 1 + (t.un.2.2.2.map Tr36.cnt).sum := by cases t; rw [Tr36.cnt]; rfl
theorem J1 {α : Type} {g : α → Nat} : ∀ {l : List α} {x : α}, x ∈ l → g x ≤ (l.map g).sum
  | y :: l, x, h => by
    rw [List.map_cons, List.sum_cons]
    rcases List.mem_cons.1 h with e | h
    · rw [e]; omega
    · have := J1 (g := g) h; omega
theorem LG {α : Type} {g : α → Nat} (hg : ∀ x, 1 ≤ g x) : ∀ l : List α, l.length ≤ (l.map g).sum
  | [] => Nat.zero_le _
  | y :: l => by
    have := hg y
    have := LG hg l
    rw [List.map_cons, List.sum_cons, List.length_cons]; omega
theorem HX {α : Type} {g : α → Nat} (l : List α) (i : Nat) : ((l.take i).map g).sum ≤ (l.map g).sum := by
  have h : (l.map g).sum = ((l.take i).map g).sum + ((l.drop i).map g).sum := by
    rw [← List.sum_append, ← List.map_append, List.take_append_drop]
  omega
theorem WM {t x : Tr28} (h : x ∈ t.un.2.2.2) : x.cnt ≤ t.cnt := by rw [P2 t]; have := J1 (g := Tr28.cnt) h; omega
theorem Xz {t x : Tr36} (h : x ∈ t.un.2.2.2) : x.cnt ≤ t.cnt := by rw [H3 t]; have := J1 (g := Tr36.cnt) h; omega
theorem WX (t : Tr28) : t.un.2.2.2.length + 1 ≤ t.cnt := by rw [P2 t]; have := LG (g := Tr28.cnt) (fun x => by rw [P2 x]; omega) t.un.2.2.2; omega
theorem XF (t : Tr36) : t.un.2.2.2.length + 1 ≤ t.cnt := by rw [H3 t]; have := LG (g := Tr36.cnt) (fun x => by rw [H3 x]; omega) t.un.2.2.2; omega
def mi : Tr28 → Tr36
  | .mk k f v l => .mk k f v (l.map mi)
theorem PZ (t : Tr28) : (mi t).un = (t.un.1, t.un.2.1, t.un.2.2.1, t.un.2.2.2.map mi) := by cases t; rw [mi]; rfl
theorem XM (t : Tr28) : mi t = Tr36.of (t.un.1, t.un.2.1, t.un.2.2.1, t.un.2.2.2.map mi) := by cases t; rw [mi]; rfl
theorem Ut : ∀ (n : Nat) (t : Tr28), SizeOf.sizeOf t < n → (mi t).cnt = t.cnt
  | 0, t, h => absurd h (Nat.not_lt_zero _)
  | n + 1, t, h => by
    rw [H3, P2, PZ]
    show 1 + ((t.un.2.2.2.map mi).map Tr36.cnt).sum = _
    rw [List.map_map]
    congr 2
    exact List.map_congr_left fun x hx => Ut n x (by have := Qd hx; omega)
theorem UA : ∀ (n : Nat) (t : Tr28), SizeOf.sizeOf t < n → t.cnt ≤ 1048576 → En n t = some (mi t)
  | 0, t, h, _ => absurd h (Nat.not_lt_zero _)
  | n + 1, t, h, hc => by
    have hl := WX t
    show E0 (En n) t = _
    unfold E0
    obtain ⟨o, h1, h2⟩ := CV t.un.2.2.2.length (fun (o : List Tr36) (i : Nat) => ((i : Int), o)) (DH (En n) t) id (fun o i => o = (t.un.2.2.2.take i).map mi)
      (fun o i hi ho => by
        have hm := List.getElem_mem hi
        have hx := UA n t.un.2.2.2[i] (by have := Qd hm; omega) (Nat.le_trans (WM hm) hc)
        refine ⟨o ++ [mi t.un.2.2.2[i]], ?_, by rw [ho, List.take_succ_eq_append_getElem hi, List.map_append]; rfl⟩
        rw [DH, if_pos (by omega), Bl (List.getElem?_eq_getElem hi), Option.bind_some, hx, Option.bind_some, Hz (by rw [ho]; simp; omega), Option.bind_some, Ax (by omega)]; rfl)
      (fun o _ => by rw [DH, if_neg (by omega)]; rfl) [] rfl
    rw [List.take_length] at h1
    have h2' : AB (DH (En n) t) (0, []) = some o := h2
    rw [h2', h1, Option.bind_some, ← XM]
theorem Wn {t : Tr28} (hc : t.cnt ≤ 1048576) : Ox t = some (mi t) := CB (g := fun n => En n t) (fun n r h => Kw n t r h) (UA (SizeOf.sizeOf t + 1) t (by omega) hc)
theorem To : ∀ (n : Nat) (t : Tr28), SizeOf.sizeOf t < n → t.cnt ≤ 1048576 → Ej n t = some (t.cnt : Int)
  | 0, t, h, _ => absurd h (Nat.not_lt_zero _)
  | n + 1, t, h, hc => by
    have hl := WX t
    have hcc := P2 t
    show EZ (Ej n) t = _
    unfold EZ
    obtain ⟨o, h1, h2⟩ := CV t.un.2.2.2.length (fun (o : Int) (i : Nat) => (o, (i : Int))) (DO (Ej n) t) id (fun o i => o = 1 + (((t.un.2.2.2.take i).map Tr28.cnt).sum : Nat))
      (fun o i hi ho => by
        have hm := List.getElem_mem hi
        have hx := To n t.un.2.2.2[i] (by have := Qd hm; omega) (Nat.le_trans (WM hm) hc)
        have hs : ((t.un.2.2.2.take (i + 1)).map Tr28.cnt).sum = ((t.un.2.2.2.take i).map Tr28.cnt).sum + t.un.2.2.2[i].cnt := by
          rw [List.take_succ_eq_append_getElem hi, List.map_append, List.sum_append]; simp
        have hle := HX (g := Tr28.cnt) t.un.2.2.2 (i + 1)
        refine ⟨o + (t.un.2.2.2[i].cnt : Int), ?_, by rw [ho, hs]; omega⟩
        rw [DO, if_pos (by omega), Bl (List.getElem?_eq_getElem hi), Option.bind_some, hx, Option.bind_some, Ax (by rw [ho]; omega), Ax (by omega)]; rfl)
      (fun o _ => by rw [DO, if_neg (by omega)]; rfl) 1 (by simp)
    rw [List.take_length] at h1
    have h2' : AB (DO (Ej n) t) (1, 0) = some o := h2
    rw [h2', h1, Option.bind_some, hcc]
    congr 1
theorem Rj {t : Tr28} (hc : t.cnt ≤ 1048576) : Jv t = some (t.cnt : Int) := CB (g := fun n => Ej n t) (fun n r h => KA n t r h) (To (SizeOf.sizeOf t + 1) t (by omega) hc)
def EL (f : Int) : Tr36 → List Int
  | .mk k g v l => (if k = 3 ∧ g = f then [v] else []) ++ (l.map (EL f)).flatten
theorem I9 (f : Int) (t : Tr36) : EL f t = (if t.un.1 = 3 ∧ t.un.2.1 = f then [t.un.2.2.1] else []) ++ (t.un.2.2.2.map (EL f)).flatten := by cases t; rw [EL]; rfl
theorem OC {α β : Type} {g : α → List β} {c : α → Nat} : ∀ (l : List α), (∀ x ∈ l, (g x).length ≤ c x) → (l.map g).flatten.length ≤ (l.map c).sum
  | [], _ => Nat.le_refl _
  | x :: l, h => by
    have h1 := h x (List.mem_cons_self ..)
    have h2 := OC (g := g) (c := c) l fun y hy => h y (List.mem_cons_of_mem _ hy)
    rw [List.map_cons, List.flatten_cons, List.length_append, List.map_cons, List.sum_cons]; omega
theorem Lm (f : Int) : ∀ (n : Nat) (t : Tr36), SizeOf.sizeOf t < n → (EL f t).length ≤ t.cnt
  | 0, t, h => absurd h (Nat.not_lt_zero _)
  | n + 1, t, h => by
    rw [I9, H3, List.length_append]
    have h2 := OC (g := EL f) (c := Tr36.cnt) t.un.2.2.2 fun x hx => Lm f n x (by have := NJ hx; omega)
    have h3 : (if t.un.1 = 3 ∧ t.un.2.1 = f then [t.un.2.2.1] else ([] : List Int)).length ≤ 1 := by split <;> simp
    omega
theorem NH (f : Int) : ∀ (n : Nat) (t : Tr36), SizeOf.sizeOf t < n → t.cnt ≤ 1048576 → CI n t f = some (EL f t)
  | 0, t, h, _ => absurd h (Nat.not_lt_zero _)
  | n + 1, t, h, hc => by
    have hl := XF t
    have hcc := H3 t
    show Dk (CI n) t f = _
    unfold Dk
    have e1 : ((if (decide (t.un.1 = 3) && decide (t.un.2.1 = f)) = true then (GP ([] : List Int) ([t.un.2.2.1] : List Int)).bind fun x2 => some x2 else some ([])) : Option (List Int)) = some (if t.un.1 = 3 ∧ t.un.2.1 = f then [t.un.2.2.1] else []) := by
      by_cases c : t.un.1 = 3 ∧ t.un.2.1 = f
      · rw [if_pos (by simp [c.1, c.2]), if_pos c, Hz (by simp)]; rfl
      · rw [if_neg (by simpa using c), if_neg c]
    have h3 : (if t.un.1 = 3 ∧ t.un.2.1 = f then [t.un.2.2.1] else ([] : List Int)).length ≤ 1 := by split <;> simp
    rw [e1, Option.bind_some]
    obtain ⟨o, h1, h2⟩ := CV t.un.2.2.2.length (fun (o : List Int) (i : Nat) => (o, (i : Int))) (Cz (CI n) t f) id (fun o i => o = (if t.un.1 = 3 ∧ t.un.2.1 = f then [t.un.2.2.1] else []) ++ ((t.un.2.2.2.take i).map (EL f)).flatten)
      (fun o i hi ho => by
        have hm := List.getElem_mem hi
        have hx := NH f n t.un.2.2.2[i] (by have := NJ hm; omega) (Nat.le_trans (Xz hm) hc)
        have hle := HX (g := Tr36.cnt) t.un.2.2.2 i
        have hfl := OC (g := EL f) (c := Tr36.cnt) (t.un.2.2.2.take i) fun x _ => Lm f (SizeOf.sizeOf x + 1) x (by omega)
        have hxl := Lm f (SizeOf.sizeOf t.un.2.2.2[i] + 1) t.un.2.2.2[i] (by omega)
        have hxc := Xz hm
        refine ⟨o ++ EL f t.un.2.2.2[i], ?_, by rw [ho, List.take_succ_eq_append_getElem hi, List.map_append, List.flatten_append, List.append_assoc]; simp⟩
        rw [Cz, if_pos (by omega), Bl (List.getElem?_eq_getElem hi), Option.bind_some, hx, Option.bind_some, Hz (by rw [ho, List.length_append]; omega), Option.bind_some, Ax (by omega)]; rfl)
      (fun o _ => by rw [Cz, if_neg (by omega)]; rfl) (if t.un.1 = 3 ∧ t.un.2.1 = f then [t.un.2.2.1] else []) (by simp)
    rw [List.take_length] at h1
    have h2' : AB (Cz (CI n) t f) (if t.un.1 = 3 ∧ t.un.2.1 = f then [t.un.2.2.1] else [], 0) = some o := h2
    rw [h2', h1, Option.bind_some, I9]
theorem RQ {t : Tr36} (hc : t.cnt ≤ 1048576) (f : Int) : Iy t f = some (EL f t) := CB (g := fun n => CI n t f) (fun n r h => HV n t f r h) (NH f (SizeOf.sizeOf t + 1) t (by omega) hc)
theorem PN : ∀ (R S : List Int), R.Nodup → (∀ x ∈ R, x ∈ S) → R.length ≤ S.length
  | [], _, _, _ => Nat.zero_le _
  | x :: R, S, h, hs => by
    obtain ⟨h1, h2⟩ := List.nodup_cons.1 h
    have hx := hs x (List.mem_cons_self ..)
    have ih := PN R (S.erase x) h2 fun y hy => (List.mem_erase_of_ne (fun e => h1 (by rw [← e]; exact hy))).2 (hs y (List.mem_cons_of_mem _ hy))
    rw [List.length_erase_of_mem hx] at ih
    have := List.length_pos_of_mem hx
    rw [List.length_cons]; omega
def gt (a : Int × Int × PK) (f : Int) : Int := if f = 0 then a.2.2.1 else if f = 1 then a.2.2.2.1 else if f = 2 then a.2.2.2.2.1 else if f = 3 then a.2.2.2.2.2 else if f = 4 then a.2.1 else if f = 5 then a.1 else -1
def Rf (a : Int × Int × PK) (k f v : Int) (bs : List Bool) : Bool :=
  if k = 1 then true else if k = 3 then decide ((0 ≤ f ∧ f ≤ 5) ∧ gt a f = v) else if k = 4 then (match bs with | [] => false | b :: _ => !b) else if k = 5 then bs.all id else if k = 6 then bs.any id else false
def N1 (a : Int × Int × PK) : Tr36 → Bool
  | .mk k f v l => Rf a k f v (l.map (N1 a))
theorem Mb (a : Int × Int × PK) (t : Tr36) : N1 a t = Rf a t.un.1 t.un.2.1 t.un.2.2.1 (t.un.2.2.2.map (N1 a)) := by cases t; rw [N1]; rfl
theorem LI {α : Type} (l : List α) (q : α → Bool) (step : Int → Option (Int ⊕ (Unit ⊕ Int)))
    (hs : ∀ k (hk : k < l.length), step (k : Int) = if q l[k] = true then some (.inr (.inr (k : Int))) else some (.inl ((k + 1 : Nat) : Int)))
    (he : step (l.length : Int) = some (.inr (.inl ()))) : ∃ i : Int, HA (AB step 0) (fun _ => some (-1)) = some i ∧ decide (0 ≤ i) = l.any q := by
  have key : ∀ (d k : Nat), k + d = l.length → (∀ x ∈ l.take k, q x = false) → ∃ i : Int, HA (AB step (k : Int)) (fun _ => some (-1)) = some i ∧ decide (0 ≤ i) = l.any q := by
    intro d
    induction d with
    | zero =>
      intro k hk hn
      rw [List.take_of_length_le (by omega)] at hn
      refine ⟨-1, by rw [show (k : Int) = (l.length : Int) by omega, AV he]; rfl, ?_⟩
      rw [decide_eq_false (by omega)]
      exact (List.any_eq_false.2 fun x hx => by rw [hn x hx]; simp).symm
    | succ d ih =>
      intro k hk hn
      have hkl : k < l.length := by omega
      have hst := hs k hkl
      by_cases c : q l[k] = true
      · rw [if_pos c] at hst
        refine ⟨(k : Int), by rw [AV hst]; rfl, ?_⟩
        rw [decide_eq_true (by omega)]
        exact (List.any_eq_true.2 ⟨_, List.getElem_mem hkl, c⟩).symm
      · rw [if_neg c] at hst
        rw [BU hst]
        refine ih (k + 1) (by omega) fun x hx => ?_
        rw [List.take_succ_eq_append_getElem hkl] at hx
        rcases List.mem_append.1 hx with h | h
        · exact hn x h
        · rw [List.mem_singleton.1 h]; simpa using c
  exact key l.length 0 (by omega) (by simp)
end Go.Proofs.YtgoifghhcekahaaGreatDoor
