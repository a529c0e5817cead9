/- Layer 30: trees, what is asked, for which packets a condition holds. Conditions: none. -/
import Derived.Test.YtgoifghhcekahaaGreatDoorbMS
import Derived.Test.YtgoifghhcekahaaGreatDoorbEV
namespace Go.Proofs.YtgoifghhcekahaaGreatDoor
set_option linter.unusedVariables false
set_option linter.unusedSimpArgs false
open Go Go.RowKit
abbrev PK := Int × Int × Int × Int
theorem Sz {t x : Tr28} (h : x ∈ t.un.2.2.2) : SizeOf.sizeOf x < SizeOf.sizeOf t := by
  cases t with
  | mk k f v l =>
    have h' : x ∈ l := h
    have := List.sizeOf_lt_of_mem h'
    simp only [Tr28.mk.sizeOf_spec]; omega
theorem Ra {t x : Tr36} (h : x ∈ t.un.2.2.2) : SizeOf.sizeOf x < SizeOf.sizeOf t := by
  cases t with
  | mk k f v l =>
    have h' : x ∈ l := h
    have := List.sizeOf_lt_of_mem h'
    simp only [Tr36.mk.sizeOf_spec]; omega
theorem Q7 (t : Tr28) : t.cnt = 1 + (t.un.2.2.2.map Tr28.cnt).sum := by cases t; rw [Tr28.cnt]; rfl
theorem KI (t : Tr36) : t.cnt = 1 + (t.un.2.2.2.map Tr36.cnt).sum := by cases t; rw [Tr36.cnt]; rfl
theorem Pt {α : Type} {g : α → Nat} : ∀ {l : List α} {x : α}, x ∈ l → g x ≤ (l.map g).sum
  | y :: l, x, h => by
    rw [List.map_cons, List.sum_cons]
    rcases List.mem_cons.1 h with e | h
    · rw [e]; omega
    · have := Pt (g := g) h; omega
theorem Q9 {α : Type} {g : α → Nat} (hg : ∀ x, 1 ≤ g x) : ∀ l : List α, l.length ≤ (l.map g).sum
  | [] => Nat.zero_le _
  | y :: l => by
    have := hg y
    have := Q9 hg l
    rw [List.map_cons, List.sum_cons, List.length_cons]; omega
theorem Qt {α : Type} {g : α → Nat} (l : List α) (i : Nat) : ((l.take i).map g).sum ≤ (l.map g).sum := by
  have h : (l.map g).sum = ((l.take i).map g).sum + ((l.drop i).map g).sum := by
    rw [← List.sum_append, ← List.map_append, List.take_append_drop]
  omega
theorem VC {t x : Tr28} (h : x ∈ t.un.2.2.2) : x.cnt ≤ t.cnt := by rw [Q7 t]; have := Pt (g := Tr28.cnt) h; omega
theorem V3 {t x : Tr36} (h : x ∈ t.un.2.2.2) : x.cnt ≤ t.cnt := by rw [KI t]; have := Pt (g := Tr36.cnt) h; omega
theorem VZ (t : Tr28) : t.un.2.2.2.length + 1 ≤ t.cnt := by rw [Q7 t]; have := Q9 (g := Tr28.cnt) (fun x => by rw [Q7 x]; omega) t.un.2.2.2; omega
theorem Wi (t : Tr36) : t.un.2.2.2.length + 1 ≤ t.cnt := by rw [KI t]; have := Q9 (g := Tr36.cnt) (fun x => by rw [KI x]; omega) t.un.2.2.2; omega
def mi : Tr28 → Tr36
  | .mk k f v l => .mk k f v (l.map mi)
theorem SU (t : Tr28) : (mi t).un = (t.un.1, t.un.2.1, t.un.2.2.1, t.un.2.2.2.map mi) := by cases t; rw [mi]; rfl
theorem Wd (t : Tr28) : mi t = Tr36.of (t.un.1, t.un.2.1, t.un.2.2.1, t.un.2.2.2.map mi) := by cases t; rw [mi]; rfl
theorem Uv : ∀ (n : Nat) (t : Tr28), SizeOf.sizeOf t < n → (mi t).cnt = t.cnt
  | 0, t, h => absurd h (Nat.not_lt_zero _)
  | n + 1, t, h => by
    rw [KI, Q7, SU]
    show 1 + ((t.un.2.2.2.map mi).map Tr36.cnt).sum = _
    rw [List.map_map]
    congr 2
    exact List.map_congr_left fun x hx => Uv n x (by have := Sz hx; omega)
theorem Ub : ∀ (n : Nat) (t : Tr28), SizeOf.sizeOf t < n → t.cnt ≤ 1048576 → E6 n t = some (mi t)
  | 0, t, h, _ => absurd h (Nat.not_lt_zero _)
  | n + 1, t, h, hc => by
    have hl := VZ t
    show F3 (E6 n) t = _
    unfold F3
    obtain ⟨o, h1, h2⟩ := JY t.un.2.2.2.length (fun (o : List Tr36) (i : Nat) => ((i : Int), o)) (ED (E6 n) t) id (fun o i => o = (t.un.2.2.2.take i).map mi)
      (fun o i hi ho => by
        have hm := List.getElem_mem hi
        have hx := Ub n t.un.2.2.2[i] (by have := Sz hm; omega) (Nat.le_trans (VC hm) hc)
        refine ⟨o ++ [mi t.un.2.2.2[i]], ?_, by rw [ho, List.take_succ_eq_append_getElem hi, List.map_append]; rfl⟩
        rw [ED, if_pos (by omega), Eh (List.getElem?_eq_getElem hi), Option.bind_some, hx, Option.bind_some, Ni (by rw [ho]; simp; omega), Option.bind_some, A0 (by omega)]; rfl)
      (fun o _ => by rw [ED, if_neg (by omega)]; rfl) [] rfl
    rw [List.take_length] at h1
    have h2' : A6 (ED (E6 n) t) (0, []) = some o := h2
    rw [h2', h1, Option.bind_some, ← Wd]
theorem UV {t : Tr28} (hc : t.cnt ≤ 1048576) : P8 t = some (mi t) := DJ (g := fun n => E6 n t) (fun n r h => MW n t r h) (Ub (SizeOf.sizeOf t + 1) t (by omega) hc)
theorem SP : ∀ (n : Nat) (t : Tr28), SizeOf.sizeOf t < n → t.cnt ≤ 1048576 → E7 n t = some (t.cnt : Int)
  | 0, t, h, _ => absurd h (Nat.not_lt_zero _)
  | n + 1, t, h, hc => by
    have hl := VZ t
    have hcc := Q7 t
    show FU (E7 n) t = _
    unfold FU
    obtain ⟨o, h1, h2⟩ := JY t.un.2.2.2.length (fun (o : Int) (i : Nat) => (o, (i : Int))) (Ey (E7 n) t) id (fun o i => o = 1 + (((t.un.2.2.2.take i).map Tr28.cnt).sum : Nat))
      (fun o i hi ho => by
        have hm := List.getElem_mem hi
        have hx := SP n t.un.2.2.2[i] (by have := Sz hm; omega) (Nat.le_trans (VC hm) hc)
        have hs : ((t.un.2.2.2.take (i + 1)).map Tr28.cnt).sum = ((t.un.2.2.2.take i).map Tr28.cnt).sum + t.un.2.2.2[i].cnt := by
          rw [List.take_succ_eq_append_getElem hi, List.map_append, List.sum_append]; simp
        have hle := Qt (g := Tr28.cnt) t.un.2.2.2 (i + 1)
        refine ⟨o + (t.un.2.2.2[i].cnt : Int), ?_, by rw [ho, hs]; omega⟩
        rw [Ey, if_pos (by omega), Eh (List.getElem?_eq_getElem hi), Option.bind_some, hx, Option.bind_some, A0 (by rw [ho]; omega), A0 (by omega)]; rfl)
      (fun o _ => by rw [Ey, if_neg (by omega)]; rfl) 1 (by simp)
    rw [List.take_length] at h1
    have h2' : A6 (Ey (E7 n) t) (1, 0) = some o := h2
    rw [h2', h1, Option.bind_some, hcc]
    congr 1
theorem UH {t : Tr28} (hc : t.cnt ≤ 1048576) : P5 t = some (t.cnt : Int) := DJ (g := fun n => E7 n t) (fun n r h => MK n t r h) (SP (SizeOf.sizeOf t + 1) t (by omega) hc)
def LD (f : Int) : Tr36 → List Int
  | .mk k g v l => (if k = 3 ∧ g = f then [v] else []) ++ (l.map (LD f)).flatten
theorem Ph (f : Int) (t : Tr36) : LD f t = (if t.un.1 = 3 ∧ t.un.2.1 = f then [t.un.2.2.1] else []) ++ (t.un.2.2.2.map (LD f)).flatten := by cases t; rw [LD]; rfl
theorem Qf {α β : Type} {g : α → List β} {c : α → Nat} : ∀ (l : List α), (∀ x ∈ l, (g x).length ≤ c x) → (l.map g).flatten.length ≤ (l.map c).sum
  | [], _ => Nat.le_refl _
  | x :: l, h => by
    have h1 := h x (List.mem_cons_self ..)
    have h2 := Qf (g := g) (c := c) l fun y hy => h y (List.mem_cons_of_mem _ hy)
    rw [List.map_cons, List.flatten_cons, List.length_append, List.map_cons, List.sum_cons]; omega
theorem Nx (f : Int) : ∀ (n : Nat) (t : Tr36), SizeOf.sizeOf t < n → (LD f t).length ≤ t.cnt
  | 0, t, h => absurd h (Nat.not_lt_zero _)
  | n + 1, t, h => by
    rw [Ph, KI, List.length_append]
    have h2 := Qf (g := LD f) (c := Tr36.cnt) t.un.2.2.2 fun x hx => Nx f n x (by have := Ra hx; omega)
    have h3 : (if t.un.1 = 3 ∧ t.un.2.1 = f then [t.un.2.2.1] else ([] : List Int)).length ≤ 1 := by split <;> simp
    omega
theorem PC (f : Int) : ∀ (n : Nat) (t : Tr36), SizeOf.sizeOf t < n → t.cnt ≤ 1048576 → CC n t f = some (LD f t)
  | 0, t, h, _ => absurd h (Nat.not_lt_zero _)
  | n + 1, t, h, hc => by
    have hl := Wi t
    have hcc := KI t
    show C5 (CC n) t f = _
    unfold C5
    have e1 : ((if (decide (t.un.1 = 3) && decide (t.un.2.1 = f)) = true then (Ig ([] : List Int) ([t.un.2.2.1] : List Int)).bind fun x2 => some x2 else some ([])) : Option (List Int)) = some (if t.un.1 = 3 ∧ t.un.2.1 = f then [t.un.2.2.1] else []) := by
      by_cases c : t.un.1 = 3 ∧ t.un.2.1 = f
      · rw [if_pos (by simp [c.1, c.2]), if_pos c, Ni (by simp)]; rfl
      · rw [if_neg (by simpa using c), if_neg c]
    have h3 : (if t.un.1 = 3 ∧ t.un.2.1 = f then [t.un.2.2.1] else ([] : List Int)).length ≤ 1 := by split <;> simp
    rw [e1, Option.bind_some]
    obtain ⟨o, h1, h2⟩ := JY t.un.2.2.2.length (fun (o : List Int) (i : Nat) => (o, (i : Int))) (Cs (CC n) t f) id (fun o i => o = (if t.un.1 = 3 ∧ t.un.2.1 = f then [t.un.2.2.1] else []) ++ ((t.un.2.2.2.take i).map (LD f)).flatten)
      (fun o i hi ho => by
        have hm := List.getElem_mem hi
        have hx := PC f n t.un.2.2.2[i] (by have := Ra hm; omega) (Nat.le_trans (V3 hm) hc)
        have hle := Qt (g := Tr36.cnt) t.un.2.2.2 i
        have hfl := Qf (g := LD f) (c := Tr36.cnt) (t.un.2.2.2.take i) fun x _ => Nx f (SizeOf.sizeOf x + 1) x (by omega)
        have hxl := Nx f (SizeOf.sizeOf t.un.2.2.2[i] + 1) t.un.2.2.2[i] (by omega)
        have hxc := V3 hm
        refine ⟨o ++ LD f t.un.2.2.2[i], ?_, by rw [ho, List.take_succ_eq_append_getElem hi, List.map_append, List.flatten_append, List.append_assoc]; simp⟩
        rw [Cs, if_pos (by omega), Eh (List.getElem?_eq_getElem hi), Option.bind_some, hx, Option.bind_some, Ni (by rw [ho, List.length_append]; omega), Option.bind_some, A0 (by omega)]; rfl)
      (fun o _ => by rw [Cs, if_neg (by omega)]; rfl) (if t.un.1 = 3 ∧ t.un.2.1 = f then [t.un.2.2.1] else []) (by simp)
    rw [List.take_length] at h1
    have h2' : A6 (Cs (CC n) t f) (if t.un.1 = 3 ∧ t.un.2.1 = f then [t.un.2.2.1] else [], 0) = some o := h2
    rw [h2', h1, Option.bind_some, Ph]
theorem So {t : Tr36} (hc : t.cnt ≤ 1048576) (f : Int) : I2 t f = some (LD f t) := DJ (g := fun n => CC n t f) (fun n r h => HH n t f r h) (PC f (SizeOf.sizeOf t + 1) t (by omega) hc)
theorem Q1 : ∀ (R S : List Int), R.Nodup → (∀ x ∈ R, x ∈ S) → R.length ≤ S.length
  | [], _, _, _ => Nat.zero_le _
  | x :: R, S, h, hs => by
    obtain ⟨h1, h2⟩ := List.nodup_cons.1 h
    have hx := hs x (List.mem_cons_self ..)
    have ih := Q1 R (S.erase x) h2 fun y hy => (List.mem_erase_of_ne (fun e => h1 (by rw [← e]; exact hy))).2 (hs y (List.mem_cons_of_mem _ hy))
    rw [List.length_erase_of_mem hx] at ih
    have := List.length_pos_of_mem hx
    rw [List.length_cons]; omega
theorem Tj {t : Tr36} (hc : t.cnt ≤ 1000) (f : Int) : ∃ V, FZ t f = some V ∧ V.Pairwise (· < ·) ∧ V.length ≤ 1000 ∧ ∀ v, v ∈ V ↔ v ∈ LD f t := by
  have hlen := Nx f (SizeOf.sizeOf t + 1) t (by omega)
  obtain ⟨S, s1, s2, s3⟩ := UO (L := LD f t) (by omega)
  obtain ⟨R, r1, r2, r3⟩ := SA (L := S) (by rw [s2.length_eq]; omega) s3
  have hRl : R.length ≤ S.length := by
    have hnd : R.Nodup := r2.imp fun h => by omega
    exact Q1 R S hnd fun x hx => (r3 x).1 hx
  refine ⟨R, ?_, r2, by rw [s2.length_eq] at hRl; omega, fun v => (r3 v).trans s2.mem_iff⟩
  unfold FZ
  rw [So (by omega), Option.bind_some, s1, Option.bind_some, r1]; rfl
def gt (a : Int × Int × PK) (f : Int) : Int := if f = 0 then a.2.2.1 else if f = 1 then a.2.2.2.1 else if f = 2 then a.2.2.2.2.1 else if f = 3 then a.2.2.2.2.2 else if f = 4 then a.2.1 else if f = 5 then a.1 else -1
theorem WP {p : PK} {f : Int} (h : 0 ≤ f ∧ f < 4) (s q : Int) : ix [p.1, p.2.1, p.2.2.1, p.2.2.2] f = some (gt (s, q, p) f) := by
  have : f = 0 ∨ f = 1 ∨ f = 2 ∨ f = 3 := by omega
  rcases this with rfl | rfl | rfl | rfl <;> rfl
theorem Vs (f s q : Int) (p : PK) : LX f s q p = some (gt (s, q, p) f) := by
  unfold LX
  by_cases c4 : f = 4
  · subst c4; rfl
  · rw [if_neg c4]
    by_cases c5 : f = 5
    · subst c5; rfl
    · rw [if_neg c5]
      by_cases c : 0 ≤ f ∧ f ≤ 5
      · have h4 : 0 ≤ f ∧ f < 4 := by omega
        rw [if_pos (by unfold DH; simp; exact c)]
        unfold Li
        rw [if_neg (by unfold Il; simp; omega), WP h4 s q]; rfl
      · rw [if_neg (by unfold DH; simp; omega)]
        unfold gt
        rw [if_neg (by omega), if_neg (by omega), if_neg (by omega), if_neg (by omega), if_neg (by omega), if_neg (by omega)]
def Rx (a : Int × Int × PK) (k f v : Int) (bs : List Bool) : Bool :=
  if k = 1 then true else if k = 3 then decide ((0 ≤ f ∧ f ≤ 5) ∧ gt a f = v) else if k = 4 then (match bs with | [] => false | b :: _ => !b) else if k = 5 then bs.all id else if k = 6 then bs.any id else false
def NF (a : Int × Int × PK) : Tr36 → Bool
  | .mk k f v l => Rx a k f v (l.map (NF a))
theorem M5 (a : Int × Int × PK) (t : Tr36) : NF a t = Rx a t.un.1 t.un.2.1 t.un.2.2.1 (t.un.2.2.2.map (NF a)) := by cases t; rw [NF]; rfl
theorem RK {α : Type} (l : List α) (q : α → Bool) (step : Int → Option (Int ⊕ (Unit ⊕ Int)))
    (hs : ∀ k (hk : k < l.length), step (k : Int) = if q l[k] = true then some (.inr (.inr (k : Int))) else some (.inl ((k + 1 : Nat) : Int)))
    (he : step (l.length : Int) = some (.inr (.inl ()))) : ∃ i : Int, Je (A6 step 0) (fun _ => some (-1)) = some i ∧ decide (0 ≤ i) = l.any q := by
  have key : ∀ (d k : Nat), k + d = l.length → (∀ x ∈ l.take k, q x = false) → ∃ i : Int, Je (A6 step (k : Int)) (fun _ => some (-1)) = some i ∧ decide (0 ≤ i) = l.any q := by
    intro d
    induction d with
    | zero =>
      intro k hk hn
      rw [List.take_of_length_le (by omega)] at hn
      refine ⟨-1, by rw [show (k : Int) = (l.length : Int) by omega, Bw he]; rfl, ?_⟩
      rw [decide_eq_false (by omega)]
      exact (List.any_eq_false.2 fun x hx => by rw [hn x hx]; simp).symm
    | succ d ih =>
      intro k hk hn
      have hkl : k < l.length := by omega
      have hst := hs k hkl
      by_cases c : q l[k] = true
      · rw [if_pos c] at hst
        refine ⟨(k : Int), by rw [Bw hst]; rfl, ?_⟩
        rw [decide_eq_true (by omega)]
        exact (List.any_eq_true.2 ⟨_, List.getElem_mem hkl, c⟩).symm
      · rw [if_neg c] at hst
        rw [CQ hst]
        refine ih (k + 1) (by omega) fun x hx => ?_
        rw [List.take_succ_eq_append_getElem hkl] at hx
        rcases List.mem_append.1 hx with h | h
        · exact hn x h
        · rw [List.mem_singleton.1 h]; simpa using c
  exact key l.length 0 (by omega) (by simp)
theorem TU (a : Int × Int × PK) : ∀ (n : Nat) (t : Tr36), SizeOf.sizeOf t < n → t.cnt ≤ 1048576 → BE n a t = some (NF a t)
  | 0, t, h, _ => absurd h (Nat.not_lt_zero _)
  | n + 1, t, h, hc => by
    have hl := Wi t
    have hx : ∀ x ∈ t.un.2.2.2, BE n a x = some (NF a x) := fun x hm => TU a n x (by have := Ra hm; omega) (Nat.le_trans (V3 hm) hc)
    show Cl (BE n) a t = _
    rw [M5]
    unfold Cl Rx
    by_cases c1 : t.un.1 = 1
    · rw [if_pos c1, if_pos c1]
    rw [if_neg c1, if_neg c1]
    by_cases c3 : t.un.1 = 3
    · rw [if_pos c3, if_pos c3, Vs]
      unfold DH
      rw [← Bool.decide_and]
      by_cases k : 0 ≤ t.un.2.1 ∧ t.un.2.1 ≤ 5
      · rw [if_pos (decide_eq_true k), Option.bind_some, Option.bind_some]
        exact congrArg some (decide_eq_decide.2 ⟨fun h => ⟨k, h⟩, fun h => h.2⟩)
      · rw [if_neg (by simpa using k), Option.bind_some, decide_eq_false (fun h => k h.1)]
    rw [if_neg c3, if_neg c3]
    by_cases c4 : t.un.1 = 4
    · rw [if_pos c4, if_pos c4]
      cases hll : t.un.2.2.2 with
      | nil => rfl
      | cons y l =>
        rw [if_pos (by simp only [List.length_cons]; omega), show ix (y :: l) 0 = some y from Eh (k := 0) rfl, Option.bind_some]
        unfold C0
        rw [hx y (by rw [hll]; exact List.mem_cons_self ..)]; rfl
    rw [if_neg c4, if_neg c4]
    by_cases c5 : t.un.1 = 5
    · rw [if_pos c5, if_pos c5]
      obtain ⟨i, i1, i2⟩ := RK t.un.2.2.2 (fun x => !NF a x) (Bc (BE n) t.un.2.2.2 a) (fun k hk => by
        rw [Bc, if_pos (by omega), Eh (List.getElem?_eq_getElem hk), Option.bind_some]
        unfold C0
        rw [hx _ (List.getElem_mem hk), Option.bind_some, Option.bind_some, A0 (by omega)]; rfl) (by rw [Bc, if_neg (by omega)])
      unfold Bo BA
      rw [i1, Option.bind_some, Option.bind_some, i2, List.all_map]
      congr 1
      rw [List.any_eq_not_all_not]
      simp only [Bool.not_not]
      rfl
    rw [if_neg c5, if_neg c5]
    by_cases c6 : t.un.1 = 6
    · rw [if_pos c6, if_pos c6]
      obtain ⟨i, i1, i2⟩ := RK t.un.2.2.2 (fun x => NF a x) (Bb (BE n) t.un.2.2.2 a) (fun k hk => by
        rw [Bb, if_pos (by omega), Eh (List.getElem?_eq_getElem hk), Option.bind_some, hx _ (List.getElem_mem hk), Option.bind_some, A0 (by omega)]; rfl) (by rw [Bb, if_neg (by omega)])
      unfold Bn BB
      rw [i1, Option.bind_some, Option.bind_some, i2, List.any_map]; rfl
    rw [if_neg c6, if_neg c6]
theorem S8 {t : Tr36} (hc : t.cnt ≤ 1048576) (s q : Int) (p : PK) : JJ t s q p = some (NF (s, q, p) t) := by
  unfold JJ
  rw [show F8 (s, q, p) t = some (NF (s, q, p) t) from DJ (g := fun n => BE n (s, q, p) t) (fun n r h => GE n (s, q, p) t r h) (TU _ (SizeOf.sizeOf t + 1) t (by omega) hc)]; rfl
end Go.Proofs.YtgoifghhcekahaaGreatDoor
