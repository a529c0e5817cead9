/- Layer 26: trees, what is asked, for which packets a condition holds. Conditions: none. -/
import Derived.Test.YtepfcpffbabgmaaDoorcMS
import Derived.Test.YtepfcpffbabgmaaDoorcEV
namespace Go.Proofs.YtepfcpffbabgmaaDoor
set_option linter.unusedVariables false
set_option linter.unusedSimpArgs false
open Go Go.RowKit
abbrev PK := Int × Int × Int × Int
theorem Kl {t x : Tr24} (h : x ∈ t.un.2.2.2) : SizeOf.sizeOf x < SizeOf.sizeOf t := by
  cases t with
  | mk k f v l =>
    have h' : x ∈ l := h
    have := List.sizeOf_lt_of_mem h'
    simp only [Tr24.mk.sizeOf_spec]; omega
theorem G0 {t x : Tr31} (h : x ∈ t.un.2.2.2) : SizeOf.sizeOf x < SizeOf.sizeOf t := by
  cases t with
  | mk k f v l =>
    have h' : x ∈ l := h
    have := List.sizeOf_lt_of_mem h'
    simp only [Tr31.mk.sizeOf_spec]; omega
theorem I3 (t : Tr24) : t.cnt = 1 + (t.un.2.2.2.map Tr24.cnt).sum := by cases t; rw [Tr24.cnt]; rfl
theorem GI (t : Tr31) : t.cnt = 1 + (t.un.2.2.2.map Tr31.cnt).sum := by cases t; rw [Tr31.cnt]; rfl
theorem Jm {α : Type} {g : α → Nat} : ∀ {l : List α} {x : α}, x ∈ l → g x ≤ (l.map g).sum
  | y :: l, x, h => by
    rw [List.map_cons, List.sum_cons]
    rcases List.mem_cons.1 h with e | h
    · rw [e]; omega
    · have := Jm (g := g) h; omega
theorem MV {α : Type} {g : α → Nat} (hg : ∀ x, 1 ≤ g x) : ∀ l : List α, l.length ≤ (l.map g).sum
  | [] => Nat.zero_le _
  | y :: l => by
    have := hg y
    have := MV hg l
    rw [List.map_cons, List.sum_cons, List.length_cons]; omega
theorem I6 {α : Type} {g : α → Nat} (l : List α) (i : Nat) : ((l.take i).map g).sum ≤ (l.map g).sum := by
  have h : (l.map g).sum = ((l.take i).map g).sum + ((l.drop i).map g).sum := by
    rw [← List.sum_append, ← List.map_append, List.take_append_drop]
  omega
theorem Qn {t x : Tr24} (h : x ∈ t.un.2.2.2) : x.cnt ≤ t.cnt := by rw [I3 t]; have := Jm (g := Tr24.cnt) h; omega
theorem NQ {t x : Tr31} (h : x ∈ t.un.2.2.2) : x.cnt ≤ t.cnt := by rw [GI t]; have := Jm (g := Tr31.cnt) h; omega
theorem Qt (t : Tr24) : t.un.2.2.2.length + 1 ≤ t.cnt := by rw [I3 t]; have := MV (g := Tr24.cnt) (fun x => by rw [I3 x]; omega) t.un.2.2.2; omega
theorem Qx (t : Tr31) : t.un.2.2.2.length + 1 ≤ t.cnt := by rw [GI t]; have := MV (g := Tr31.cnt) (fun x => by rw [GI x]; omega) t.un.2.2.2; omega
def mi : Tr24 → Tr31
  | .mk k f v l => .mk k f v (l.map mi)
theorem Hb (t : Tr24) : (mi t).un = (t.un.1, t.un.2.1, t.un.2.2.1, t.un.2.2.2.map mi) := by cases t; rw [mi]; rfl
theorem RU (t : Tr24) : mi t = Tr31.of (t.un.1, t.un.2.1, t.un.2.2.1, t.un.2.2.2.map mi) := by cases t; rw [mi]; rfl
theorem PS : ∀ (n : Nat) (t : Tr24), SizeOf.sizeOf t < n → (mi t).cnt = t.cnt
  | 0, t, h => absurd h (Nat.not_lt_zero _)
  | n + 1, t, h => by
    rw [GI, I3, Hb]
    show 1 + ((t.un.2.2.2.map mi).map Tr31.cnt).sum = _
    rw [List.map_map]
    congr 2
    exact List.map_congr_left fun x hx => PS n x (by have := Kl hx; omega)
theorem Ps : ∀ (n : Nat) (t : Tr24), SizeOf.sizeOf t < n → t.cnt ≤ 1048576 → DN n t = some (mi t)
  | 0, t, h, _ => absurd h (Nat.not_lt_zero _)
  | n + 1, t, h, hc => by
    have hl := Qt t
    show Em (DN n) t = _
    unfold Em
    obtain ⟨o, h1, h2⟩ := EF t.un.2.2.2.length (fun (o : List Tr31) (i : Nat) => ((i : Int), o)) (Dr (DN n) t) id (fun o i => o = (t.un.2.2.2.take i).map mi)
      (fun o i hi ho => by
        have hm := List.getElem_mem hi
        have hx := Ps n t.un.2.2.2[i] (by have := Kl hm; omega) (Nat.le_trans (Qn hm) hc)
        refine ⟨o ++ [mi t.un.2.2.2[i]], ?_, by rw [ho, List.take_succ_eq_append_getElem hi, List.map_append]; rfl⟩
        rw [Dr, if_pos (by omega), Cw (List.getElem?_eq_getElem hi), Option.bind_some, hx, Option.bind_some, DA (by rw [ho]; simp; omega), Option.bind_some, AE (by omega)]; rfl)
      (fun o _ => by rw [Dr, if_neg (by omega)]; rfl) [] rfl
    rw [List.take_length] at h1
    have h2' : A3 (Dr (DN n) t) (0, []) = some o := h2
    rw [h2', h1, Option.bind_some, ← RU]
theorem OU {t : Tr24} (hc : t.cnt ≤ 1048576) : I0 t = some (mi t) := CL (g := fun n => DN n t) (fun n r h => Is n t r h) (Ps (SizeOf.sizeOf t + 1) t (by omega) hc)
theorem OG : ∀ (n : Nat) (t : Tr24), SizeOf.sizeOf t < n → t.cnt ≤ 1048576 → DK n t = some (t.cnt : Int)
  | 0, t, h, _ => absurd h (Nat.not_lt_zero _)
  | n + 1, t, h, hc => by
    have hl := Qt t
    have hcc := I3 t
    show Ei (DK n) t = _
    unfold Ei
    obtain ⟨o, h1, h2⟩ := EF t.un.2.2.2.length (fun (o : Int) (i : Nat) => (o, (i : Int))) (Dk (DK n) t) id (fun o i => o = 1 + (((t.un.2.2.2.take i).map Tr24.cnt).sum : Nat))
      (fun o i hi ho => by
        have hm := List.getElem_mem hi
        have hx := OG n t.un.2.2.2[i] (by have := Kl hm; omega) (Nat.le_trans (Qn hm) hc)
        have hs : ((t.un.2.2.2.take (i + 1)).map Tr24.cnt).sum = ((t.un.2.2.2.take i).map Tr24.cnt).sum + t.un.2.2.2[i].cnt := by
          rw [List.take_succ_eq_append_getElem hi, List.map_append, List.sum_append]; simp
        have hle := I6 (g := Tr24.cnt) t.un.2.2.2 (i + 1)
        refine ⟨o + (t.un.2.2.2[i].cnt : Int), ?_, by rw [ho, hs]; omega⟩
        rw [Dk, if_pos (by omega), Cw (List.getElem?_eq_getElem hi), Option.bind_some, hx, Option.bind_some, AE (by rw [ho]; omega), AE (by omega)]; rfl)
      (fun o _ => by rw [Dk, if_neg (by omega)]; rfl) 1 (by simp)
    rw [List.take_length] at h1
    have h2' : A3 (Dk (DK n) t) (1, 0) = some o := h2
    rw [h2', h1, Option.bind_some, hcc]
    congr 1
theorem KX {t : Tr24} (hc : t.cnt ≤ 1048576) : HA t = some (t.cnt : Int) := CL (g := fun n => DK n t) (fun n r h => Ir n t r h) (OG (SizeOf.sizeOf t + 1) t (by omega) hc)
def Ft (f : Int) : Tr31 → List Int
  | .mk k g v l => (if k = 3 ∧ g = f then [v] else []) ++ (l.map (Ft f)).flatten
theorem Mu (f : Int) (t : Tr31) : Ft f t = (if t.un.1 = 3 ∧ t.un.2.1 = f then [t.un.2.2.1] else []) ++ (t.un.2.2.2.map (Ft f)).flatten := by cases t; rw [Ft]; rfl
theorem KM {α β : Type} {g : α → List β} {c : α → Nat} : ∀ (l : List α), (∀ x ∈ l, (g x).length ≤ c x) → (l.map g).flatten.length ≤ (l.map c).sum
  | [], _ => Nat.le_refl _
  | x :: l, h => by
    have h1 := h x (List.mem_cons_self ..)
    have h2 := KM (g := g) (c := c) l fun y hy => h y (List.mem_cons_of_mem _ hy)
    rw [List.map_cons, List.flatten_cons, List.length_append, List.map_cons, List.sum_cons]; omega
theorem I7 (f : Int) : ∀ (n : Nat) (t : Tr31), SizeOf.sizeOf t < n → (Ft f t).length ≤ t.cnt
  | 0, t, h => absurd h (Nat.not_lt_zero _)
  | n + 1, t, h => by
    rw [Mu, GI, List.length_append]
    have h2 := KM (g := Ft f) (c := Tr31.cnt) t.un.2.2.2 fun x hx => I7 f n x (by have := G0 hx; omega)
    have h3 : (if t.un.1 = 3 ∧ t.un.2.1 = f then [t.un.2.2.1] else ([] : List Int)).length ≤ 1 := by split <;> simp
    omega
theorem Lo (f : Int) : ∀ (n : Nat) (t : Tr31), SizeOf.sizeOf t < n → t.cnt ≤ 1048576 → Cu n t f = some (Ft f t)
  | 0, t, h, _ => absurd h (Nat.not_lt_zero _)
  | n + 1, t, h, hc => by
    have hl := Qx t
    have hcc := GI t
    show CX (Cu n) t f = _
    unfold CX
    have e1 : ((if (decide (t.un.1 = 3) && decide (t.un.2.1 = f)) = true then (F7 ([] : List Int) ([t.un.2.2.1] : List Int)).bind fun x2 => some x2 else some ([])) : Option (List Int)) = some (if t.un.1 = 3 ∧ t.un.2.1 = f then [t.un.2.2.1] else []) := by
      by_cases c : t.un.1 = 3 ∧ t.un.2.1 = f
      · rw [if_pos (by simp [c.1, c.2]), if_pos c, DA (by simp)]; rfl
      · rw [if_neg (by simpa using c), if_neg c]
    have h3 : (if t.un.1 = 3 ∧ t.un.2.1 = f then [t.un.2.2.1] else ([] : List Int)).length ≤ 1 := by split <;> simp
    rw [e1, Option.bind_some]
    obtain ⟨o, h1, h2⟩ := EF t.un.2.2.2.length (fun (o : List Int) (i : Nat) => (o, (i : Int))) (Ck (Cu n) t f) id (fun o i => o = (if t.un.1 = 3 ∧ t.un.2.1 = f then [t.un.2.2.1] else []) ++ ((t.un.2.2.2.take i).map (Ft f)).flatten)
      (fun o i hi ho => by
        have hm := List.getElem_mem hi
        have hx := Lo f n t.un.2.2.2[i] (by have := G0 hm; omega) (Nat.le_trans (NQ hm) hc)
        have hle := I6 (g := Tr31.cnt) t.un.2.2.2 i
        have hfl := KM (g := Ft f) (c := Tr31.cnt) (t.un.2.2.2.take i) fun x _ => I7 f (SizeOf.sizeOf x + 1) x (by omega)
        have hxl := I7 f (SizeOf.sizeOf t.un.2.2.2[i] + 1) t.un.2.2.2[i] (by omega)
        have hxc := NQ hm
        refine ⟨o ++ Ft f t.un.2.2.2[i], ?_, by rw [ho, List.take_succ_eq_append_getElem hi, List.map_append, List.flatten_append, List.append_assoc]; simp⟩
        rw [Ck, if_pos (by omega), Cw (List.getElem?_eq_getElem hi), Option.bind_some, hx, Option.bind_some, DA (by rw [ho, List.length_append]; omega), Option.bind_some, AE (by omega)]; rfl)
      (fun o _ => by rw [Ck, if_neg (by omega)]; rfl) (if t.un.1 = 3 ∧ t.un.2.1 = f then [t.un.2.2.1] else []) (by simp)
    rw [List.take_length] at h1
    have h2' : A3 (Ck (Cu n) t f) (if t.un.1 = 3 ∧ t.un.2.1 = f then [t.un.2.2.1] else [], 0) = some o := h2
    rw [h2', h1, Option.bind_some, Mu]
theorem NE {t : Tr31} (hc : t.cnt ≤ 1048576) (f : Int) : GQ t f = some (Ft f t) := CL (g := fun n => Cu n t f) (fun n r h => Gl n t f r h) (Lo f (SizeOf.sizeOf t + 1) t (by omega) hc)
theorem LW : ∀ (R S : List Int), R.Nodup → (∀ x ∈ R, x ∈ S) → R.length ≤ S.length
  | [], _, _, _ => Nat.zero_le _
  | x :: R, S, h, hs => by
    obtain ⟨h1, h2⟩ := List.nodup_cons.1 h
    have hx := hs x (List.mem_cons_self ..)
    have ih := LW R (S.erase x) h2 fun y hy => (List.mem_erase_of_ne (fun e => h1 (by rw [← e]; exact hy))).2 (hs y (List.mem_cons_of_mem _ hy))
    rw [List.length_erase_of_mem hx] at ih
    have := List.length_pos_of_mem hx
    rw [List.length_cons]; omega
theorem O0 {t : Tr31} (hc : t.cnt ≤ 1000) (f : Int) : ∃ V, Ff t f = some V ∧ V.Pairwise (· < ·) ∧ V.length ≤ 1000 ∧ ∀ v, v ∈ V ↔ v ∈ Ft f t := by
  have hlen := I7 f (SizeOf.sizeOf t + 1) t (by omega)
  obtain ⟨S, s1, s2, s3⟩ := QW (L := Ft f t) (by omega)
  obtain ⟨R, r1, r2, r3⟩ := N5 (L := S) (by rw [s2.length_eq]; omega) s3
  have hRl : R.length ≤ S.length := by
    have hnd : R.Nodup := r2.imp fun h => by omega
    exact LW R S hnd fun x hx => (r3 x).1 hx
  refine ⟨R, ?_, r2, by rw [s2.length_eq] at hRl; omega, fun v => (r3 v).trans s2.mem_iff⟩
  unfold Ff
  rw [NE (by omega), Option.bind_some, s1, Option.bind_some, r1]; rfl
def gt (a : Int × Int × PK) (f : Int) : Int := if f = 0 then a.2.2.1 else if f = 1 then a.2.2.2.1 else if f = 2 then a.2.2.2.2.1 else if f = 3 then a.2.2.2.2.2 else if f = 4 then a.2.1 else if f = 5 then a.1 else -1
theorem RI {p : PK} {f : Int} (h : 0 ≤ f ∧ f < 4) (s q : Int) : ix [p.1, p.2.1, p.2.2.1, p.2.2.2] f = some (gt (s, q, p) f) := by
  have : f = 0 ∨ f = 1 ∨ f = 2 ∨ f = 3 := by omega
  rcases this with rfl | rfl | rfl | rfl <;> rfl
theorem Pv (f s q : Int) (p : PK) : FS f s q p = some (gt (s, q, p) f) := by
  unfold FS
  by_cases c4 : f = 4
  · subst c4; rfl
  · rw [if_neg c4]
    by_cases c5 : f = 5
    · subst c5; rfl
    · rw [if_neg c5]
      by_cases c : 0 ≤ f ∧ f ≤ 5
      · have h4 : 0 ≤ f ∧ f < 4 := by omega
        rw [if_pos (by unfold CE; simp; exact c)]
        unfold FD
        rw [if_neg (by unfold E2; simp; omega), RI h4 s q]; rfl
      · rw [if_neg (by unfold CE; simp; omega)]
        unfold gt
        rw [if_neg (by omega), if_neg (by omega), if_neg (by omega), if_neg (by omega), if_neg (by omega), if_neg (by omega)]
theorem Ox (f s q : Int) (p : PK) : Ib f s q p = some (gt (s, q, p) f) := by
  unfold Ib
  by_cases c : 0 ≤ f ∧ f < 4
  · rw [if_pos (by simp; exact c), RI c s q]; rfl
  · rw [if_neg (by simp; omega)]
    by_cases c4 : f = 4
    · subst c4; rfl
    · rw [if_neg c4]
      by_cases c5 : f = 5
      · subst c5; rfl
      · rw [if_neg c5]
        unfold gt
        rw [if_neg (by omega), if_neg (by omega), if_neg (by omega), if_neg (by omega), if_neg (by omega), if_neg (by omega)]
def Px (a : Int × Int × PK) (k f v : Int) (bs : List Bool) : Bool :=
  if k = 1 then true else if k = 3 then decide ((0 ≤ f ∧ f ≤ 5) ∧ gt a f = v) else if k = 4 then (match bs with | [] => false | b :: _ => !b) else if k = 5 then bs.all id else if k = 6 then bs.any id else false
def Lw (a : Int × Int × PK) : Tr31 → Bool
  | .mk k f v l => Px a k f v (l.map (Lw a))
theorem P4 (a : Int × Int × PK) (t : Tr31) : Lw a t = Px a t.un.1 t.un.2.1 t.un.2.2.1 (t.un.2.2.2.map (Lw a)) := by cases t; rw [Lw]; rfl
theorem Oy {α : Type} (l : List α) (q : α → Bool) (step : Int → Option (Int ⊕ (Unit ⊕ Int)))
    (hs : ∀ k (hk : k < l.length), step (k : Int) = if q l[k] = true then some (.inr (.inr (k : Int))) else some (.inl ((k + 1 : Nat) : Int)))
    (he : step (l.length : Int) = some (.inr (.inl ()))) : ∃ i : Int, IX (A3 step 0) (fun _ => some (-1)) = some i ∧ decide (0 ≤ i) = l.any q := by
  have key : ∀ (d k : Nat), k + d = l.length → (∀ x ∈ l.take k, q x = false) → ∃ i : Int, IX (A3 step (k : Int)) (fun _ => some (-1)) = some i ∧ decide (0 ≤ i) = l.any q := by
    intro d
    induction d with
    | zero =>
      intro k hk hn
      rw [List.take_of_length_le (by omega)] at hn
      refine ⟨-1, by rw [show (k : Int) = (l.length : Int) by omega, Bo he]; rfl, ?_⟩
      rw [decide_eq_false (by omega)]
      exact (List.any_eq_false.2 fun x hx => by rw [hn x hx]; simp).symm
    | succ d ih =>
      intro k hk hn
      have hkl : k < l.length := by omega
      have hst := hs k hkl
      by_cases c : q l[k] = true
      · rw [if_pos c] at hst
        refine ⟨(k : Int), by rw [Bo hst]; rfl, ?_⟩
        rw [decide_eq_true (by omega)]
        exact (List.any_eq_true.2 ⟨_, List.getElem_mem hkl, c⟩).symm
      · rw [if_neg c] at hst
        rw [Cr hst]
        refine ih (k + 1) (by omega) fun x hx => ?_
        rw [List.take_succ_eq_append_getElem hkl] at hx
        rcases List.mem_append.1 hx with h | h
        · exact hn x h
        · rw [List.mem_singleton.1 h]; simpa using c
  exact key l.length 0 (by omega) (by simp)
theorem Po (a : Int × Int × PK) : ∀ (n : Nat) (t : Tr31), SizeOf.sizeOf t < n → t.cnt ≤ 1048576 → Bf n a t = some (Lw a t)
  | 0, t, h, _ => absurd h (Nat.not_lt_zero _)
  | n + 1, t, h, hc => by
    have hl := Qx t
    have hx : ∀ x ∈ t.un.2.2.2, Bf n a x = some (Lw a x) := fun x hm => Po a n x (by have := G0 hm; omega) (Nat.le_trans (NQ hm) hc)
    show Bu (Bf n) a t = _
    rw [P4]
    unfold Bu Px
    by_cases c1 : t.un.1 = 1
    · rw [if_pos c1, if_pos c1]
    rw [if_neg c1, if_neg c1]
    by_cases c3 : t.un.1 = 3
    · rw [if_pos c3, if_pos c3, Pv]
      unfold CE
      rw [← Bool.decide_and]
      by_cases k : 0 ≤ t.un.2.1 ∧ t.un.2.1 ≤ 5
      · rw [if_pos (decide_eq_true k), Option.bind_some, Option.bind_some]
        exact congrArg some (decide_eq_decide.2 ⟨fun h => ⟨k, h⟩, fun h => h.2⟩)
      · rw [if_neg (by simpa using k), Option.bind_some, decide_eq_false (fun h => k h.1)]
    rw [if_neg c3, if_neg c3]
    by_cases c4 : t.un.1 = 4
    · rw [if_pos c4, if_pos c4]
      cases hll : t.un.2.2.2 with
      | nil => rfl
      | cons y l =>
        rw [if_pos (by simp only [List.length_cons]; omega), show ix (y :: l) 0 = some y from Cw (k := 0) rfl, Option.bind_some]
        unfold B1
        rw [hx y (by rw [hll]; exact List.mem_cons_self ..)]; rfl
    rw [if_neg c4, if_neg c4]
    by_cases c5 : t.un.1 = 5
    · rw [if_pos c5, if_pos c5]
      obtain ⟨i, i1, i2⟩ := Oy t.un.2.2.2 (fun x => !Lw a x) (AV (Bf n) t.un.2.2.2 a) (fun k hk => by
        rw [AV, if_pos (by omega), Cw (List.getElem?_eq_getElem hk), Option.bind_some]
        unfold B1
        rw [hx _ (List.getElem_mem hk), Option.bind_some, Option.bind_some, AE (by omega)]; rfl) (by rw [AV, if_neg (by omega)])
      unfold A4 Bc
      rw [i1, Option.bind_some, Option.bind_some, i2, List.all_map]
      congr 1
      rw [List.any_eq_not_all_not]
      simp only [Bool.not_not]
      rfl
    rw [if_neg c5, if_neg c5]
    by_cases c6 : t.un.1 = 6
    · rw [if_pos c6, if_pos c6]
      obtain ⟨i, i1, i2⟩ := Oy t.un.2.2.2 (fun x => Lw a x) (AN (Bf n) t.un.2.2.2 a) (fun k hk => by
        rw [AN, if_pos (by omega), Cw (List.getElem?_eq_getElem hk), Option.bind_some, hx _ (List.getElem_mem hk), Option.bind_some, AE (by omega)]; rfl) (by rw [AN, if_neg (by omega)])
      unfold AZ A7
      rw [i1, Option.bind_some, Option.bind_some, i2, List.any_map]; rfl
    rw [if_neg c6, if_neg c6]
theorem QG {t : Tr31} (hc : t.cnt ≤ 1048576) (s q : Int) (p : PK) : EY t s q p = some (Lw (s, q, p) t) := by
  unfold EY
  rw [show Dy (s, q, p) t = some (Lw (s, q, p) t) from CL (g := fun n => Bf n (s, q, p) t) (fun n r h => DB n (s, q, p) t r h) (Po _ (SizeOf.sizeOf t + 1) t (by omega) hc)]; rfl
end Go.Proofs.YtepfcpffbabgmaaDoor
