/- Layer 27: trees, what a condition says. Conditions: none. -/
import Derived.Test.YtpckgggmgijiiaaGreatDoorbLP
import Derived.Test.YtpckgggmgijiiaaGreatDoorbEV
namespace Go.Proofs.YtpckgggmgijiiaaGreatDoor
set_option linter.unusedVariables false
set_option linter.unusedSimpArgs false
open Go Go.RowKit
abbrev PK := Int × Int × Int × Int
theorem RD {t x : Tr24} (h : x ∈ t.un.2.2.2) : SizeOf.sizeOf x < SizeOf.sizeOf t := by
  cases t with
  | mk k f v l =>
    have h' : x ∈ l := h
    have := List.sizeOf_lt_of_mem h'
    simp only [Tr24.mk.sizeOf_spec]; omega
theorem TT {t x : Tr34} (h : x ∈ t.un.2.2.2) : SizeOf.sizeOf x < SizeOf.sizeOf t := by
  cases t with
  | mk k f v l =>
    have h' : x ∈ l := h
    have := List.sizeOf_lt_of_mem h'
    simp only [Tr34.mk.sizeOf_spec]; omega
theorem O2 (t : Tr24) : t.cnt = 1 + (t.un.2.2.2.map Tr24.cnt).sum := by cases t; rw [Tr24.cnt]; rfl
theorem N7 (t : Tr34) : t.cnt = 1 + (t.un.2.2.2.map Tr34.cnt).sum := by cases t; rw [Tr34.cnt]; rfl
theorem KX {α : Type} {g : α → Nat} : ∀ {l : List α} {x : α}, x ∈ l → g x ≤ (l.map g).sum
  | y :: l, x, h => by
    rw [List.map_cons, List.sum_cons]
    rcases List.mem_cons.1 h with e | h
    · rw [e]; omega
    · have := KX (g := g) h; omega
theorem LT {α : Type} {g : α → Nat} (hg : ∀ x, 1 ≤ g x) : ∀ l : List α, l.length ≤ (l.map g).sum
  | [] => Nat.zero_le _
  | y :: l => by
    have := hg y
    have := LT hg l
    rw [List.map_cons, List.sum_cons, List.length_cons]; omega
theorem QA {α : Type} {g : α → Nat} (l : List α) (i : Nat) : ((l.take i).map g).sum ≤ (l.map g).sum := by
  have h : (l.map g).sum = ((l.take i).map g).sum + ((l.drop i).map g).sum := by
    rw [← List.sum_append, ← List.map_append, List.take_append_drop]
  omega
theorem Wl {t x : Tr24} (h : x ∈ t.un.2.2.2) : x.cnt ≤ t.cnt := by rw [O2 t]; have := KX (g := Tr24.cnt) h; omega
theorem YT {t x : Tr34} (h : x ∈ t.un.2.2.2) : x.cnt ≤ t.cnt := by rw [N7 t]; have := KX (g := Tr34.cnt) h; omega
theorem WV (t : Tr24) : t.un.2.2.2.length + 1 ≤ t.cnt := by rw [O2 t]; have := LT (g := Tr24.cnt) (fun x => by rw [O2 x]; omega) t.un.2.2.2; omega
theorem YS (t : Tr34) : t.un.2.2.2.length + 1 ≤ t.cnt := by rw [N7 t]; have := LT (g := Tr34.cnt) (fun x => by rw [N7 x]; omega) t.un.2.2.2; omega
def mi : Tr24 → Tr34
  | .mk k f v l => .mk k f v (l.map mi)
theorem RY (t : Tr24) : (mi t).un = (t.un.1, t.un.2.1, t.un.2.2.1, t.un.2.2.2.map mi) := by cases t; rw [mi]; rfl
theorem U4 (t : Tr24) : mi t = Tr34.of (t.un.1, t.un.2.1, t.un.2.2.1, t.un.2.2.2.map mi) := by cases t; rw [mi]; rfl
theorem TD : ∀ (n : Nat) (t : Tr24), SizeOf.sizeOf t < n → (mi t).cnt = t.cnt
  | 0, t, h => absurd h (Nat.not_lt_zero _)
  | n + 1, t, h => by
    rw [N7, O2, RY]
    show 1 + ((t.un.2.2.2.map mi).map Tr34.cnt).sum = _
    rw [List.map_map]
    congr 2
    exact List.map_congr_left fun x hx => TD n x (by have := RD hx; omega)
theorem Un : ∀ (n : Nat) (t : Tr24), SizeOf.sizeOf t < n → t.cnt ≤ 1048576 → D9 n t = some (mi t)
  | 0, t, h, _ => absurd h (Nat.not_lt_zero _)
  | n + 1, t, h, hc => by
    have hl := WV t
    show EP (D9 n) t = _
    unfold EP
    obtain ⟨o, h1, h2⟩ := Ha t.un.2.2.2.length (fun (o : List Tr34) (i : Nat) => ((i : Int), o)) (Dx (D9 n) t) id (fun o i => o = (t.un.2.2.2.take i).map mi)
      (fun o i hi ho => by
        have hm := List.getElem_mem hi
        have hx := Un n t.un.2.2.2[i] (by have := RD hm; omega) (Nat.le_trans (Wl hm) hc)
        refine ⟨o ++ [mi t.un.2.2.2[i]], ?_, by rw [ho, List.take_succ_eq_append_getElem hi, List.map_append]; rfl⟩
        rw [Dx, if_pos (by omega), Ds (List.getElem?_eq_getElem hi), Option.bind_some, hx, Option.bind_some, Pv (by rw [ho]; simp; omega), Option.bind_some, AC (by omega)]; rfl)
      (fun o _ => by rw [Dx, if_neg (by omega)]; rfl) [] rfl
    rw [List.take_length] at h1
    have h2' : AY (Dx (D9 n) t) (0, []) = some o := h2
    rw [h2', h1, Option.bind_some, ← U4]
theorem UB {t : Tr24} (hc : t.cnt ≤ 1048576) : NE t = some (mi t) := Di (g := fun n => D9 n t) (fun n r h => KC n t r h) (Un (SizeOf.sizeOf t + 1) t (by omega) hc)
theorem R0 : ∀ (n : Nat) (t : Tr24), SizeOf.sizeOf t < n → t.cnt ≤ 1048576 → D7 n t = some (t.cnt : Int)
  | 0, t, h, _ => absurd h (Nat.not_lt_zero _)
  | n + 1, t, h, hc => by
    have hl := WV t
    have hcc := O2 t
    show EZ (D7 n) t = _
    unfold EZ
    obtain ⟨o, h1, h2⟩ := Ha t.un.2.2.2.length (fun (o : Int) (i : Nat) => (o, (i : Int))) (DB (D7 n) t) id (fun o i => o = 1 + (((t.un.2.2.2.take i).map Tr24.cnt).sum : Nat))
      (fun o i hi ho => by
        have hm := List.getElem_mem hi
        have hx := R0 n t.un.2.2.2[i] (by have := RD hm; omega) (Nat.le_trans (Wl hm) hc)
        have hs : ((t.un.2.2.2.take (i + 1)).map Tr24.cnt).sum = ((t.un.2.2.2.take i).map Tr24.cnt).sum + t.un.2.2.2[i].cnt := by
          rw [List.take_succ_eq_append_getElem hi, List.map_append, List.sum_append]; simp
        have hle := QA (g := Tr24.cnt) t.un.2.2.2 (i + 1)
        refine ⟨o + (t.un.2.2.2[i].cnt : Int), ?_, by rw [ho, hs]; omega⟩
        rw [DB, if_pos (by omega), Ds (List.getElem?_eq_getElem hi), Option.bind_some, hx, Option.bind_some, AC (by rw [ho]; omega), AC (by omega)]; rfl)
      (fun o _ => by rw [DB, if_neg (by omega)]; rfl) 1 (by simp)
    rw [List.take_length] at h1
    have h2' : AY (DB (D7 n) t) (1, 0) = some o := h2
    rw [h2', h1, Option.bind_some, hcc]
    congr 1
theorem Q5 {t : Tr24} (hc : t.cnt ≤ 1048576) : Jz t = some (t.cnt : Int) := Di (g := fun n => D7 n t) (fun n r h => KD n t r h) (R0 (SizeOf.sizeOf t + 1) t (by omega) hc)
def gt (a : Int × Int × PK) (f : Int) : Int := if f = 0 then a.2.2.1 else if f = 1 then a.2.2.2.1 else if f = 2 then a.2.2.2.2.1 else if f = 3 then a.2.2.2.2.2 else if f = 4 then a.2.1 else if f = 5 then a.1 else -1
theorem XB {p : PK} {f : Int} (h : 0 ≤ f ∧ f < 4) (s q : Int) : ix [p.1, p.2.1, p.2.2.1, p.2.2.2] f = some (gt (s, q, p) f) := by
  have : f = 0 ∨ f = 1 ∨ f = 2 ∨ f = 3 := by omega
  rcases this with rfl | rfl | rfl | rfl <;> rfl
theorem VN (f s q : Int) (p : PK) : HL f s q p = some (gt (s, q, p) f) := by
  unfold HL
  by_cases c4 : f = 4
  · subst c4; rfl
  · rw [if_neg c4]
    by_cases c5 : f = 5
    · subst c5; rfl
    · rw [if_neg c5]
      by_cases c : 0 ≤ f ∧ f ≤ 5
      · have h4 : 0 ≤ f ∧ f < 4 := by omega
        rw [if_pos (by unfold C2; simp; exact c)]
        unfold GW
        rw [if_neg (by unfold CB; simp; omega), XB h4 s q]; rfl
      · rw [if_neg (by unfold C2; simp; omega)]
        unfold gt
        rw [if_neg (by omega), if_neg (by omega), if_neg (by omega), if_neg (by omega), if_neg (by omega), if_neg (by omega)]
def VP (a : Int × Int × PK) (k f v : Int) (bs : List Bool) : Bool :=
  if k = 1 then true else if k = 3 then decide ((0 ≤ f ∧ f ≤ 5) ∧ gt a f = v) else if k = 4 then (match bs with | [] => false | b :: _ => !b) else if k = 5 then bs.all id else if k = 6 then bs.any id else false
def Qe (a : Int × Int × PK) : Tr34 → Bool
  | .mk k f v l => VP a k f v (l.map (Qe a))
theorem Rw (a : Int × Int × PK) (t : Tr34) : Qe a t = VP a t.un.1 t.un.2.1 t.un.2.2.1 (t.un.2.2.2.map (Qe a)) := by cases t; rw [Qe]; rfl
theorem RL {α : Type} (l : List α) (q : α → Bool) (step : Int → Option (Int ⊕ (Unit ⊕ Int)))
    (hs : ∀ k (hk : k < l.length), step (k : Int) = if q l[k] = true then some (.inr (.inr (k : Int))) else some (.inl ((k + 1 : Nat) : Int)))
    (he : step (l.length : Int) = some (.inr (.inl ()))) : ∃ i : Int, Kq (AY step 0) (fun _ => some (-1)) = some i ∧ decide (0 ≤ i) = l.any q := by
  have key : ∀ (d k : Nat), k + d = l.length → (∀ x ∈ l.take k, q x = false) → ∃ i : Int, Kq (AY step (k : Int)) (fun _ => some (-1)) = some i ∧ decide (0 ≤ i) = l.any q := by
    intro d
    induction d with
    | zero =>
      intro k hk hn
      rw [List.take_of_length_le (by omega)] at hn
      refine ⟨-1, by rw [show (k : Int) = (l.length : Int) by omega, Be he]; rfl, ?_⟩
      rw [decide_eq_false (by omega)]
      exact (List.any_eq_false.2 fun x hx => by rw [hn x hx]; simp).symm
    | succ d ih =>
      intro k hk hn
      have hkl : k < l.length := by omega
      have hst := hs k hkl
      by_cases c : q l[k] = true
      · rw [if_pos c] at hst
        refine ⟨(k : Int), by rw [Be hst]; rfl, ?_⟩
        rw [decide_eq_true (by omega)]
        exact (List.any_eq_true.2 ⟨_, List.getElem_mem hkl, c⟩).symm
      · rw [if_neg c] at hst
        rw [BX hst]
        refine ih (k + 1) (by omega) fun x hx => ?_
        rw [List.take_succ_eq_append_getElem hkl] at hx
        rcases List.mem_append.1 hx with h | h
        · exact hn x h
        · rw [List.mem_singleton.1 h]; simpa using c
  exact key l.length 0 (by omega) (by simp)
theorem S6 (a : Int × Int × PK) : ∀ (n : Nat) (t : Tr34), SizeOf.sizeOf t < n → t.cnt ≤ 1048576 → Bb n a t = some (Qe a t)
  | 0, t, h, _ => absurd h (Nat.not_lt_zero _)
  | n + 1, t, h, hc => by
    have hl := YS t
    have hx : ∀ x ∈ t.un.2.2.2, Bb n a x = some (Qe a x) := fun x hm => S6 a n x (by have := TT hm; omega) (Nat.le_trans (YT hm) hc)
    show BC (Bb n) a t = _
    rw [Rw]
    unfold BC VP
    by_cases c1 : t.un.1 = 1
    · rw [if_pos c1, if_pos c1]
    rw [if_neg c1, if_neg c1]
    by_cases c3 : t.un.1 = 3
    · rw [if_pos c3, if_pos c3, VN]
      unfold C2
      rw [← Bool.decide_and]
      by_cases k : 0 ≤ t.un.2.1 ∧ t.un.2.1 ≤ 5
      · rw [if_pos (decide_eq_true k), Option.bind_some, Option.bind_some]
        exact congrArg some (decide_eq_decide.2 ⟨fun h => ⟨k, h⟩, fun h => h.2⟩)
      · rw [if_neg (by simpa using k), Option.bind_some, decide_eq_false (fun h => k h.1)]
    rw [if_neg c3, if_neg c3]
    by_cases c4 : t.un.1 = 4
    · rw [if_pos c4, if_pos c4]
      cases hll : t.un.2.2.2 with
      | nil => rfl
      | cons y l =>
        rw [if_pos (by simp only [List.length_cons]; omega), show ix (y :: l) 0 = some y from Ds (k := 0) rfl, Option.bind_some]
        unfold Cf
        rw [hx y (by rw [hll]; exact List.mem_cons_self ..)]; rfl
    rw [if_neg c4, if_neg c4]
    by_cases c5 : t.un.1 = 5
    · rw [if_pos c5, if_pos c5]
      obtain ⟨i, i1, i2⟩ := RL t.un.2.2.2 (fun x => !Qe a x) (AH (Bb n) t.un.2.2.2 a) (fun k hk => by
        rw [AH, if_pos (by omega), Ds (List.getElem?_eq_getElem hk), Option.bind_some]
        unfold Cf
        rw [hx _ (List.getElem_mem hk), Option.bind_some, Option.bind_some, AC (by omega)]; rfl) (by rw [AH, if_neg (by omega)])
      unfold AV A8
      rw [i1, Option.bind_some, Option.bind_some, i2, List.all_map]
      congr 1
      rw [List.any_eq_not_all_not]
      simp only [Bool.not_not]
      rfl
    rw [if_neg c5, if_neg c5]
    by_cases c6 : t.un.1 = 6
    · rw [if_pos c6, if_pos c6]
      obtain ⟨i, i1, i2⟩ := RL t.un.2.2.2 (fun x => Qe a x) (AF (Bb n) t.un.2.2.2 a) (fun k hk => by
        rw [AF, if_pos (by omega), Ds (List.getElem?_eq_getElem hk), Option.bind_some, hx _ (List.getElem_mem hk), Option.bind_some, AC (by omega)]; rfl) (by rw [AF, if_neg (by omega)])
      unfold AP AX
      rw [i1, Option.bind_some, Option.bind_some, i2, List.any_map]; rfl
    rw [if_neg c6, if_neg c6]
theorem R7 {t : Tr34} (hc : t.cnt ≤ 1048576) (s q : Int) (p : PK) : Gv t s q p = some (Qe (s, q, p) t) := by
  unfold Gv
  rw [show DO (s, q, p) t = some (Qe (s, q, p) t) from Di (g := fun n => Bb n (s, q, p) t) (fun n r h => DQ n (s, q, p) t r h) (S6 _ (SizeOf.sizeOf t + 1) t (by omega) hc)]; rfl
end Go.Proofs.YtpckgggmgijiiaaGreatDoor
