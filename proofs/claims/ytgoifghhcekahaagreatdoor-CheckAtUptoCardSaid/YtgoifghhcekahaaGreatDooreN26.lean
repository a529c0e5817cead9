/- Layer 30: trees, what is asked. Conditions: none. -/
import Derived.Test.YtgoifghhcekahaaGreatDooreNS
import Derived.Test.YtgoifghhcekahaaGreatDooreEV
namespace Go.Proofs.YtgoifghhcekahaaGreatDoor
set_option linter.unusedVariables false
set_option linter.unusedSimpArgs false
open Go Go.RowKit
abbrev PK := Int × Int × Int × Int
theorem VS {t x : Tr28} (h : x ∈ t.un.2.2.2) : SizeOf.sizeOf x < SizeOf.sizeOf t := by
  cases t with
  | mk k f v l =>
    have h' : x ∈ l := h
    have := List.sizeOf_lt_of_mem h'
    simp only [Tr28.mk.sizeOf_spec]; omega
theorem OO {t x : Tr36} (h : x ∈ t.un.2.2.2) : SizeOf.sizeOf x < SizeOf.sizeOf t := by
  cases t with
  | mk k f v l =>
    have h' : x ∈ l := h
    have := List.sizeOf_lt_of_mem h'
    simp only [Tr36.mk.sizeOf_spec]; omega
theorem TW (t : Tr28) : t.cnt = 1 + (t.un.2.2.2.map Tr28.cnt).sum := by cases t; rw [Tr28.cnt]; rfl
theorem Ja (t : Tr36) : t.cnt = 1 + (t.un.2.2.2.map Tr36.cnt).sum := by cases t; rw [Tr36.cnt]; rfl
theorem Kh {α : Type} {g : α → Nat} : ∀ {l : List α} {x : α},x ∈ l → g x ≤ (l.map g).sum
  | y :: l,x,h => by
    rw [List.map_cons,List.sum_cons]
    rcases List.mem_cons.1 h with e | h
    · rw [e]; omega
    · have := Kh (g := g) h; omega
theorem Nn {α : Type} {g : α → Nat} (hg : ∀ x,1 ≤ g x) : ∀ l : List α,l.length ≤ (l.map g).sum
  | [] => Nat.zero_le _
  | y :: l => by
    have := hg y
    have := Nn hg l
    rw [List.map_cons,List.sum_cons,List.length_cons]; omega
theorem Iw {α : Type} {g : α → Nat} (l : List α) (i : Nat) : ((l.take i).map g).sum ≤ (l.map g).sum := by
  have h : (l.map g).sum = ((l.take i).map g).sum + ((l.drop i).map g).sum := by
    rw [← List.sum_append, ← List.map_append,List.take_append_drop]
  omega
theorem nS {t x : Tr28} (h : x ∈ t.un.2.2.2) : x.cnt ≤ t.cnt := by rw [TW t]; have := Kh (g := Tr28.cnt) h; omega
theorem j6 {t x : Tr36} (h : x ∈ t.un.2.2.2) : x.cnt ≤ t.cnt := by rw [Ja t]; have := Kh (g := Tr36.cnt) h; omega
theorem pW (t : Tr28) : t.un.2.2.2.length + 1 ≤ t.cnt := by rw [TW t]; have := Nn (g := Tr28.cnt) (fun x => by rw [TW x]; omega) t.un.2.2.2; omega
theorem nH (t : Tr36) : t.un.2.2.2.length + 1 ≤ t.cnt := by rw [Ja t]; have := Nn (g := Tr36.cnt) (fun x => by rw [Ja x]; omega) t.un.2.2.2; omega
def mi : Tr28 → Tr36
  | .mk k f v l => .mk k f v (l.map mi)
theorem Xb (t : Tr28) : (mi t).un = (t.un.1,t.un.2.1,t.un.2.2.1,t.un.2.2.2.map mi) := by cases t; rw [mi]; rfl
theorem oG (t : Tr28) : mi t = Tr36.of (t.un.1,t.un.2.1,t.un.2.2.1,t.un.2.2.2.map mi) := by cases t; rw [mi]; rfl
theorem bW : ∀ (n : Nat) (t : Tr28),SizeOf.sizeOf t < n → (mi t).cnt = t.cnt
  | 0,t,h => absurd h (Nat.not_lt_zero _)
  | n + 1,t,h => by
    rw [Ja,TW,Xb]
    show 1 + ((t.un.2.2.2.map mi).map Tr36.cnt).sum = _
    rw [List.map_map]
    congr 2
    exact List.map_congr_left fun x hx => bW n x (by have := VS hx; omega)
theorem Zx : ∀ (n : Nat) (t : Tr28),SizeOf.sizeOf t < n → t.cnt ≤ 1048576 → E4 n t = some (mi t)
  | 0,t,h,_ => absurd h (Nat.not_lt_zero _)
  | n + 1,t,h,hc => by
    have hl := pW t
    show E3 (E4 n) t = _
    unfold E3
    obtain ⟨o,h1,h2⟩ := DW t.un.2.2.2.length (fun (o : List Tr36) (i : Nat) => ((i : Int),o)) (DN (E4 n) t) id (fun o i => o = (t.un.2.2.2.take i).map mi)
      (fun o i hi ho => by
        have hm := List.getElem_mem hi
        have hx := Zx n t.un.2.2.2[i] (by have := VS hm; omega) (Nat.le_trans (nS hm) hc)
        refine ⟨o ++ [mi t.un.2.2.2[i]], ?_,by rw [ho,List.take_succ_eq_append_getElem hi,List.map_append]; rfl⟩
        rw [DN,if_pos (by omega),Bh (List.getElem?_eq_getElem hi),Option.bind_some,hx,Option.bind_some,IA (by rw [ho]; simp; omega),Option.bind_some,Ab (by omega)]; rfl)
      (fun o _ => by rw [DN,if_neg (by omega)]; rfl) [] rfl
    rw [List.take_length] at h1
    have h2' : Ac (DN (E4 n) t) (0,[]) = some o := h2
    rw [h2',h1,Option.bind_some, ← oG]
theorem gO {t : Tr28} (hc : t.cnt ≤ 1048576) : NH t = some (mi t) := C7 (g := fun n => E4 n t) (fun n r h => Mp n t r h) (Zx (SizeOf.sizeOf t + 1) t (by omega) hc)
theorem WE : ∀ (n : Nat) (t : Tr28),SizeOf.sizeOf t < n → t.cnt ≤ 1048576 → Fe n t = some (t.cnt : Int)
  | 0,t,h,_ => absurd h (Nat.not_lt_zero _)
  | n + 1, t, h, hc => by
    have hl := pW t
    have hcc := TW t
    show EX (Fe n) t = _
    unfold EX
    obtain ⟨o,h1,h2⟩ := DW t.un.2.2.2.length (fun (o : Int) (i : Nat) => (o,(i : Int))) (DL (Fe n) t) id (fun o i => o = 1 + (((t.un.2.2.2.take i).map Tr28.cnt).sum : Nat))
      (fun o i hi ho => by
        have hm := List.getElem_mem hi
        have hx := WE n t.un.2.2.2[i] (by have := VS hm; omega) (Nat.le_trans (nS hm) hc)
        have hs : ((t.un.2.2.2.take (i + 1)).map Tr28.cnt).sum = ((t.un.2.2.2.take i).map Tr28.cnt).sum + t.un.2.2.2[i].cnt := by
          rw [List.take_succ_eq_append_getElem hi,List.map_append,List.sum_append]; simp
        have hle := Iw (g := Tr28.cnt) t.un.2.2.2 (i + 1)
        refine ⟨o + (t.un.2.2.2[i].cnt : Int), ?_,by rw [ho,hs]; omega⟩
        rw [DL,if_pos (by omega),Bh (List.getElem?_eq_getElem hi),Option.bind_some,hx,Option.bind_some,Ab (by rw [ho]; omega),Ab (by omega)]; rfl)
      (fun o _ => by rw [DL,if_neg (by omega)]; rfl) 1 (by simp)
    rw [List.take_length] at h1
    have h2' : Ac (DL (Fe n) t) (1,0) = some o := h2
    rw [h2',h1,Option.bind_some,hcc]
    congr 1
theorem UD {t : Tr28} (hc : t.cnt ≤ 1048576) : JU t = some (t.cnt : Int) := C7 (g := fun n => Fe n t) (fun n r h => Mt n t r h) (WE (SizeOf.sizeOf t + 1) t (by omega) hc)
def E9 (f : Int) : Tr36 → List Int
  | .mk k g v l => (if k = 3 ∧ g = f then [v] else []) ++ (l.map (E9 f)).flatten
theorem H2 (f : Int) (t : Tr36) : E9 f t = (if t.un.1 = 3 ∧ t.un.2.1 = f then [t.un.2.2.1] else []) ++ (t.un.2.2.2.map (E9 f)).flatten := by cases t; rw [E9]; rfl
theorem QU {α β : Type} {g : α → List β} {c : α → Nat} : ∀ (l : List α),(∀ x ∈ l,(g x).length ≤ c x) → (l.map g).flatten.length ≤ (l.map c).sum
  | [],_ => Nat.le_refl _
  | x :: l,h => by
    have h1 := h x (List.mem_cons_self ..)
    have h2 := QU (g := g) (c := c) l fun y hy => h y (List.mem_cons_of_mem _ hy)
    rw [List.map_cons,List.flatten_cons,List.length_append,List.map_cons,List.sum_cons]; omega
theorem Nl (f : Int) : ∀ (n : Nat) (t : Tr36),SizeOf.sizeOf t < n → (E9 f t).length ≤ t.cnt
  | 0,t,h => absurd h (Nat.not_lt_zero _)
  | n + 1,t,h => by
    rw [H2,Ja,List.length_append]
    have h2 := QU (g := E9 f) (c := Tr36.cnt) t.un.2.2.2 fun x hx => Nl f n x (by have := OO hx; omega)
    have h3 : (if t.un.1 = 3 ∧ t.un.2.1 = f then [t.un.2.2.1] else ([] : List Int)).length ≤ 1 := by split <;> simp
    omega
theorem PR (f : Int) : ∀ (n : Nat) (t : Tr36),SizeOf.sizeOf t < n → t.cnt ≤ 1048576 → C3 n t f = some (E9 f t)
  | 0,t,h,_ => absurd h (Nat.not_lt_zero _)
  | n + 1,t,h,hc => by
    have hl := nH t
    have hcc := Ja t
    show C4 (C3 n) t f = _
    unfold C4
    have e1 : ((if (decide (t.un.1 = 3) && decide (t.un.2.1 = f)) = true then (Fy ([] : List Int) ([t.un.2.2.1] : List Int)).bind fun x2 => some x2 else some ([])) : Option (List Int)) = some (if t.un.1 = 3 ∧ t.un.2.1 = f then [t.un.2.2.1] else []) := by
      by_cases c : t.un.1 = 3 ∧ t.un.2.1 = f
      · rw [if_pos (by simp [c.1,c.2]),if_pos c,IA (by simp)]; rfl
      · rw [if_neg (by simpa using c),if_neg c]
    have h3 : (if t.un.1 = 3 ∧ t.un.2.1 = f then [t.un.2.2.1] else ([] : List Int)).length ≤ 1 := by split <;> simp
    rw [e1,Option.bind_some]
    obtain ⟨o,h1,h2⟩ := DW t.un.2.2.2.length (fun (o : List Int) (i : Nat) => (o,(i : Int))) (B9 (C3 n) t f) id (fun o i => o = (if t.un.1 = 3 ∧ t.un.2.1 = f then [t.un.2.2.1] else []) ++ ((t.un.2.2.2.take i).map (E9 f)).flatten)
      (fun o i hi ho => by
        have hm := List.getElem_mem hi
        have hx := PR f n t.un.2.2.2[i] (by have := OO hm; omega) (Nat.le_trans (j6 hm) hc)
        have hle := Iw (g := Tr36.cnt) t.un.2.2.2 i
        have hfl := QU (g := E9 f) (c := Tr36.cnt) (t.un.2.2.2.take i) fun x _ => Nl f (SizeOf.sizeOf x + 1) x (by omega)
        have hxl := Nl f (SizeOf.sizeOf t.un.2.2.2[i] + 1) t.un.2.2.2[i] (by omega)
        have hxc := j6 hm
        refine ⟨o ++ E9 f t.un.2.2.2[i], ?_,by rw [ho,List.take_succ_eq_append_getElem hi,List.map_append,List.flatten_append,List.append_assoc]; simp⟩
        rw [B9,if_pos (by omega),Bh (List.getElem?_eq_getElem hi),Option.bind_some,hx,Option.bind_some,IA (by rw [ho,List.length_append]; omega),Option.bind_some,Ab (by omega)]; rfl)
      (fun o _ => by rw [B9,if_neg (by omega)]; rfl) (if t.un.1 = 3 ∧ t.un.2.1 = f then [t.un.2.2.1] else []) (by simp)
    rw [List.take_length] at h1
    have h2' : Ac (B9 (C3 n) t f) (if t.un.1 = 3 ∧ t.un.2.1 = f then [t.un.2.2.1] else [],0) = some o := h2
    rw [h2',h1,Option.bind_some,H2]
theorem UU {t : Tr36} (hc : t.cnt ≤ 1048576) (f : Int) : H1 t f = some (E9 f t) := C7 (g := fun n => C3 n t f) (fun n r h => IB n t f r h) (PR f (SizeOf.sizeOf t + 1) t (by omega) hc)
theorem RU : ∀ (R S : List Int),R.Nodup → (∀ x ∈ R,x ∈ S) → R.length ≤ S.length
  | [],_,_,_ => Nat.zero_le _
  | x :: R,S,h,hs => by
    obtain ⟨h1,h2⟩ := List.nodup_cons.1 h
    have hx := hs x (List.mem_cons_self ..)
    have ih := RU R (S.erase x) h2 fun y hy => (List.mem_erase_of_ne (fun e => h1 (by rw [← e]; exact hy))).2 (hs y (List.mem_cons_of_mem _ hy))
    rw [List.length_erase_of_mem hx] at ih
    have := List.length_pos_of_mem hx
    rw [List.length_cons]; omega
def gt (a : Int × Int × PK) (f : Int) : Int := if f = 0 then a.2.2.1 else if f = 1 then a.2.2.2.1 else if f = 2 then a.2.2.2.2.1 else if f = 3 then a.2.2.2.2.2 else if f = 4 then a.2.1 else if f = 5 then a.1 else -1
theorem wU {p : PK} {f : Int} (h : 0 ≤ f ∧ f < 4) (s q : Int) : ix [p.1,p.2.1,p.2.2.1,p.2.2.2] f = some (gt (s,q,p) f) := by
  have : f = 0 ∨ f = 1 ∨ f = 2 ∨ f = 3 := by omega
  rcases this with rfl | rfl | rfl | rfl <;> rfl
theorem nC (f s q : Int) (p : PK) : KT f s q p = some (gt (s,q,p) f) := by
  unfold KT
  by_cases c4 : f = 4
  · subst c4; rfl
  · rw [if_neg c4]
    by_cases c5 : f = 5
    · subst c5; rfl
    · rw [if_neg c5]
      by_cases c : 0 ≤ f ∧ f ≤ 5
      · have h4 : 0 ≤ f ∧ f < 4 := by omega
        rw [if_pos (by unfold Fh; simp; exact c)]
        unfold IZ
        rw [if_neg (by unfold DD; simp; omega),wU h4 s q]; rfl
      · rw [if_neg (by unfold Fh; simp; omega)]
        unfold gt
        rw [if_neg (by omega),if_neg (by omega),if_neg (by omega),if_neg (by omega),if_neg (by omega),if_neg (by omega)]
def Re (a : Int × Int × PK) (k f v : Int) (bs : List Bool) : Bool :=
  if k = 1 then true else if k = 3 then decide ((0 ≤ f ∧ f ≤ 5) ∧ gt a f = v) else if k = 4 then (match bs with | [] => false | b :: _ => !b) else if k = 5 then bs.all id else if k = 6 then bs.any id else false
def HR (a : Int × Int × PK) : Tr36 → Bool
  | .mk k f v l => Re a k f v (l.map (HR a))
theorem Kl (a : Int × Int × PK) (t : Tr36) : HR a t = Re a t.un.1 t.un.2.1 t.un.2.2.1 (t.un.2.2.2.map (HR a)) := by cases t; rw [HR]; rfl
theorem Ki {α : Type} (l : List α) (q : α → Bool) (step : Int → Option (Int ⊕ (Unit ⊕ Int)))
    (hs : ∀ k (hk : k < l.length),step (k : Int) = if q l[k] = true then some (.inr (.inr (k : Int))) else some (.inl ((k + 1 : Nat) : Int)))
    (he : step (l.length : Int) = some (.inr (.inl ()))) : ∃ i : Int,Hc (Ac step 0) (fun _ => some (-1)) = some i ∧ decide (0 ≤ i) = l.any q := by
  have key : ∀ (d k : Nat),k + d = l.length → (∀ x ∈ l.take k,q x = false) → ∃ i : Int,Hc (Ac step (k : Int)) (fun _ => some (-1)) = some i ∧ decide (0 ≤ i) = l.any q := by
    intro d
    induction d with
    | zero =>
      intro k hk hn
      rw [List.take_of_length_le (by omega)] at hn
      refine ⟨-1,by rw [show (k : Int) = (l.length : Int) by omega,Af he]; rfl, ?_⟩
      rw [decide_eq_false (by omega)]
      exact (List.any_eq_false.2 fun x hx => by rw [hn x hx]; simp).symm
    | succ d ih =>
      intro k hk hn
      have hkl : k < l.length := by omega
      have hst := hs k hkl
      by_cases c : q l[k] = true
      · rw [if_pos c] at hst
        refine ⟨(k : Int),by rw [Af hst]; rfl, ?_⟩
        rw [decide_eq_true (by omega)]
        exact (List.any_eq_true.2 ⟨_,List.getElem_mem hkl,c⟩).symm
      · rw [if_neg c] at hst
        rw [AH hst]
        refine ih (k + 1) (by omega) fun x hx => ?_
        rw [List.take_succ_eq_append_getElem hkl] at hx
        rcases List.mem_append.1 hx with h | h
        · exact hn x h
        · rw [List.mem_singleton.1 h]; simpa using c
  exact key l.length 0 (by omega) (by simp)
theorem aN (a : Int × Int × PK) : ∀ (n : Nat) (t : Tr36),SizeOf.sizeOf t < n → t.cnt ≤ 1048576 → A5 n a t = some (HR a t)
  | 0,t,h,_ => absurd h (Nat.not_lt_zero _)
  | n + 1,t,h,hc => by
    have hl := nH t
    have hx : ∀ x ∈ t.un.2.2.2,A5 n a x = some (HR a x) := fun x hm => aN a n x (by have := OO hm; omega) (Nat.le_trans (j6 hm) hc)
    show Bn (A5 n) a t = _
    rw [Kl]
    unfold Bn Re
    by_cases c1 : t.un.1 = 1
    · rw [if_pos c1,if_pos c1]
    rw [if_neg c1,if_neg c1]
    by_cases c3 : t.un.1 = 3
    · rw [if_pos c3,if_pos c3,nC]
      unfold Fh
      rw [← Bool.decide_and]
      by_cases k : 0 ≤ t.un.2.1 ∧ t.un.2.1 ≤ 5
      · rw [if_pos (decide_eq_true k),Option.bind_some,Option.bind_some]
        exact congrArg some (decide_eq_decide.2 ⟨fun h => ⟨k,h⟩,fun h => h.2⟩)
      · rw [if_neg (by simpa using k),Option.bind_some,decide_eq_false (fun h => k h.1)]
    rw [if_neg c3,if_neg c3]
    by_cases c4 : t.un.1 = 4
    · rw [if_pos c4,if_pos c4]
      cases hll : t.un.2.2.2 with
      | nil => rfl
      | cons y l =>
        rw [if_pos (by simp only [List.length_cons]; omega),show ix (y :: l) 0 = some y from Bh (k := 0) rfl,Option.bind_some]
        unfold BE
        rw [hx y (by rw [hll]; exact List.mem_cons_self ..)]; rfl
    rw [if_neg c4,if_neg c4]
    by_cases c5 : t.un.1 = 5
    · rw [if_pos c5,if_pos c5]
      obtain ⟨i,i1,i2⟩ := Ki t.un.2.2.2 (fun x => !HR a x) (Av (A5 n) t.un.2.2.2 a) (fun k hk => by
        rw [Av,if_pos (by omega),Bh (List.getElem?_eq_getElem hk),Option.bind_some]
        unfold BE
        rw [hx _ (List.getElem_mem hk),Option.bind_some,Option.bind_some,Ab (by omega)]; rfl) (by rw [Av,if_neg (by omega)])
      unfold AO AK
      rw [i1,Option.bind_some,Option.bind_some,i2,List.all_map]
      congr 1
      rw [List.any_eq_not_all_not]
      simp only [Bool.not_not]
      rfl
    rw [if_neg c5,if_neg c5]
    by_cases c6 : t.un.1 = 6
    · rw [if_pos c6,if_pos c6]
      obtain ⟨i,i1,i2⟩ := Ki t.un.2.2.2 (fun x => HR a x) (Aw (A5 n) t.un.2.2.2 a) (fun k hk => by
        rw [Aw,if_pos (by omega),Bh (List.getElem?_eq_getElem hk),Option.bind_some,hx _ (List.getElem_mem hk),Option.bind_some,Ab (by omega)]; rfl) (by rw [Aw,if_neg (by omega)])
      unfold AQ AL
      rw [i1,Option.bind_some,Option.bind_some,i2,List.any_map]; rfl
    rw [if_neg c6,if_neg c6]
theorem eQ {t : Tr36} (hc : t.cnt ≤ 1048576) (s q : Int) (p : PK) : GG t s q p = some (HR (s,q,p) t) := by
  unfold GG
  rw [show Ep (s,q,p) t = some (HR (s,q,p) t) from C7 (g := fun n => A5 n (s,q,p) t) (fun n r h => F8 n (s,q,p) t r h) (aN _ (SizeOf.sizeOf t + 1) t (by omega) hc)]; rfl
end Go.Proofs.YtgoifghhcekahaaGreatDoor
namespace Go.Proofs.YtgoifghhcekahaaGreatDoor
set_option linter.unusedVariables false
set_option linter.unusedSimpArgs false
open Go Go.RowKit
def th : Tr36 → Tr28
  | .mk k f v l => .mk k f v (l.map th)
theorem rU (t : Tr36) : th t = Tr28.of (t.un.1,t.un.2.1,t.un.2.2.1,t.un.2.2.2.map th) := by cases t; rw [th]; rfl
theorem lJ (t : Tr28) : Tr28.of t.un = t := by cases t; rfl
theorem eC (t : Tr36) : Tr36.of t.un = t := by cases t; rfl
theorem iG : ∀ (n : Nat) (t : Tr28),SizeOf.sizeOf t < n → th (mi t) = t
  | 0,t,h => absurd h (Nat.not_lt_zero _)
  | n + 1,t,h => by
    rw [rU,Xb]
    show Tr28.of (t.un.1,t.un.2.1,t.un.2.2.1,(t.un.2.2.2.map mi).map th) = t
    rw [List.map_map,show t.un.2.2.2.map (th ∘ mi) = t.un.2.2.2 from map_id_in fun x hx => iG n x (by have := VS hx; omega)]
    exact lJ t
where map_id_in {α : Type} {g : α → α} : ∀ {l : List α},(∀ x ∈ l,g x = x) → l.map g = l
  | [],_ => rfl
  | x :: l,h => by rw [List.map_cons,h x (List.mem_cons_self ..),map_id_in fun y hy => h y (List.mem_cons_of_mem _ hy)]
theorem th_mi' (t : Tr28) : th (mi t) = t := iG (SizeOf.sizeOf t + 1) t (by omega)
theorem jY {a b : Tr28} (h : mi a = mi b) : a = b := by rw [← th_mi' a,h,th_mi' b]
theorem Xp : ∀ (n : Nat) (t : Tr36),SizeOf.sizeOf t < n → t.cnt ≤ 1048576 → Ew n t = some (t.cnt : Int)
  | 0,t,h,_ => absurd h (Nat.not_lt_zero _)
  | n + 1, t, h, hc => by
    have hl := nH t
    have hcc := Ja t
    show Eo (Ew n) t = _
    unfold Eo
    obtain ⟨o,h1,h2⟩ := DW t.un.2.2.2.length (fun (o : Int) (i : Nat) => (o,(i : Int))) (Dm (Ew n) t) id (fun o i => o = 1 + (((t.un.2.2.2.take i).map Tr36.cnt).sum : Nat))
      (fun o i hi ho => by
        have hm := List.getElem_mem hi
        have hx := Xp n t.un.2.2.2[i] (by have := OO hm; omega) (Nat.le_trans (j6 hm) hc)
        have hs : ((t.un.2.2.2.take (i + 1)).map Tr36.cnt).sum = ((t.un.2.2.2.take i).map Tr36.cnt).sum + t.un.2.2.2[i].cnt := by
          rw [List.take_succ_eq_append_getElem hi,List.map_append,List.sum_append]; simp
        have hle := Iw (g := Tr36.cnt) t.un.2.2.2 (i + 1)
        refine ⟨o + (t.un.2.2.2[i].cnt : Int), ?_,by rw [ho,hs]; omega⟩
        rw [Dm,if_pos (by omega),Bh (List.getElem?_eq_getElem hi),Option.bind_some,hx,Option.bind_some,Ab (by rw [ho]; omega),Ab (by omega)]; rfl)
      (fun o _ => by rw [Dm,if_neg (by omega)]; rfl) 1 (by simp)
    rw [List.take_length] at h1
    have h2' : Ac (Dm (Ew n) t) (1,0) = some o := h2
    rw [h2',h1,Option.bind_some,hcc]
    congr 1
theorem Y4 {t : Tr36} (hc : t.cnt ≤ 1048576) : LP t = some (t.cnt : Int) := C7 (g := fun n => Ew n t) (fun n r h => Lf n t r h) (Xp (SizeOf.sizeOf t + 1) t (by omega) hc)
def mx : List Nat → Nat
  | [] => 0
  | a :: l => max a (mx l)
theorem RM {l : List Nat} {a : Nat} (h : a ∈ l) : a ≤ mx l := by
  induction l with
  | nil => cases h
  | cons x l ih =>
    rcases List.mem_cons.1 h with e | h
    · rw [e]; exact Nat.le_max_left _ _
    · exact Nat.le_trans (ih h) (Nat.le_max_right _ _)
theorem PO {l : List Nat} {b : Nat} (h : ∀ a ∈ l,a ≤ b) : mx l ≤ b := by
  induction l with
  | nil => exact Nat.zero_le _
  | cons x l ih => exact Nat.max_le.2 ⟨h x (List.mem_cons_self ..),ih fun a ha => h a (List.mem_cons_of_mem _ ha)⟩
theorem Xy (l : List Nat) (a : Nat) : mx (l ++ [a]) = max (mx l) a := by
  induction l with
  | nil => simp [mx]
  | cons x l ih => rw [List.cons_append,mx,ih,mx,Nat.max_assoc]
def dp : Tr36 → Nat
  | .mk _ _ _ l => 1 + mx (l.map dp)
theorem Q3 (t : Tr36) : dp t = 1 + mx (t.un.2.2.2.map dp) := by cases t; rw [dp]; rfl
theorem cL : ∀ (n : Nat) (t : Tr36),SizeOf.sizeOf t < n → dp t ≤ t.cnt
  | 0,t,h => absurd h (Nat.not_lt_zero _)
  | n + 1,t,h => by
    rw [Q3,Ja]
    have : mx (t.un.2.2.2.map dp) ≤ (t.un.2.2.2.map Tr36.cnt).sum := PO fun a ha => by
      obtain ⟨x,hx,rfl⟩ := List.mem_map.1 ha
      exact Nat.le_trans (cL n x (by have := OO hx; omega)) (Kh (g := Tr36.cnt) hx)
    omega
theorem rP (t : Tr28) : dp (mi t) = 1 + mx (t.un.2.2.2.map fun x => dp (mi x)) := by rw [Q3,Xb,List.map_map]; rfl
theorem dV (t : Tr28) : (mi t).cnt = t.cnt := bW (SizeOf.sizeOf t + 1) t (by omega)
theorem Xu : ∀ (n : Nat) (t : Tr28),SizeOf.sizeOf t < n → t.cnt ≤ 1048576 → E7 n t = some (dp (mi t) : Int)
  | 0,t,h,_ => absurd h (Nat.not_lt_zero _)
  | n + 1, t, h, hc => by
    have hl := pW t
    show ES (E7 n) t = _
    unfold ES
    obtain ⟨o,h1,h2⟩ := DW t.un.2.2.2.length (fun (o : Int) (i : Nat) => (o,(i : Int))) (DM (E7 n) t) id (fun o i => o = 1 + (mx ((t.un.2.2.2.take i).map fun x => dp (mi x)) : Nat))
      (fun o i hi ho => by
        have hm := List.getElem_mem hi
        have hx := Xu n t.un.2.2.2[i] (by have := VS hm; omega) (Nat.le_trans (nS hm) hc)
        have hd := cL (SizeOf.sizeOf (mi t.un.2.2.2[i]) + 1) (mi t.un.2.2.2[i]) (by omega)
        rw [dV] at hd
        have hcl := nS hm
        refine ⟨max o (dp (mi t.un.2.2.2[i]) + 1 : Int), ?_,by rw [ho,List.take_succ_eq_append_getElem hi,List.map_append,List.map_cons,List.map_nil,Xy]; omega⟩
        rw [DM,if_pos (by omega),Bh (List.getElem?_eq_getElem hi),Option.bind_some,hx,Option.bind_some,Ab (by omega)]
        by_cases q : o < (dp (mi t.un.2.2.2[i]) : Int) + 1
        · rw [if_pos q,Option.bind_some,hx,Option.bind_some,Ab (by omega),Option.bind_some,Ab (by omega)]
          rw [show max o ((dp (mi t.un.2.2.2[i]) : Int) + 1) = (dp (mi t.un.2.2.2[i]) : Int) + 1 by omega]; rfl
        · rw [if_neg q,Option.bind_some,Ab (by omega)]
          rw [show max o ((dp (mi t.un.2.2.2[i]) : Int) + 1) = o by omega]; rfl)
      (fun o _ => by rw [DM,if_neg (by omega)]; rfl) 1 (by simp [mx])
    rw [List.take_length] at h1
    have h2' : Ac (DM (E7 n) t) (1,0) = some o := h2
    rw [h2',h1,Option.bind_some,rP]
    exact congrArg some (by omega)
theorem bJ {t : Tr28} (hc : t.cnt ≤ 1048576) : NK t = some (dp (mi t) : Int) := C7 (g := fun n => E7 n t) (fun n r h => Mc n t r h) (Xu (SizeOf.sizeOf t + 1) t (by omega) hc)
theorem n8 {a b : Tr36} (h1 : a.un.1 = b.un.1) (h2 : a.un.2.1 = b.un.2.1) (h3 : a.un.2.2.1 = b.un.2.2.1) (h4 : a.un.2.2.2 = b.un.2.2.2) : a = b := by
  rw [← eC a, ← eC b]
  show Tr36.mk _ _ _ _ = Tr36.mk _ _ _ _
  rw [h1,h2,h3,h4]
theorem n5 {a b : Tr28} (h1 : a.un.1 = b.un.1) (h2 : a.un.2.1 = b.un.2.1) (h3 : a.un.2.2.1 = b.un.2.2.1) (h4 : a.un.2.2.2 = b.un.2.2.2) : a = b := by
  rw [← lJ a, ← lJ b]
  show Tr28.mk _ _ _ _ = Tr28.mk _ _ _ _
  rw [h1,h2,h3,h4]
theorem Pd {α : Type} {l m : List α} (hl : l.length = m.length) : (∃ k,k < l.length ∧ l[k]? ≠ m[k]?) ↔ l ≠ m := by
  constructor
  · rintro ⟨k,_,h⟩ rfl; exact h rfl
  · intro h
    refine Classical.byContradiction fun hn => h (List.ext_getElem? fun k => ?_)
    by_cases hk : k < l.length
    · exact Classical.byContradiction fun h2 => hn ⟨k,hk,h2⟩
    · rw [List.getElem?_eq_none (by omega),List.getElem?_eq_none (by omega)]
open Classical in
theorem WG : ∀ (n : Nat) (a b : Tr36),SizeOf.sizeOf a < n → a.cnt ≤ 1048576 → EW n a b = some (decide (a = b))
  | 0,a,b,h,_ => absurd h (Nat.not_lt_zero _)
  | n + 1, a, b, h, hc => by
    have hl := nH a
    show FI (EW n) a b = _
    unfold FI
    by_cases c1 : a.un.1 = b.un.1
    · rw [if_pos c1]
      by_cases c2 : a.un.2.1 = b.un.2.1
      · rw [if_pos c2]
        by_cases c3 : a.un.2.2.1 = b.un.2.2.1
        · rw [if_pos c3]
          unfold Al
          by_cases c4 : a.un.2.2.2.length = b.un.2.2.2.length
          · rw [if_neg (by omega)]
            rw [Kr a.un.2.2.2.length (Ah (EW n) a.un.2.2.2 b.un.2.2.2) (fun k => a.un.2.2.2[k]? ≠ b.un.2.2.2[k]?) false (fun k hk => by
              have hm := List.getElem_mem hk
              have hkb : k < b.un.2.2.2.length := by omega
              have hx := WG n a.un.2.2.2[k] b.un.2.2.2[k] (by have := OO hm; omega) (Nat.le_trans (j6 hm) hc)
              rw [Ah,if_pos (by omega),Bh (List.getElem?_eq_getElem hk),Option.bind_some,Bh (List.getElem?_eq_getElem hkb),Option.bind_some,hx,Option.bind_some,Ab (by omega)]
              by_cases e : a.un.2.2.2[k] = b.un.2.2.2[k]
              · rw [decide_eq_true e,if_neg (by decide),if_neg (by rw [List.getElem?_eq_getElem hk,List.getElem?_eq_getElem hkb,e]; simp)]; rfl
              · rw [decide_eq_false e,if_pos (by decide),if_pos (by rw [List.getElem?_eq_getElem hk,List.getElem?_eq_getElem hkb]; simpa using e)]) (by rw [Ah,if_neg (by omega)])]
            by_cases e : a.un.2.2.2 = b.un.2.2.2
            · rw [if_neg (fun hh => (Pd c4).1 hh e),decide_eq_true (n8 c1 c2 c3 e)]; rfl
            · rw [if_pos ((Pd c4).2 e),decide_eq_false (fun hh => e (by rw [hh]))]; rfl
          · rw [if_pos (by omega),decide_eq_false (fun hh => c4 (by rw [hh]))]; rfl
        · rw [if_neg c3,decide_eq_false (fun hh => c3 (by rw [hh]))]; rfl
      · rw [if_neg c2,decide_eq_false (fun hh => c2 (by rw [hh]))]; rfl
    · rw [if_neg c1,decide_eq_false (fun hh => c1 (by rw [hh]))]; rfl
open Classical in
theorem bM {a b : Tr36} (hc : a.cnt ≤ 1048576) : LT a b = some (decide (a = b)) := C7 (g := fun n => EW n a b) (fun n r h => Lg n a b r h) (WG (SizeOf.sizeOf a + 1) a b (by omega) hc)
open Classical in
theorem WH : ∀ (n : Nat) (a b : Tr28),SizeOf.sizeOf a < n → a.cnt ≤ 2097152 → FK n a b = some (decide (a = b))
  | 0,a,b,h,_ => absurd h (Nat.not_lt_zero _)
  | n + 1,a,b,h,hc => by
    have hl := pW a
    show EV (FK n) a b = _
    unfold EV
    by_cases c : a.un.1 = b.un.1 ∧ a.un.2.1 = b.un.2.1 ∧ a.un.2.2.1 = b.un.2.2.1 ∧ a.un.2.2.2.length = b.un.2.2.2.length
    · obtain ⟨c1,c2,c3,c4⟩ := c
      rw [if_neg (by simp [c1,c2,c3,c4])]
      rw [Kr a.un.2.2.2.length (ET (FK n) a b) (fun k => a.un.2.2.2[k]? ≠ b.un.2.2.2[k]?) false (fun k hk => by
        have hm := List.getElem_mem hk
        have hkb : k < b.un.2.2.2.length := by omega
        have hx := WH n a.un.2.2.2[k] b.un.2.2.2[k] (by have := VS hm; omega) (Nat.le_trans (nS hm) hc)
        rw [ET,if_pos (by omega),Bh (List.getElem?_eq_getElem hk),Option.bind_some,Bh (List.getElem?_eq_getElem hkb),Option.bind_some,hx,Option.bind_some,Ab (by omega)]
        by_cases e : a.un.2.2.2[k] = b.un.2.2.2[k]
        · rw [decide_eq_true e,if_neg (by decide),if_neg (by rw [List.getElem?_eq_getElem hk,List.getElem?_eq_getElem hkb,e]; simp)]; rfl
        · rw [decide_eq_false e,if_pos (by decide),if_pos (by rw [List.getElem?_eq_getElem hk,List.getElem?_eq_getElem hkb]; simpa using e)]) (by rw [ET,if_neg (by omega)])]
      by_cases e : a.un.2.2.2 = b.un.2.2.2
      · rw [if_neg (fun hh => (Pd c4).1 hh e),decide_eq_true (n5 c1 c2 c3 e)]; rfl
      · rw [if_pos ((Pd c4).2 e),decide_eq_false (fun hh => e (by rw [hh]))]; rfl
    · rw [if_pos (by simp only [Bool.or_eq_true,decide_eq_true_eq]; omega),decide_eq_false (fun hh => c (by rw [hh]; exact ⟨rfl,rfl,rfl,rfl⟩))]
open Classical in
theorem ZO {a b : Tr28} (hc : a.cnt ≤ 2097152) : KI a b = some (decide (a = b)) := C7 (g := fun n => FK n a b) (fun n r h => Mn n a b r h) (WH (SizeOf.sizeOf a + 1) a b (by omega) hc)
theorem Z9 (f : Int) : KR f = some (Df f) := by
  unfold KR Df
  by_cases c : (decide (f = 4) || decide (f = 5)) = true
  · rw [if_pos c,if_pos c]
  · rw [if_neg c,if_neg c]
    unfold IR I5 Ks
    by_cases c2 : f = 2
    · subst c2; rfl
    by_cases c0 : f = 0
    · subst c0; rfl
    by_cases c1 : f = 1
    · subst c1; rfl
    by_cases c3 : f = 3
    · subst c3; rfl
    rw [if_neg c0,if_neg c1,decide_eq_false c3,Option.bind_some,if_neg (by decide),if_neg c2,if_neg c2,if_neg (by simp [c0,c1,c3])]; rfl
theorem S9 (f : Int) : 0 ≤ Df f ∧ Df f ≤ 255 := by
  unfold Df Ks
  split
  · omega
  · split
    · omega
    · split <;> omega
abbrev Ge (k f v : Int) (n : Nat) : Prop := 1 ≤ k ∧ k ≤ 6 ∧ (k ≠ 3 → f = 0 ∧ v = 0) ∧ (k = 3 → 0 ≤ f ∧ f ≤ 5 ∧ 0 ≤ v ∧ v ≤ Df f) ∧ (k ≤ 3 → n = 0) ∧ (k = 4 → n = 1) ∧ (5 ≤ k → 2 ≤ n ∧ n ≤ 8)
theorem aQ (t : Tr36) : JD t = some (decide (Ge t.un.1 t.un.2.1 t.un.2.2.1 t.un.2.2.2.length)) := by
  unfold JD
  by_cases c3 : t.un.1 = 3
  · rw [if_pos c3]
    unfold Fh
    rw [← Bool.decide_and]
    by_cases k : 0 ≤ t.un.2.1 ∧ t.un.2.1 ≤ 5
    · rw [if_pos (decide_eq_true k)]
      by_cases v0 : 0 ≤ t.un.2.2.1
      · rw [if_pos v0,Z9,Option.bind_some]
        by_cases v1 : t.un.2.2.1 ≤ Df t.un.2.1
        · rw [if_pos v1,Option.bind_some]
          exact congrArg some (decide_eq_decide.2 ⟨fun h => by unfold Ge; omega,fun h => by unfold Ge at h; omega⟩)
        · rw [if_neg v1,Option.bind_some,decide_eq_false (fun h => by unfold Ge at h; omega)]
      · rw [if_neg v0,Option.bind_some,decide_eq_false (fun h => by unfold Ge at h; omega)]
    · rw [if_neg (by simpa using k),Option.bind_some,decide_eq_false (fun h => by unfold Ge at h; omega)]
  · rw [if_neg c3]
    by_cases z : t.un.2.1 = 0 ∧ t.un.2.2.1 = 0
    · rw [if_neg (by simp [z.1,z.2])]
      by_cases c1 : t.un.1 = 1
      · rw [if_pos c1,Option.bind_some,if_pos rfl]
        exact congrArg some (decide_eq_decide.2 ⟨fun h => by unfold Ge; omega,fun h => by unfold Ge at h; omega⟩)
      · rw [if_neg c1,Option.bind_some]
        by_cases c2 : t.un.1 = 2
        · rw [if_pos (decide_eq_true c2)]
          exact congrArg some (decide_eq_decide.2 ⟨fun h => by unfold Ge; omega,fun h => by unfold Ge at h; omega⟩)
        · rw [if_neg (by simpa using c2)]
          by_cases c4 : t.un.1 = 4
          · rw [if_pos c4]
            exact congrArg some (decide_eq_decide.2 ⟨fun h => by unfold Ge; omega,fun h => by unfold Ge at h; omega⟩)
          · rw [if_neg c4]
            by_cases c5 : t.un.1 = 5
            · rw [if_pos c5,Option.bind_some,if_pos rfl, ← Bool.decide_and]
              exact congrArg some (decide_eq_decide.2 ⟨fun h => by unfold Ge; omega,fun h => by unfold Ge at h; omega⟩)
            · rw [if_neg c5,Option.bind_some]
              by_cases c6 : t.un.1 = 6
              · rw [if_pos (decide_eq_true c6), ← Bool.decide_and]
                exact congrArg some (decide_eq_decide.2 ⟨fun h => by unfold Ge; omega,fun h => by unfold Ge at h; omega⟩)
              · rw [if_neg (by simpa using c6),decide_eq_false (fun h => by unfold Ge at h; omega)]
    · rw [if_pos (by simp only [Bool.or_eq_true,decide_eq_true_eq]; omega),decide_eq_false (fun h => by unfold Ge at h; omega)]
def Hu : Tr36 → Bool
  | .mk k f v l => decide (Ge k f v l.length) && (l.map Hu).all id
theorem Gn (t : Tr36) : Hu t = true ↔ Ge t.un.1 t.un.2.1 t.un.2.2.1 t.un.2.2.2.length ∧ ∀ x ∈ t.un.2.2.2,Hu x = true := by
  cases t with
  | mk k f v l =>
    rw [Hu,Bool.and_eq_true,decide_eq_true_eq,List.all_map,List.all_eq_true]; rfl
abbrev Mz (t : Tr36) (b d : Int) : Prop := Hu t = true ∧ (dp t : Int) ≤ d ∧ (t.cnt : Int) ≤ b
theorem UY : ∀ (n : Nat) (t : Tr36),SizeOf.sizeOf t < n → t.cnt ≤ 1048576 → ∀ b d : Int,0 ≤ b → b ≤ 1000 → 0 ≤ d → d ≤ 1000 →
    (Mz t b d → AZ n b t d = some (true,b - t.cnt)) ∧ (¬ Mz t b d → ∃ b',AZ n b t d = some (false,b'))
  | 0,t,h,_ => absurd h (Nat.not_lt_zero _)
  | n + 1, t, h, hc => by
    intro b d b0 b1 d0 d1
    have hl := nH t
    have hcc := Ja t
    have hde := Q3 t
    have hst : AZ (n + 1) b t d = BZ (AZ n) b t d := rfl
    rw [hst]
    unfold BZ
    rw [Ab (by omega)]
    by_cases g1 : b - 1 < 0
    · rw [if_pos g1,Option.bind_some,if_pos rfl]
      exact ⟨fun hk => by have := hk.2.2; omega,fun _ => ⟨_,rfl⟩⟩
    rw [if_neg g1]
    by_cases g2 : d < 1
    · rw [if_pos g2,Option.bind_some,if_pos rfl]
      exact ⟨fun hk => by have := hk.2.1; omega,fun _ => ⟨_,rfl⟩⟩
    rw [if_neg g2,aQ,Option.bind_some,Option.bind_some]
    by_cases g3 : Ge t.un.1 t.un.2.1 t.un.2.2.1 t.un.2.2.2.length
    · rw [decide_eq_true g3,if_neg (by decide)]
      have key : ∀ (m i : Nat),i + m = t.un.2.2.2.length → (∀ x ∈ t.un.2.2.2.take i,Hu x = true ∧ (dp x : Int) ≤ d - 1) → (((t.un.2.2.2.take i).map Tr36.cnt).sum : Int) ≤ b - 1 →
          (Mz t b d → Hc (Ac (AR (AZ n) t d) ((i : Int),b - 1 - (((t.un.2.2.2.take i).map Tr36.cnt).sum : Nat))) (fun x3 => some (true,x3)) = some (true,b - t.cnt)) ∧ (¬ Mz t b d → ∃ b',Hc (Ac (AR (AZ n) t d) ((i : Int),b - 1 - (((t.un.2.2.2.take i).map Tr36.cnt).sum : Nat))) (fun x3 => some (true,x3)) = some (false,b')) := by
        intro m
        induction m with
        | zero =>
          intro i hi hx hs
          have e0 : t.un.2.2.2.take i = t.un.2.2.2 := List.take_of_length_le (by omega)
          rw [e0] at hx hs ⊢
          have hend : Ac (AR (AZ n) t d) ((i : Int),b - 1 - ((t.un.2.2.2.map Tr36.cnt).sum : Nat)) = some (.inl (b - 1 - ((t.un.2.2.2.map Tr36.cnt).sum : Nat))) := Af (by rw [AR,if_neg (by omega)])
          have hok : Mz t b d := ⟨(Gn t).2 ⟨g3,fun x hm => (hx x hm).1⟩,by
            have : mx (t.un.2.2.2.map dp) ≤ (d - 1).toNat := PO fun a ha => by
              obtain ⟨x,hm,rfl⟩ := List.mem_map.1 ha
              have := (hx x hm).2
              omega
            omega,by omega⟩
          refine ⟨fun _ => ?_,fun hn => absurd hok hn⟩
          rw [hend]
          show some (true,b - 1 - ((t.un.2.2.2.map Tr36.cnt).sum : Nat)) = _
          rw [hcc]
          congr 2; omega
        | succ m ih =>
          intro i hi hx hs
          have hil : i < t.un.2.2.2.length := by omega
          have hm := List.getElem_mem hil
          have hsum : ((t.un.2.2.2.take (i + 1)).map Tr36.cnt).sum = ((t.un.2.2.2.take i).map Tr36.cnt).sum + t.un.2.2.2[i].cnt := by
            rw [List.take_succ_eq_append_getElem hil,List.map_append,List.sum_append]; simp
          have hle := Iw (g := Tr36.cnt) t.un.2.2.2 (i + 1)
          obtain ⟨r1,r2⟩ := UY n t.un.2.2.2[i] (by have := OO hm; omega) (Nat.le_trans (j6 hm) hc) (b - 1 - (((t.un.2.2.2.take i).map Tr36.cnt).sum : Nat)) (d - 1) (by omega) (by omega) (by omega) (by omega)
          by_cases g : Mz t.un.2.2.2[i] (b - 1 - (((t.un.2.2.2.take i).map Tr36.cnt).sum : Nat)) (d - 1)
          · have hstep : AR (AZ n) t d ((i : Int),b - 1 - (((t.un.2.2.2.take i).map Tr36.cnt).sum : Nat)) = some (.inl (((i + 1 : Nat) : Int),b - 1 - (((t.un.2.2.2.take (i + 1)).map Tr36.cnt).sum : Nat))) := by
              rw [AR,if_pos (by omega),Bh (List.getElem?_eq_getElem hil),Option.bind_some,Ab (by omega),r1 g,Option.bind_some,if_neg (show ¬ (!true) = true by decide),Ab (by omega),hsum]
              show some (Sum.inl (_,_)) = _
              congr 3; omega
            rw [AH hstep]
            refine ih (i + 1) (by omega) (fun x hxm => ?_) (by have := g.2.2; omega)
            rw [List.take_succ_eq_append_getElem hil] at hxm
            rcases List.mem_append.1 hxm with hh | hh
            · exact hx x hh
            · rw [List.mem_singleton.1 hh]; exact ⟨g.1,g.2.1⟩
          · obtain ⟨b',hb'⟩ := r2 g
            have hno : ¬ Mz t b d := fun hk => g ⟨((Gn t).1 hk.1).2 _ hm,by
              have h1 := RM (List.mem_map.2 ⟨_,hm,rfl⟩ : dp t.un.2.2.2[i] ∈ t.un.2.2.2.map dp)
              have := hk.2.1
              omega,by have := hk.2.2; omega⟩
            refine ⟨fun hk => absurd hk hno,fun _ => ⟨b', ?_⟩⟩
            rw [Af (e := .inr (false,b')) (by
              rw [AR,if_pos (by omega),Bh (List.getElem?_eq_getElem hil),Option.bind_some,Ab (by omega),hb',Option.bind_some,if_pos (by rfl)])]
            rfl
      have := key t.un.2.2.2.length 0 (by omega) (by simp) (by simp; omega)
      simpa using this
    · rw [decide_eq_false g3,if_pos (by decide)]
      exact ⟨fun hk => absurd ((Gn t).1 hk.1).1 g3,fun _ => ⟨_,rfl⟩⟩
theorem RO {t : Tr36} (hc : t.cnt ≤ 1048576) : Hl t = some (decide (Mz t 64 8)) := by
  obtain ⟨h1,h2⟩ := UY (SizeOf.sizeOf t + 1) t (by omega) hc 64 8 (by omega) (by omega) (by omega) (by omega)
  unfold Hl
  by_cases g : Mz t 64 8
  · rw [show EC 64 t 8 = some (true,(64 - t.cnt : Int)) from C7 (g := fun n => AZ n 64 t 8) (fun n r h => Fj n 64 t 8 r h) (h1 g),decide_eq_true g]; rfl
  · obtain ⟨b',hb⟩ := h2 g
    rw [show EC 64 t 8 = some (false,b') from C7 (g := fun n => AZ n 64 t 8) (fun n r h => Fj n 64 t 8 r h) hb,decide_eq_false g]; rfl
theorem V5 (t : Tr28) : Hu (mi t) = true ↔ Ge t.un.1 t.un.2.1 t.un.2.2.1 t.un.2.2.2.length ∧ ∀ x ∈ t.un.2.2.2,Hu (mi x) = true := by
  rw [Gn,Xb]
  show Ge _ _ _ (t.un.2.2.2.map mi).length ∧ _ ↔ _
  rw [List.length_map]
  refine and_congr_right fun _ => ⟨fun h x hx => h _ (List.mem_map.2 ⟨x,hx,rfl⟩),fun h x hx => ?_⟩
  obtain ⟨y,hy,rfl⟩ := List.mem_map.1 hx
  exact h y hy
theorem WI : ∀ (n : Nat) (t : Tr28),SizeOf.sizeOf t < n → t.cnt ≤ 1048576 → Fc n t = some (Hu (mi t))
  | 0,t,h,_ => absurd h (Nat.not_lt_zero _)
  | n + 1, t, h, hc => by
    have hl := pW t
    have htb := S9 t.un.2.1
    show EZ (Fc n) t = _
    unfold EZ
    have no : ¬ Ge t.un.1 t.un.2.1 t.un.2.2.1 t.un.2.2.2.length → Hu (mi t) = false := fun hn => by
      cases hh : Hu (mi t) with
      | false => rfl
      | true => exact absurd ((V5 t).1 hh).1 hn
    by_cases g1 : (bif decide (t.un.1 ≠ 3) then (decide (t.un.2.1 ≠ 0) || (decide (t.un.2.2.1 ≠ 0) || (decide (t.un.1 < 1) || decide (6 < t.un.1)))) else (decide (t.un.1 < 1) || decide (6 < t.un.1))) = true
    · rw [if_pos g1,no (fun hf => by
        unfold Ge at hf
        by_cases c : t.un.1 = 3
        · simp [c] at g1
        · rw [show decide (t.un.1 ≠ 3) = true from decide_eq_true c] at g1
          simp only [cond_true,Bool.or_eq_true,decide_eq_true_eq] at g1
          omega)]
    rw [if_neg g1]
    by_cases g2 : (decide (t.un.1 = 3) && (decide (t.un.2.1 < 0) || (decide (5 < t.un.2.1) || (decide (t.un.2.2.1 < 0) || decide ((Df t.un.2.1) < t.un.2.2.1))))) = true
    · rw [if_pos g2,no (fun hf => by
        unfold Ge at hf
        simp only [Bool.and_eq_true,Bool.or_eq_true,decide_eq_true_eq] at g2
        omega)]
    rw [if_neg g2]
    by_cases g3 : (bif decide (t.un.1 ≤ 3) then (decide ((t.un.2.2.2.length : Int) ≠ 0) || (bif decide (t.un.1 = 4) then (decide ((t.un.2.2.2.length : Int) ≠ 1) || (decide (5 ≤ t.un.1) && (decide ((t.un.2.2.2.length : Int) < 2) || decide (8 < (t.un.2.2.2.length : Int))))) else (decide (5 ≤ t.un.1) && (decide ((t.un.2.2.2.length : Int) < 2) || decide (8 < (t.un.2.2.2.length : Int)))))) else (bif decide (t.un.1 = 4) then (decide ((t.un.2.2.2.length : Int) ≠ 1) || (decide (5 ≤ t.un.1) && (decide ((t.un.2.2.2.length : Int) < 2) || decide (8 < (t.un.2.2.2.length : Int))))) else (decide (5 ≤ t.un.1) && (decide ((t.un.2.2.2.length : Int) < 2) || decide (8 < (t.un.2.2.2.length : Int)))))) = true
    · rw [if_pos g3,no (fun hf => by
        unfold Ge at hf
        by_cases c : t.un.1 ≤ 3
        · rw [show decide (t.un.1 ≤ 3) = true from decide_eq_true c,show decide (t.un.1 = 4) = false from decide_eq_false (by omega)] at g3
          simp only [cond_true,cond_false,Bool.or_eq_true,Bool.and_eq_true,decide_eq_true_eq] at g3
          omega
        · by_cases c4 : t.un.1 = 4
          · rw [show decide (t.un.1 ≤ 3) = false from decide_eq_false c,show decide (t.un.1 = 4) = true from decide_eq_true c4] at g3
            simp only [cond_true,cond_false,Bool.or_eq_true,Bool.and_eq_true,decide_eq_true_eq] at g3
            omega
          · rw [show decide (t.un.1 ≤ 3) = false from decide_eq_false c,show decide (t.un.1 = 4) = false from decide_eq_false c4] at g3
            simp only [cond_true,cond_false,Bool.or_eq_true,Bool.and_eq_true,decide_eq_true_eq] at g3
            omega)]
    rw [if_neg g3]
    have hfl : Ge t.un.1 t.un.2.1 t.un.2.2.1 t.un.2.2.2.length := by
      simp only [Bool.and_eq_true,Bool.or_eq_true,decide_eq_true_eq,not_and,not_or] at g2
      by_cases c3 : t.un.1 = 3
      · rw [show decide (t.un.1 ≤ 3) = true from decide_eq_true (by omega),show decide (t.un.1 = 4) = false from decide_eq_false (by omega)] at g3
        simp only [cond_true,cond_false,Bool.or_eq_true,Bool.and_eq_true,decide_eq_true_eq] at g3
        have := g2 c3
        unfold Ge; omega
      · by_cases cl : t.un.1 ≤ 3
        · have c4 : ¬ t.un.1 = 4 := by omega
          simp [c3,cl,c4] at g1 g3
          unfold Ge
          have : t.un.2.2.2.length = 0 := by
            rw [List.length_eq_zero_iff]
            exact g3.1
          omega
        · by_cases c4 : t.un.1 = 4
          · simp [c3,cl,c4] at g1 g3
            unfold Ge; omega
          · simp [c3,cl,c4] at g1 g3
            unfold Ge; omega
    have hx : ∀ x ∈ t.un.2.2.2,Fc n x = some (Hu (mi x)) := fun x hm => WI n x (by have := VS hm; omega) (Nat.le_trans (nS hm) hc)
    rw [Kr t.un.2.2.2.length (E2 (Fc n) t) (fun k => ∃ e,t.un.2.2.2[k]? = some e ∧ Hu (mi e) = false) false (fun k hk => by
      rw [E2,if_pos (by omega),Bh (List.getElem?_eq_getElem hk),Option.bind_some,hx _ (List.getElem_mem hk),Option.bind_some,Ab (by omega)]
      cases hq : Hu (mi t.un.2.2.2[k]) with
      | true => rw [if_neg (by decide),if_neg (fun hh => by rw [Pm hk,hq] at hh; cases hh)]; rfl
      | false => rw [if_pos (by decide),if_pos ((Pm hk).2 hq)]) (by rw [E2,if_neg (by omega)])]
    by_cases e : ∃ k,k < t.un.2.2.2.length ∧ ∃ e,t.un.2.2.2[k]? = some e ∧ Hu (mi e) = false
    · rw [if_pos e]
      obtain ⟨x,hxm,hxf⟩ := SR.1 e
      have : Hu (mi t) = false := by
        cases hh : Hu (mi t) with
        | false => rfl
        | true => rw [((V5 t).1 hh).2 x hxm] at hxf; cases hxf
      rw [this]; rfl
    · rw [if_neg e]
      have : Hu (mi t) = true := (V5 t).2 ⟨hfl,fun x hxm => by
        cases hh : Hu (mi x) with
        | true => rfl
        | false => exact absurd (SR.2 ⟨x,hxm,hh⟩) e⟩
      rw [this]; rfl
theorem XL {t : Tr28} (hc : t.cnt ≤ 1048576) : Ho t = some (decide (Mz (mi t) 64 8)) := by
  have hcm := dV t
  unfold Ho
  rw [show Nr t = some (Hu (mi t)) from C7 (g := fun n => Fc n t) (fun n r h => Mq n t r h) (WI (SizeOf.sizeOf t + 1) t (by omega) hc),Option.bind_some]
  by_cases hf : Hu (mi t) = true
  case neg => rw [if_neg hf,Option.bind_some,decide_eq_false (fun h => hf h.1)]
  case pos =>
    rw [if_pos hf,UD hc,Option.bind_some]
    by_cases c : (t.cnt : Int) ≤ 64
    · rw [if_pos c,bJ hc,Option.bind_some,Option.bind_some]
      exact congrArg some (decide_eq_decide.2 ⟨fun h => ⟨hf,h,by omega⟩,fun h => h.2.1⟩)
    · rw [if_neg c,Option.bind_some,decide_eq_false (fun h => by have := h.2.2; omega)]
end Go.Proofs.YtgoifghhcekahaaGreatDoor
