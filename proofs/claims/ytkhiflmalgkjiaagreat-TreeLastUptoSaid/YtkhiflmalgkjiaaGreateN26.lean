/- Layer 31: trees, what is asked. Conditions: none. -/
import Derived.Test.YtkhiflmalgkjiaaGreateNSH
import Derived.Test.YtkhiflmalgkjiaaGreateEV
set_option linter.unusedVariables false
set_option linter.unusedSimpArgs false
open Go Go.RowKit
namespace Go.Proofs.YtkhiflmalgkjiaaGreat
abbrev PK := Int × Int × Int × Int
theorem VZ {t x : Tr24} (h : x ∈ t.un.2.2.2) : SizeOf.sizeOf x < SizeOf.sizeOf t := by
  cases t with
  | mk k f v l =>
    have h' : x ∈ l := h
    have := List.sizeOf_lt_of_mem h'
    simp only [Tr24.mk.sizeOf_spec]; omega
theorem S8 {t x : Tr38} (h : x ∈ t.un.2.2.2) : SizeOf.sizeOf x < SizeOf.sizeOf t := by
  cases t with
  | mk k f v l =>
    have h' : x ∈ l := h
    have := List.sizeOf_lt_of_mem h'
    simp only [Tr38.mk.sizeOf_spec]; omega
theorem WL (t : Tr24) : t.cnt = 1 + (t.un.2.2.2.map Tr24.cnt).sum := by cases t; rw [Tr24.cnt]; rfl
theorem Kg (t : Tr38) : t.cnt = 1 + (t.un.2.2.2.map Tr38.cnt).sum := by cases t; rw [Tr38.cnt]; rfl
theorem LQ {α : Type} {g : α → Nat} : ∀ {l : List α} {x : α},x ∈ l → g x ≤ (l.map g).sum
  | y :: l,x,h => by
    rw [List.map_cons,List.sum_cons]
    rcases List.mem_cons.1 h with e | h
    · rw [e]; omega
    · have := LQ (g := g) h; omega
theorem PC {α : Type} {g : α → Nat} (hg : ∀ x,1 ≤ g x) : ∀ l : List α,l.length ≤ (l.map g).sum
  | [] => Nat.zero_le _
  | y :: l => by
    have := hg y
    have := PC hg l
    rw [List.map_cons,List.sum_cons,List.length_cons]; omega
theorem Jy {α : Type} {g : α → Nat} (l : List α) (i : Nat) : ((l.take i).map g).sum ≤ (l.map g).sum := by
  have h : (l.map g).sum = ((l.take i).map g).sum + ((l.drop i).map g).sum := by
    rw [← List.sum_append, ← List.map_append,List.take_append_drop]
  omega
theorem pE {t x : Tr24} (h : x ∈ t.un.2.2.2) : x.cnt ≤ t.cnt := by rw [WL t]; have := LQ (g := Tr24.cnt) h; omega
theorem oL {t x : Tr38} (h : x ∈ t.un.2.2.2) : x.cnt ≤ t.cnt := by rw [Kg t]; have := LQ (g := Tr38.cnt) h; omega
theorem sH (t : Tr24) : t.un.2.2.2.length + 1 ≤ t.cnt := by rw [WL t]; have := PC (g := Tr24.cnt) (fun x => by rw [WL x]; omega) t.un.2.2.2; omega
theorem sD (t : Tr38) : t.un.2.2.2.length + 1 ≤ t.cnt := by rw [Kg t]; have := PC (g := Tr38.cnt) (fun x => by rw [Kg x]; omega) t.un.2.2.2; omega
def mi : Tr24 → Tr38
  | .mk k f v l => .mk k f v (l.map mi)
theorem Wq (t : Tr24) : (mi t).un = (t.un.1,t.un.2.1,t.un.2.2.1,t.un.2.2.2.map mi) := by cases t; rw [mi]; rfl
theorem uJ (t : Tr24) : mi t = Tr38.of (t.un.1,t.un.2.1,t.un.2.2.1,t.un.2.2.2.map mi) := by cases t; rw [mi]; rfl
theorem fG : ∀ (n : Nat) (t : Tr24),SizeOf.sizeOf t < n → (mi t).cnt = t.cnt
  | 0,t,h => absurd h (Nat.not_lt_zero _)
  | n + 1,t,h => by
    rw [Kg,WL,Wq]
    show 1 + ((t.un.2.2.2.map mi).map Tr38.cnt).sum = _
    rw [List.map_map]
    congr 2
    exact List.map_congr_left fun x hx => fG n x (by have := VZ hx; omega)
theorem fK : ∀ (n : Nat) (t : Tr24),SizeOf.sizeOf t < n → t.cnt ≤ 1048576 → Fc n t = some (mi t)
  | 0,t,h,_ => absurd h (Nat.not_lt_zero _)
  | n + 1,t,h,hc => by
    have hl := sH t
    show EZ (Fc n) t = _
    unfold EZ
    obtain ⟨o,h1,h2⟩ := Dk t.un.2.2.2.length (fun (o : List Tr38) (i : Nat) => ((i : Int),o)) (DA (Fc n) t) id (fun o i => o = (t.un.2.2.2.take i).map mi)
      (fun o i hi ho => by
        have hm := List.getElem_mem hi
        have hx := fK n t.un.2.2.2[i] (by have := VZ hm; omega) (Nat.le_trans (pE hm) hc)
        refine ⟨o ++ [mi t.un.2.2.2[i]], ?_,by rw [ho,List.take_succ_eq_append_getElem hi,List.map_append]; rfl⟩
        rw [DA,if_pos (by omega),A5 (List.getElem?_eq_getElem hi),Option.bind_some,hx,Option.bind_some,Gt (by rw [ho]; simp; omega),Option.bind_some,Ad (by omega)]; rfl)
      (fun o _ => by rw [DA,if_neg (by omega)]; rfl) [] rfl
    rw [List.take_length] at h1
    have h2' : Ah (DA (Fc n) t) (0,[]) = some o := h2
    rw [h2',h1,Option.bind_some, ← uJ]
theorem kY {t : Tr24} (hc : t.cnt ≤ 1048576) : PA t = some (mi t) := B4 (g := fun n => Fc n t) (fun n r h => NR n t r h) (fK (SizeOf.sizeOf t + 1) t (by omega) hc)
theorem Zi : ∀ (n : Nat) (t : Tr24),SizeOf.sizeOf t < n → t.cnt ≤ 1048576 → Fh n t = some (t.cnt : Int)
  | 0,t,h,_ => absurd h (Nat.not_lt_zero _)
  | n + 1, t, h, hc => by
    have hl := sH t
    have hcc := WL t
    show ET (Fh n) t = _
    unfold ET
    obtain ⟨o,h1,h2⟩ := Dk t.un.2.2.2.length (fun (o : Int) (i : Nat) => (o,(i : Int))) (DD (Fh n) t) id (fun o i => o = 1 + (((t.un.2.2.2.take i).map Tr24.cnt).sum : Nat))
      (fun o i hi ho => by
        have hm := List.getElem_mem hi
        have hx := Zi n t.un.2.2.2[i] (by have := VZ hm; omega) (Nat.le_trans (pE hm) hc)
        have hs : ((t.un.2.2.2.take (i + 1)).map Tr24.cnt).sum = ((t.un.2.2.2.take i).map Tr24.cnt).sum + t.un.2.2.2[i].cnt := by
          rw [List.take_succ_eq_append_getElem hi,List.map_append,List.sum_append]; simp
        have hle := Jy (g := Tr24.cnt) t.un.2.2.2 (i + 1)
        refine ⟨o + (t.un.2.2.2[i].cnt : Int), ?_,by rw [ho,hs]; omega⟩
        rw [DD,if_pos (by omega),A5 (List.getElem?_eq_getElem hi),Option.bind_some,hx,Option.bind_some,Ad (by rw [ho]; omega),Ad (by omega)]; rfl)
      (fun o _ => by rw [DD,if_neg (by omega)]; rfl) 1 (by simp)
    rw [List.take_length] at h1
    have h2' : Ah (DD (Fh n) t) (1,0) = some o := h2
    rw [h2',h1,Option.bind_some,hcc]
    congr 1
theorem Wt {t : Tr24} (hc : t.cnt ≤ 1048576) : KW t = some (t.cnt : Int) := B4 (g := fun n => Fh n t) (fun n r h => NY n t r h) (Zi (SizeOf.sizeOf t + 1) t (by omega) hc)
def DS (f : Int) : Tr38 → List Int
  | .mk k g v l => (if k = 3 ∧ g = f then [v] else []) ++ (l.map (DS f)).flatten
theorem J8 (f : Int) (t : Tr38) : DS f t = (if t.un.1 = 3 ∧ t.un.2.1 = f then [t.un.2.2.1] else []) ++ (t.un.2.2.2.map (DS f)).flatten := by cases t; rw [DS]; rfl
theorem Sj {α β : Type} {g : α → List β} {c : α → Nat} : ∀ (l : List α),(∀ x ∈ l,(g x).length ≤ c x) → (l.map g).flatten.length ≤ (l.map c).sum
  | [],_ => Nat.le_refl _
  | x :: l,h => by
    have h1 := h x (List.mem_cons_self ..)
    have h2 := Sj (g := g) (c := c) l fun y hy => h y (List.mem_cons_of_mem _ hy)
    rw [List.map_cons,List.flatten_cons,List.length_append,List.map_cons,List.sum_cons]; omega
theorem Pa (f : Int) : ∀ (n : Nat) (t : Tr38),SizeOf.sizeOf t < n → (DS f t).length ≤ t.cnt
  | 0,t,h => absurd h (Nat.not_lt_zero _)
  | n + 1,t,h => by
    rw [J8,Kg,List.length_append]
    have h2 := Sj (g := DS f) (c := Tr38.cnt) t.un.2.2.2 fun x hx => Pa f n x (by have := S8 hx; omega)
    have h3 : (if t.un.1 = 3 ∧ t.un.2.1 = f then [t.un.2.2.1] else ([] : List Int)).length ≤ 1 := by split <;> simp
    omega
theorem S6 (f : Int) : ∀ (n : Nat) (t : Tr38),SizeOf.sizeOf t < n → t.cnt ≤ 1048576 → Cm n t f = some (DS f t)
  | 0,t,h,_ => absurd h (Nat.not_lt_zero _)
  | n + 1,t,h,hc => by
    have hl := sD t
    have hcc := Kg t
    show Cp (Cm n) t f = _
    unfold Cp
    have e1 : ((if (decide (t.un.1 = 3) && decide (t.un.2.1 = f)) = true then (HT ([] : List Int) ([t.un.2.2.1] : List Int)).bind fun x2 => some x2 else some ([])) : Option (List Int)) = some (if t.un.1 = 3 ∧ t.un.2.1 = f then [t.un.2.2.1] else []) := by
      by_cases c : t.un.1 = 3 ∧ t.un.2.1 = f
      · rw [if_pos (by simp [c.1,c.2]),if_pos c,Gt (by simp)]; rfl
      · rw [if_neg (by simpa using c),if_neg c]
    have h3 : (if t.un.1 = 3 ∧ t.un.2.1 = f then [t.un.2.2.1] else ([] : List Int)).length ≤ 1 := by split <;> simp
    rw [e1,Option.bind_some]
    obtain ⟨o,h1,h2⟩ := Dk t.un.2.2.2.length (fun (o : List Int) (i : Nat) => (o,(i : Int))) (BQ (Cm n) t f) id (fun o i => o = (if t.un.1 = 3 ∧ t.un.2.1 = f then [t.un.2.2.1] else []) ++ ((t.un.2.2.2.take i).map (DS f)).flatten)
      (fun o i hi ho => by
        have hm := List.getElem_mem hi
        have hx := S6 f n t.un.2.2.2[i] (by have := S8 hm; omega) (Nat.le_trans (oL hm) hc)
        have hle := Jy (g := Tr38.cnt) t.un.2.2.2 i
        have hfl := Sj (g := DS f) (c := Tr38.cnt) (t.un.2.2.2.take i) fun x _ => Pa f (SizeOf.sizeOf x + 1) x (by omega)
        have hxl := Pa f (SizeOf.sizeOf t.un.2.2.2[i] + 1) t.un.2.2.2[i] (by omega)
        have hxc := oL hm
        refine ⟨o ++ DS f t.un.2.2.2[i], ?_,by rw [ho,List.take_succ_eq_append_getElem hi,List.map_append,List.flatten_append,List.append_assoc]; simp⟩
        rw [BQ,if_pos (by omega),A5 (List.getElem?_eq_getElem hi),Option.bind_some,hx,Option.bind_some,Gt (by rw [ho,List.length_append]; omega),Option.bind_some,Ad (by omega)]; rfl)
      (fun o _ => by rw [BQ,if_neg (by omega)]; rfl) (if t.un.1 = 3 ∧ t.un.2.1 = f then [t.un.2.2.1] else []) (by simp)
    rw [List.take_length] at h1
    have h2' : Ah (BQ (Cm n) t f) (if t.un.1 = 3 ∧ t.un.2.1 = f then [t.un.2.2.1] else [],0) = some o := h2
    rw [h2',h1,Option.bind_some,J8]
theorem Xn {t : Tr38} (hc : t.cnt ≤ 1048576) (f : Int) : GZ t f = some (DS f t) := B4 (g := fun n => Cm n t f) (fun n r h => HH n t f r h) (S6 f (SizeOf.sizeOf t + 1) t (by omega) hc)
theorem UI : ∀ (R S : List Int),R.Nodup → (∀ x ∈ R,x ∈ S) → R.length ≤ S.length
  | [],_,_,_ => Nat.zero_le _
  | x :: R,S,h,hs => by
    obtain ⟨h1,h2⟩ := List.nodup_cons.1 h
    have hx := hs x (List.mem_cons_self ..)
    have ih := UI R (S.erase x) h2 fun y hy => (List.mem_erase_of_ne (fun e => h1 (by rw [← e]; exact hy))).2 (hs y (List.mem_cons_of_mem _ hy))
    rw [List.length_erase_of_mem hx] at ih
    have := List.length_pos_of_mem hx
    rw [List.length_cons]; omega
def gt (a : Int × Int × PK) (f : Int) : Int := if f = 0 then a.2.2.1 else if f = 1 then a.2.2.2.1 else if f = 2 then a.2.2.2.2.1 else if f = 3 then a.2.2.2.2.2 else if f = 4 then a.2.1 else if f = 5 then a.1 else -1
theorem AaQ {p : PK} {f : Int} (h : 0 ≤ f ∧ f < 4) (s q : Int) : ix [p.1,p.2.1,p.2.2.1,p.2.2.2] f = some (gt (s,q,p) f) := by
  have : f = 0 ∨ f = 1 ∨ f = 2 ∨ f = 3 := by omega
  rcases this with rfl | rfl | rfl | rfl <;> rfl
theorem qZ (f s q : Int) (p : PK) : JG f s q p = some (gt (s,q,p) f) := by
  unfold JG
  by_cases c4 : f = 4
  · subst c4; rfl
  · rw [if_neg c4]
    by_cases c5 : f = 5
    · subst c5; rfl
    · rw [if_neg c5]
      by_cases c : 0 ≤ f ∧ f ≤ 5
      · have h4 : 0 ≤ f ∧ f < 4 := by omega
        rw [if_pos (by unfold D2; simp; exact c)]
        unfold Hw
        rw [if_neg (by unfold C5; simp; omega),AaQ h4 s q]; rfl
      · rw [if_neg (by unfold D2; simp; omega)]
        unfold gt
        rw [if_neg (by omega),if_neg (by omega),if_neg (by omega),if_neg (by omega),if_neg (by omega),if_neg (by omega)]
def VJ (a : Int × Int × PK) (k f v : Int) (bs : List Bool) : Bool :=
  if k = 1 then true else if k = 3 then decide ((0 ≤ f ∧ f ≤ 5) ∧ gt a f = v) else if k = 4 then (match bs with | [] => false | b :: _ => !b) else if k = 5 then bs.all id else if k = 6 then bs.any id else false
def Kl (a : Int × Int × PK) : Tr38 → Bool
  | .mk k f v l => VJ a k f v (l.map (Kl a))
theorem Oj (a : Int × Int × PK) (t : Tr38) : Kl a t = VJ a t.un.1 t.un.2.1 t.un.2.2.1 (t.un.2.2.2.map (Kl a)) := by cases t; rw [Kl]; rfl
theorem UK {α : Type} (l : List α) (q : α → Bool) (step : Int → Option (Int ⊕ (Unit ⊕ Int)))
    (hs : ∀ k (hk : k < l.length),step (k : Int) = if q l[k] = true then some (.inr (.inr (k : Int))) else some (.inl ((k + 1 : Nat) : Int)))
    (he : step (l.length : Int) = some (.inr (.inl ()))) : ∃ i : Int,GO (Ah step 0) (fun _ => some (-1)) = some i ∧ decide (0 ≤ i) = l.any q := by
  have key : ∀ (d k : Nat),k + d = l.length → (∀ x ∈ l.take k,q x = false) → ∃ i : Int,GO (Ah step (k : Int)) (fun _ => some (-1)) = some i ∧ decide (0 ≤ i) = l.any q := by
    intro d
    induction d with
    | zero =>
      intro k hk hn
      rw [List.take_of_length_le (by omega)] at hn
      refine ⟨-1,by rw [show (k : Int) = (l.length : Int) by omega,Ak he]; rfl, ?_⟩
      rw [decide_eq_false (by omega)]
      exact (List.any_eq_false.2 fun x hx => by rw [hn x hx]; simp).symm
    | succ d ih =>
      intro k hk hn
      have hkl : k < l.length := by omega
      have hst := hs k hkl
      by_cases c : q l[k] = true
      · rw [if_pos c] at hst
        refine ⟨(k : Int),by rw [Ak hst]; rfl, ?_⟩
        rw [decide_eq_true (by omega)]
        exact (List.any_eq_true.2 ⟨_,List.getElem_mem hkl,c⟩).symm
      · rw [if_neg c] at hst
        rw [A4 hst]
        refine ih (k + 1) (by omega) fun x hx => ?_
        rw [List.take_succ_eq_append_getElem hkl] at hx
        rcases List.mem_append.1 hx with h | h
        · exact hn x h
        · rw [List.mem_singleton.1 h]; simpa using c
  exact key l.length 0 (by omega) (by simp)
theorem gT (a : Int × Int × PK) : ∀ (n : Nat) (t : Tr38),SizeOf.sizeOf t < n → t.cnt ≤ 1048576 → AW n a t = some (Kl a t)
  | 0,t,h,_ => absurd h (Nat.not_lt_zero _)
  | n + 1,t,h,hc => by
    have hl := sD t
    have hx : ∀ x ∈ t.un.2.2.2,AW n a x = some (Kl a x) := fun x hm => gT a n x (by have := S8 hm; omega) (Nat.le_trans (oL hm) hc)
    show A3 (AW n) a t = _
    rw [Oj]
    unfold A3 VJ
    by_cases c1 : t.un.1 = 1
    · rw [if_pos c1,if_pos c1]
    rw [if_neg c1,if_neg c1]
    by_cases c3 : t.un.1 = 3
    · rw [if_pos c3,if_pos c3,qZ]
      unfold D2
      rw [← Bool.decide_and]
      by_cases k : 0 ≤ t.un.2.1 ∧ t.un.2.1 ≤ 5
      · rw [if_pos (decide_eq_true k),Option.bind_some,Option.bind_some]
        exact congrArg some (decide_eq_decide.2 ⟨fun h => ⟨k,h⟩,fun h => h.2⟩)
      · rw [if_neg (by simpa using k),Option.bind_some,decide_eq_false (fun h => k h.1)]
    rw [if_neg c3,if_neg c3]
    by_cases c4 : t.un.1 = 4
    · rw [if_pos c4,if_pos c4]
      cases hll : t.un.2.2.2 with
      | nil => rfl
      | cons y l =>
        rw [if_pos (by simp only [List.length_cons]; omega),show ix (y :: l) 0 = some y from A5 (k := 0) rfl,Option.bind_some]
        unfold Bn
        rw [hx y (by rw [hll]; exact List.mem_cons_self ..)]; rfl
    rw [if_neg c4,if_neg c4]
    by_cases c5 : t.un.1 = 5
    · rw [if_pos c5,if_pos c5]
      obtain ⟨i,i1,i2⟩ := UK t.un.2.2.2 (fun x => !Kl a x) (Ai (AW n) t.un.2.2.2 a) (fun k hk => by
        rw [Ai,if_pos (by omega),A5 (List.getElem?_eq_getElem hk),Option.bind_some]
        unfold Bn
        rw [hx _ (List.getElem_mem hk),Option.bind_some,Option.bind_some,Ad (by omega)]; rfl) (by rw [Ai,if_neg (by omega)])
      unfold Ax Aq
      rw [i1,Option.bind_some,Option.bind_some,i2,List.all_map]
      congr 1
      rw [List.any_eq_not_all_not]
      simp only [Bool.not_not]
      rfl
    rw [if_neg c5,if_neg c5]
    by_cases c6 : t.un.1 = 6
    · rw [if_pos c6,if_pos c6]
      obtain ⟨i,i1,i2⟩ := UK t.un.2.2.2 (fun x => Kl a x) (Aj (AW n) t.un.2.2.2 a) (fun k hk => by
        rw [Aj,if_pos (by omega),A5 (List.getElem?_eq_getElem hk),Option.bind_some,hx _ (List.getElem_mem hk),Option.bind_some,Ad (by omega)]; rfl) (by rw [Aj,if_neg (by omega)])
      unfold Av Au
      rw [i1,Option.bind_some,Option.bind_some,i2,List.any_map]; rfl
    rw [if_neg c6,if_neg c6]
theorem lC {t : Tr38} (hc : t.cnt ≤ 1048576) (s q : Int) (p : PK) : Fm t s q p = some (Kl (s,q,p) t) := by
  unfold Fm
  rw [show Dl (s,q,p) t = some (Kl (s,q,p) t) from B4 (g := fun n => AW n (s,q,p) t) (fun n r h => El n (s,q,p) t r h) (gT _ (SizeOf.sizeOf t + 1) t (by omega) hc)]; rfl
end Go.Proofs.YtkhiflmalgkjiaaGreat
namespace Go.Proofs.YtkhiflmalgkjiaaGreat
def th : Tr38 → Tr24
  | .mk k f v l => .mk k f v (l.map th)
theorem xD (t : Tr38) : th t = Tr24.of (t.un.1,t.un.2.1,t.un.2.2.1,t.un.2.2.2.map th) := by cases t; rw [th]; rfl
theorem oG (t : Tr24) : Tr24.of t.un = t := by cases t; rfl
theorem iZ (t : Tr38) : Tr38.of t.un = t := by cases t; rfl
theorem mU : ∀ (n : Nat) (t : Tr24),SizeOf.sizeOf t < n → th (mi t) = t
  | 0,t,h => absurd h (Nat.not_lt_zero _)
  | n + 1,t,h => by
    rw [xD,Wq]
    show Tr24.of (t.un.1,t.un.2.1,t.un.2.2.1,(t.un.2.2.2.map mi).map th) = t
    rw [List.map_map,show t.un.2.2.2.map (th ∘ mi) = t.un.2.2.2 from map_id_in fun x hx => mU n x (by have := VZ hx; omega)]
    exact oG t
where map_id_in {α : Type} {g : α → α} : ∀ {l : List α},(∀ x ∈ l,g x = x) → l.map g = l
  | [],_ => rfl
  | x :: l,h => by rw [List.map_cons,h x (List.mem_cons_self ..),map_id_in fun y hy => h y (List.mem_cons_of_mem _ hy)]
theorem th_mi' (t : Tr24) : th (mi t) = t := mU (SizeOf.sizeOf t + 1) t (by omega)
theorem oS {a b : Tr24} (h : mi a = mi b) : a = b := by rw [← th_mi' a,h,th_mi' b]
theorem ZN : ∀ (n : Nat) (t : Tr38),SizeOf.sizeOf t < n → t.cnt ≤ 1048576 → DC n t = some (t.cnt : Int)
  | 0,t,h,_ => absurd h (Nat.not_lt_zero _)
  | n + 1, t, h, hc => by
    have hl := sD t
    have hcc := Kg t
    show Dm (DC n) t = _
    unfold Dm
    obtain ⟨o,h1,h2⟩ := Dk t.un.2.2.2.length (fun (o : Int) (i : Nat) => (o,(i : Int))) (CY (DC n) t) id (fun o i => o = 1 + (((t.un.2.2.2.take i).map Tr38.cnt).sum : Nat))
      (fun o i hi ho => by
        have hm := List.getElem_mem hi
        have hx := ZN n t.un.2.2.2[i] (by have := S8 hm; omega) (Nat.le_trans (oL hm) hc)
        have hs : ((t.un.2.2.2.take (i + 1)).map Tr38.cnt).sum = ((t.un.2.2.2.take i).map Tr38.cnt).sum + t.un.2.2.2[i].cnt := by
          rw [List.take_succ_eq_append_getElem hi,List.map_append,List.sum_append]; simp
        have hle := Jy (g := Tr38.cnt) t.un.2.2.2 (i + 1)
        refine ⟨o + (t.un.2.2.2[i].cnt : Int), ?_,by rw [ho,hs]; omega⟩
        rw [CY,if_pos (by omega),A5 (List.getElem?_eq_getElem hi),Option.bind_some,hx,Option.bind_some,Ad (by rw [ho]; omega),Ad (by omega)]; rfl)
      (fun o _ => by rw [CY,if_neg (by omega)]; rfl) 1 (by simp)
    rw [List.take_length] at h1
    have h2' : Ah (CY (DC n) t) (1,0) = some o := h2
    rw [h2',h1,Option.bind_some,hcc]
    congr 1
theorem gY {t : Tr38} (hc : t.cnt ≤ 1048576) : LC t = some (t.cnt : Int) := B4 (g := fun n => DC n t) (fun n r h => JL n t r h) (ZN (SizeOf.sizeOf t + 1) t (by omega) hc)
def mx : List Nat → Nat
  | [] => 0
  | a :: l => max a (mx l)
theorem Uz {l : List Nat} {a : Nat} (h : a ∈ l) : a ≤ mx l := by
  induction l with
  | nil => cases h
  | cons x l ih =>
    rcases List.mem_cons.1 h with e | h
    · rw [e]; exact Nat.le_max_left _ _
    · exact Nat.le_trans (ih h) (Nat.le_max_right _ _)
theorem Rj {l : List Nat} {b : Nat} (h : ∀ a ∈ l,a ≤ b) : mx l ≤ b := by
  induction l with
  | nil => exact Nat.zero_le _
  | cons x l ih => exact Nat.max_le.2 ⟨h x (List.mem_cons_self ..),ih fun a ha => h a (List.mem_cons_of_mem _ ha)⟩
theorem Zq (l : List Nat) (a : Nat) : mx (l ++ [a]) = max (mx l) a := by
  induction l with
  | nil => simp [mx]
  | cons x l ih => rw [List.cons_append,mx,ih,mx,Nat.max_assoc]
def dp : Tr38 → Nat
  | .mk _ _ _ l => 1 + mx (l.map dp)
theorem Sa (t : Tr38) : dp t = 1 + mx (t.un.2.2.2.map dp) := by cases t; rw [dp]; rfl
theorem cH : ∀ (n : Nat) (t : Tr38),SizeOf.sizeOf t < n → dp t ≤ t.cnt
  | 0,t,h => absurd h (Nat.not_lt_zero _)
  | n + 1,t,h => by
    rw [Sa,Kg]
    have : mx (t.un.2.2.2.map dp) ≤ (t.un.2.2.2.map Tr38.cnt).sum := Rj fun a ha => by
      obtain ⟨x,hx,rfl⟩ := List.mem_map.1 ha
      exact Nat.le_trans (cH n x (by have := S8 hx; omega)) (LQ (g := Tr38.cnt) hx)
    omega
theorem tC (t : Tr24) : dp (mi t) = 1 + mx (t.un.2.2.2.map fun x => dp (mi x)) := by rw [Sa,Wq,List.map_map]; rfl
theorem lI (t : Tr24) : (mi t).cnt = t.cnt := fG (SizeOf.sizeOf t + 1) t (by omega)
theorem ZM : ∀ (n : Nat) (t : Tr24),SizeOf.sizeOf t < n → t.cnt ≤ 1048576 → Fg n t = some (dp (mi t) : Int)
  | 0,t,h,_ => absurd h (Nat.not_lt_zero _)
  | n + 1, t, h, hc => by
    have hl := sH t
    show ER (Fg n) t = _
    unfold ER
    obtain ⟨o,h1,h2⟩ := Dk t.un.2.2.2.length (fun (o : Int) (i : Nat) => (o,(i : Int))) (DH (Fg n) t) id (fun o i => o = 1 + (mx ((t.un.2.2.2.take i).map fun x => dp (mi x)) : Nat))
      (fun o i hi ho => by
        have hm := List.getElem_mem hi
        have hx := ZM n t.un.2.2.2[i] (by have := VZ hm; omega) (Nat.le_trans (pE hm) hc)
        have hd := cH (SizeOf.sizeOf (mi t.un.2.2.2[i]) + 1) (mi t.un.2.2.2[i]) (by omega)
        rw [lI] at hd
        have hcl := pE hm
        refine ⟨max o (dp (mi t.un.2.2.2[i]) + 1 : Int), ?_,by rw [ho,List.take_succ_eq_append_getElem hi,List.map_append,List.map_cons,List.map_nil,Zq]; omega⟩
        rw [DH,if_pos (by omega),A5 (List.getElem?_eq_getElem hi),Option.bind_some,hx,Option.bind_some,Ad (by omega)]
        by_cases q : o < (dp (mi t.un.2.2.2[i]) : Int) + 1
        · rw [if_pos q,Option.bind_some,hx,Option.bind_some,Ad (by omega),Option.bind_some,Ad (by omega)]
          rw [show max o ((dp (mi t.un.2.2.2[i]) : Int) + 1) = (dp (mi t.un.2.2.2[i]) : Int) + 1 by omega]; rfl
        · rw [if_neg q,Option.bind_some,Ad (by omega)]
          rw [show max o ((dp (mi t.un.2.2.2[i]) : Int) + 1) = o by omega]; rfl)
      (fun o _ => by rw [DH,if_neg (by omega)]; rfl) 1 (by simp [mx])
    rw [List.take_length] at h1
    have h2' : Ah (DH (Fg n) t) (1,0) = some o := h2
    rw [h2',h1,Option.bind_some,tC]
    exact congrArg some (by omega)
theorem iL {t : Tr24} (hc : t.cnt ≤ 1048576) : Ps t = some (dp (mi t) : Int) := B4 (g := fun n => Fg n t) (fun n r h => NP n t r h) (ZM (SizeOf.sizeOf t + 1) t (by omega) hc)
theorem wE {a b : Tr38} (h1 : a.un.1 = b.un.1) (h2 : a.un.2.1 = b.un.2.1) (h3 : a.un.2.2.1 = b.un.2.2.1) (h4 : a.un.2.2.2 = b.un.2.2.2) : a = b := by
  rw [← iZ a, ← iZ b]
  show Tr38.mk _ _ _ _ = Tr38.mk _ _ _ _
  rw [h1,h2,h3,h4]
theorem tN {a b : Tr24} (h1 : a.un.1 = b.un.1) (h2 : a.un.2.1 = b.un.2.1) (h3 : a.un.2.2.1 = b.un.2.2.1) (h4 : a.un.2.2.2 = b.un.2.2.2) : a = b := by
  rw [← oG a, ← oG b]
  show Tr24.mk _ _ _ _ = Tr24.mk _ _ _ _
  rw [h1,h2,h3,h4]
theorem Q8 {α : Type} {l m : List α} (hl : l.length = m.length) : (∃ k,k < l.length ∧ l[k]? ≠ m[k]?) ↔ l ≠ m := by
  constructor
  · rintro ⟨k,_,h⟩ rfl; exact h rfl
  · intro h
    refine Classical.byContradiction fun hn => h (List.ext_getElem? fun k => ?_)
    by_cases hk : k < l.length
    · exact Classical.byContradiction fun h2 => hn ⟨k,hk,h2⟩
    · rw [List.getElem?_eq_none (by omega),List.getElem?_eq_none (by omega)]
open Classical in
theorem YA : ∀ (n : Nat) (a b : Tr38),SizeOf.sizeOf a < n → a.cnt ≤ 1048576 → D9 n a b = some (decide (a = b))
  | 0,a,b,h,_ => absurd h (Nat.not_lt_zero _)
  | n + 1, a, b, h, hc => by
    have hl := sD a
    show Ek (D9 n) a b = _
    unfold Ek
    by_cases c1 : a.un.1 = b.un.1
    · rw [if_pos c1]
      by_cases c2 : a.un.2.1 = b.un.2.1
      · rw [if_pos c2]
        by_cases c3 : a.un.2.2.1 = b.un.2.2.1
        · rw [if_pos c3]
          unfold Af
          by_cases c4 : a.un.2.2.2.length = b.un.2.2.2.length
          · rw [if_neg (by omega)]
            rw [Mh a.un.2.2.2.length (Ab (D9 n) a.un.2.2.2 b.un.2.2.2) (fun k => a.un.2.2.2[k]? ≠ b.un.2.2.2[k]?) false (fun k hk => by
              have hm := List.getElem_mem hk
              have hkb : k < b.un.2.2.2.length := by omega
              have hx := YA n a.un.2.2.2[k] b.un.2.2.2[k] (by have := S8 hm; omega) (Nat.le_trans (oL hm) hc)
              rw [Ab,if_pos (by omega),A5 (List.getElem?_eq_getElem hk),Option.bind_some,A5 (List.getElem?_eq_getElem hkb),Option.bind_some,hx,Option.bind_some,Ad (by omega)]
              by_cases e : a.un.2.2.2[k] = b.un.2.2.2[k]
              · rw [decide_eq_true e,if_neg (by decide),if_neg (by rw [List.getElem?_eq_getElem hk,List.getElem?_eq_getElem hkb,e]; simp)]; rfl
              · rw [decide_eq_false e,if_pos (by decide),if_pos (by rw [List.getElem?_eq_getElem hk,List.getElem?_eq_getElem hkb]; simpa using e)]) (by rw [Ab,if_neg (by omega)])]
            by_cases e : a.un.2.2.2 = b.un.2.2.2
            · rw [if_neg (fun hh => (Q8 c4).1 hh e),decide_eq_true (wE c1 c2 c3 e)]; rfl
            · rw [if_pos ((Q8 c4).2 e),decide_eq_false (fun hh => e (by rw [hh]))]; rfl
          · rw [if_pos (by omega),decide_eq_false (fun hh => c4 (by rw [hh]))]; rfl
        · rw [if_neg c3,decide_eq_false (fun hh => c3 (by rw [hh]))]; rfl
      · rw [if_neg c2,decide_eq_false (fun hh => c2 (by rw [hh]))]; rfl
    · rw [if_neg c1,decide_eq_false (fun hh => c1 (by rw [hh]))]; rfl
open Classical in
theorem gL {a b : Tr38} (hc : a.cnt ≤ 1048576) : KT a b = some (decide (a = b)) := B4 (g := fun n => D9 n a b) (fun n r h => JC n a b r h) (YA (SizeOf.sizeOf a + 1) a b (by omega) hc)
open Classical in
theorem Y2 : ∀ (n : Nat) (a b : Tr24),SizeOf.sizeOf a < n → a.cnt ≤ 2097152 → FT n a b = some (decide (a = b))
  | 0,a,b,h,_ => absurd h (Nat.not_lt_zero _)
  | n + 1,a,b,h,hc => by
    have hl := sH a
    show EV (FT n) a b = _
    unfold EV
    by_cases c : a.un.1 = b.un.1 ∧ a.un.2.1 = b.un.2.1 ∧ a.un.2.2.1 = b.un.2.2.1 ∧ a.un.2.2.2.length = b.un.2.2.2.length
    · obtain ⟨c1,c2,c3,c4⟩ := c
      rw [if_neg (by simp [c1,c2,c3,c4])]
      rw [Mh a.un.2.2.2.length (EU (FT n) a b) (fun k => a.un.2.2.2[k]? ≠ b.un.2.2.2[k]?) false (fun k hk => by
        have hm := List.getElem_mem hk
        have hkb : k < b.un.2.2.2.length := by omega
        have hx := Y2 n a.un.2.2.2[k] b.un.2.2.2[k] (by have := VZ hm; omega) (Nat.le_trans (pE hm) hc)
        rw [EU,if_pos (by omega),A5 (List.getElem?_eq_getElem hk),Option.bind_some,A5 (List.getElem?_eq_getElem hkb),Option.bind_some,hx,Option.bind_some,Ad (by omega)]
        by_cases e : a.un.2.2.2[k] = b.un.2.2.2[k]
        · rw [decide_eq_true e,if_neg (by decide),if_neg (by rw [List.getElem?_eq_getElem hk,List.getElem?_eq_getElem hkb,e]; simp)]; rfl
        · rw [decide_eq_false e,if_pos (by decide),if_pos (by rw [List.getElem?_eq_getElem hk,List.getElem?_eq_getElem hkb]; simpa using e)]) (by rw [EU,if_neg (by omega)])]
      by_cases e : a.un.2.2.2 = b.un.2.2.2
      · rw [if_neg (fun hh => (Q8 c4).1 hh e),decide_eq_true (tN c1 c2 c3 e)]; rfl
      · rw [if_pos ((Q8 c4).2 e),decide_eq_false (fun hh => e (by rw [hh]))]; rfl
    · rw [if_pos (by simp only [Bool.or_eq_true,decide_eq_true_eq]; omega),decide_eq_false (fun hh => c (by rw [hh]; exact ⟨rfl,rfl,rfl,rfl⟩))]
open Classical in
theorem gW {a b : Tr24} (hc : a.cnt ≤ 2097152) : M1 a b = some (decide (a = b)) := B4 (g := fun n => FT n a b) (fun n r h => NK n a b r h) (Y2 (SizeOf.sizeOf a + 1) a b (by omega) hc)
theorem gB (f : Int) : Jz f = some (Cg f) := by
  unfold Jz Cg
  by_cases c : (decide (f = 4) || decide (f = 5)) = true
  · rw [if_pos c,if_pos c]
  · rw [if_neg c,if_neg c]
    unfold Hq HQ Mg
    by_cases c2 : f = 2
    · subst c2; rfl
    by_cases c0 : f = 0
    · subst c0; rfl
    by_cases c1 : f = 1
    · subst c1; rfl
    by_cases c3 : f = 3
    · subst c3; rfl
    rw [if_neg c0,if_neg c1,decide_eq_false c3,Option.bind_some,if_neg (by decide),if_neg c2,if_neg c2,if_neg (by simp [c0,c1,c3])]; rfl
theorem SR (f : Int) : 0 ≤ Cg f ∧ Cg f ≤ 255 := by
  unfold Cg Mg
  split
  · omega
  · split
    · omega
    · split <;> omega
abbrev Gp (k f v : Int) (n : Nat) : Prop := 1 ≤ k ∧ k ≤ 6 ∧ (k ≠ 3 → f = 0 ∧ v = 0) ∧ (k = 3 → 0 ≤ f ∧ f ≤ 5 ∧ 0 ≤ v ∧ v ≤ Cg f) ∧ (k ≤ 3 → n = 0) ∧ (k = 4 → n = 1) ∧ (5 ≤ k → 2 ≤ n ∧ n ≤ 8)
theorem bX (t : Tr38) : Iw t = some (decide (Gp t.un.1 t.un.2.1 t.un.2.2.1 t.un.2.2.2.length)) := by
  unfold Iw
  by_cases c3 : t.un.1 = 3
  · rw [if_pos c3]
    unfold D2
    rw [← Bool.decide_and]
    by_cases k : 0 ≤ t.un.2.1 ∧ t.un.2.1 ≤ 5
    · rw [if_pos (decide_eq_true k)]
      by_cases v0 : 0 ≤ t.un.2.2.1
      · rw [if_pos v0,gB,Option.bind_some]
        by_cases v1 : t.un.2.2.1 ≤ Cg t.un.2.1
        · rw [if_pos v1,Option.bind_some]
          exact congrArg some (decide_eq_decide.2 ⟨fun h => by unfold Gp; omega,fun h => by unfold Gp at h; omega⟩)
        · rw [if_neg v1,Option.bind_some,decide_eq_false (fun h => by unfold Gp at h; omega)]
      · rw [if_neg v0,Option.bind_some,decide_eq_false (fun h => by unfold Gp at h; omega)]
    · rw [if_neg (by simpa using k),Option.bind_some,decide_eq_false (fun h => by unfold Gp at h; omega)]
  · rw [if_neg c3]
    by_cases z : t.un.2.1 = 0 ∧ t.un.2.2.1 = 0
    · rw [if_neg (by simp [z.1,z.2])]
      by_cases c1 : t.un.1 = 1
      · rw [if_pos c1,Option.bind_some,if_pos rfl]
        exact congrArg some (decide_eq_decide.2 ⟨fun h => by unfold Gp; omega,fun h => by unfold Gp at h; omega⟩)
      · rw [if_neg c1,Option.bind_some]
        by_cases c2 : t.un.1 = 2
        · rw [if_pos (decide_eq_true c2)]
          exact congrArg some (decide_eq_decide.2 ⟨fun h => by unfold Gp; omega,fun h => by unfold Gp at h; omega⟩)
        · rw [if_neg (by simpa using c2)]
          by_cases c4 : t.un.1 = 4
          · rw [if_pos c4]
            exact congrArg some (decide_eq_decide.2 ⟨fun h => by unfold Gp; omega,fun h => by unfold Gp at h; omega⟩)
          · rw [if_neg c4]
            by_cases c5 : t.un.1 = 5
            · rw [if_pos c5,Option.bind_some,if_pos rfl, ← Bool.decide_and]
              exact congrArg some (decide_eq_decide.2 ⟨fun h => by unfold Gp; omega,fun h => by unfold Gp at h; omega⟩)
            · rw [if_neg c5,Option.bind_some]
              by_cases c6 : t.un.1 = 6
              · rw [if_pos (decide_eq_true c6), ← Bool.decide_and]
                exact congrArg some (decide_eq_decide.2 ⟨fun h => by unfold Gp; omega,fun h => by unfold Gp at h; omega⟩)
              · rw [if_neg (by simpa using c6),decide_eq_false (fun h => by unfold Gp at h; omega)]
    · rw [if_pos (by simp only [Bool.or_eq_true,decide_eq_true_eq]; omega),decide_eq_false (fun h => by unfold Gp at h; omega)]
def Ie : Tr38 → Bool
  | .mk k f v l => decide (Gp k f v l.length) && (l.map Ie).all id
theorem IX (t : Tr38) : Ie t = true ↔ Gp t.un.1 t.un.2.1 t.un.2.2.1 t.un.2.2.2.length ∧ ∀ x ∈ t.un.2.2.2,Ie x = true := by
  cases t with
  | mk k f v l =>
    rw [Ie,Bool.and_eq_true,decide_eq_true_eq,List.all_map,List.all_eq_true]; rfl
abbrev Of (t : Tr38) (b d : Int) : Prop := Ie t = true ∧ (dp t : Int) ≤ d ∧ (t.cnt : Int) ≤ b
theorem W5 : ∀ (n : Nat) (t : Tr38),SizeOf.sizeOf t < n → t.cnt ≤ 1048576 → ∀ b d : Int,0 ≤ b → b ≤ 1000 → 0 ≤ d → d ≤ 1000 →
    (Of t b d → AR n b t d = some (true,b - t.cnt)) ∧ (¬ Of t b d → ∃ b',AR n b t d = some (false,b'))
  | 0,t,h,_ => absurd h (Nat.not_lt_zero _)
  | n + 1, t, h, hc => by
    intro b d b0 b1 d0 d1
    have hl := sD t
    have hcc := Kg t
    have hde := Sa t
    have hst : AR (n + 1) b t d = BA (AR n) b t d := rfl
    rw [hst]
    unfold BA
    rw [Ad (by omega)]
    by_cases g1 : b - 1 < 0
    · rw [if_pos g1,Option.bind_some,if_pos rfl]
      exact ⟨fun hk => by have := hk.2.2; omega,fun _ => ⟨_,rfl⟩⟩
    rw [if_neg g1]
    by_cases g2 : d < 1
    · rw [if_pos g2,Option.bind_some,if_pos rfl]
      exact ⟨fun hk => by have := hk.2.1; omega,fun _ => ⟨_,rfl⟩⟩
    rw [if_neg g2,bX,Option.bind_some,Option.bind_some]
    by_cases g3 : Gp t.un.1 t.un.2.1 t.un.2.2.1 t.un.2.2.2.length
    · rw [decide_eq_true g3,if_neg (by decide)]
      have key : ∀ (m i : Nat),i + m = t.un.2.2.2.length → (∀ x ∈ t.un.2.2.2.take i,Ie x = true ∧ (dp x : Int) ≤ d - 1) → (((t.un.2.2.2.take i).map Tr38.cnt).sum : Int) ≤ b - 1 →
          (Of t b d → GO (Ah (AJ (AR n) t d) ((i : Int),b - 1 - (((t.un.2.2.2.take i).map Tr38.cnt).sum : Nat))) (fun x3 => some (true,x3)) = some (true,b - t.cnt)) ∧ (¬ Of t b d → ∃ b',GO (Ah (AJ (AR n) t d) ((i : Int),b - 1 - (((t.un.2.2.2.take i).map Tr38.cnt).sum : Nat))) (fun x3 => some (true,x3)) = some (false,b')) := by
        intro m
        induction m with
        | zero =>
          intro i hi hx hs
          have e0 : t.un.2.2.2.take i = t.un.2.2.2 := List.take_of_length_le (by omega)
          rw [e0] at hx hs ⊢
          have hend : Ah (AJ (AR n) t d) ((i : Int),b - 1 - ((t.un.2.2.2.map Tr38.cnt).sum : Nat)) = some (.inl (b - 1 - ((t.un.2.2.2.map Tr38.cnt).sum : Nat))) := Ak (by rw [AJ,if_neg (by omega)])
          have hok : Of t b d := ⟨(IX t).2 ⟨g3,fun x hm => (hx x hm).1⟩,by
            have : mx (t.un.2.2.2.map dp) ≤ (d - 1).toNat := Rj fun a ha => by
              obtain ⟨x,hm,rfl⟩ := List.mem_map.1 ha
              have := (hx x hm).2
              omega
            omega,by omega⟩
          refine ⟨fun _ => ?_,fun hn => absurd hok hn⟩
          rw [hend]
          show some (true,b - 1 - ((t.un.2.2.2.map Tr38.cnt).sum : Nat)) = _
          rw [hcc]
          congr 2; omega
        | succ m ih =>
          intro i hi hx hs
          have hil : i < t.un.2.2.2.length := by omega
          have hm := List.getElem_mem hil
          have hsum : ((t.un.2.2.2.take (i + 1)).map Tr38.cnt).sum = ((t.un.2.2.2.take i).map Tr38.cnt).sum + t.un.2.2.2[i].cnt := by
            rw [List.take_succ_eq_append_getElem hil,List.map_append,List.sum_append]; simp
          have hle := Jy (g := Tr38.cnt) t.un.2.2.2 (i + 1)
          obtain ⟨r1,r2⟩ := W5 n t.un.2.2.2[i] (by have := S8 hm; omega) (Nat.le_trans (oL hm) hc) (b - 1 - (((t.un.2.2.2.take i).map Tr38.cnt).sum : Nat)) (d - 1) (by omega) (by omega) (by omega) (by omega)
          by_cases g : Of t.un.2.2.2[i] (b - 1 - (((t.un.2.2.2.take i).map Tr38.cnt).sum : Nat)) (d - 1)
          · have hstep : AJ (AR n) t d ((i : Int),b - 1 - (((t.un.2.2.2.take i).map Tr38.cnt).sum : Nat)) = some (.inl (((i + 1 : Nat) : Int),b - 1 - (((t.un.2.2.2.take (i + 1)).map Tr38.cnt).sum : Nat))) := by
              rw [AJ,if_pos (by omega),A5 (List.getElem?_eq_getElem hil),Option.bind_some,Ad (by omega),r1 g,Option.bind_some,if_neg (show ¬ (!true) = true by decide),Ad (by omega),hsum]
              show some (Sum.inl (_,_)) = _
              congr 3; omega
            rw [A4 hstep]
            refine ih (i + 1) (by omega) (fun x hxm => ?_) (by have := g.2.2; omega)
            rw [List.take_succ_eq_append_getElem hil] at hxm
            rcases List.mem_append.1 hxm with hh | hh
            · exact hx x hh
            · rw [List.mem_singleton.1 hh]; exact ⟨g.1,g.2.1⟩
          · obtain ⟨b',hb'⟩ := r2 g
            have hno : ¬ Of t b d := fun hk => g ⟨((IX t).1 hk.1).2 _ hm,by
              have h1 := Uz (List.mem_map.2 ⟨_,hm,rfl⟩ : dp t.un.2.2.2[i] ∈ t.un.2.2.2.map dp)
              have := hk.2.1
              omega,by have := hk.2.2; omega⟩
            refine ⟨fun hk => absurd hk hno,fun _ => ⟨b', ?_⟩⟩
            rw [Ak (e := .inr (false,b')) (by
              rw [AJ,if_pos (by omega),A5 (List.getElem?_eq_getElem hil),Option.bind_some,Ad (by omega),hb',Option.bind_some,if_pos (by rfl)])]
            rfl
      have := key t.un.2.2.2.length 0 (by omega) (by simp) (by simp; omega)
      simpa using this
    · rw [decide_eq_false g3,if_pos (by decide)]
      exact ⟨fun hk => absurd ((IX t).1 hk.1).1 g3,fun _ => ⟨_,rfl⟩⟩
theorem UB {t : Tr38} (hc : t.cnt ≤ 1048576) : FO t = some (decide (Of t 64 8)) := by
  obtain ⟨h1,h2⟩ := W5 (SizeOf.sizeOf t + 1) t (by omega) hc 64 8 (by omega) (by omega) (by omega) (by omega)
  unfold FO
  by_cases g : Of t 64 8
  · rw [show DZ 64 t 8 = some (true,(64 - t.cnt : Int)) from B4 (g := fun n => AR n 64 t 8) (fun n r h => Ee n 64 t 8 r h) (h1 g),decide_eq_true g]; rfl
  · obtain ⟨b',hb⟩ := h2 g
    rw [show DZ 64 t 8 = some (false,b') from B4 (g := fun n => AR n 64 t 8) (fun n r h => Ee n 64 t 8 r h) hb,decide_eq_false g]; rfl
theorem XM (t : Tr24) : Ie (mi t) = true ↔ Gp t.un.1 t.un.2.1 t.un.2.2.1 t.un.2.2.2.length ∧ ∀ x ∈ t.un.2.2.2,Ie (mi x) = true := by
  rw [IX,Wq]
  show Gp _ _ _ (t.un.2.2.2.map mi).length ∧ _ ↔ _
  rw [List.length_map]
  refine and_congr_right fun _ => ⟨fun h x hx => h _ (List.mem_map.2 ⟨x,hx,rfl⟩),fun h x hx => ?_⟩
  obtain ⟨y,hy,rfl⟩ := List.mem_map.1 hx
  exact h y hy
theorem Zk : ∀ (n : Nat) (t : Tr24),SizeOf.sizeOf t < n → t.cnt ≤ 1048576 → Fd n t = some (Ie (mi t))
  | 0,t,h,_ => absurd h (Nat.not_lt_zero _)
  | n + 1, t, h, hc => by
    have hl := sH t
    have htb := SR t.un.2.1
    show EW (Fd n) t = _
    unfold EW
    have no : ¬ Gp t.un.1 t.un.2.1 t.un.2.2.1 t.un.2.2.2.length → Ie (mi t) = false := fun hn => by
      cases hh : Ie (mi t) with
      | false => rfl
      | true => exact absurd ((XM t).1 hh).1 hn
    by_cases g1 : (bif decide (t.un.1 ≠ 3) then (decide (t.un.2.1 ≠ 0) || (decide (t.un.2.2.1 ≠ 0) || (decide (t.un.1 < 1) || decide (6 < t.un.1)))) else (decide (t.un.1 < 1) || decide (6 < t.un.1))) = true
    · rw [if_pos g1,no (fun hf => by
        unfold Gp at hf
        by_cases c : t.un.1 = 3
        · simp [c] at g1
        · rw [show decide (t.un.1 ≠ 3) = true from decide_eq_true c] at g1
          simp only [cond_true,Bool.or_eq_true,decide_eq_true_eq] at g1
          omega)]
    rw [if_neg g1]
    by_cases g2 : (decide (t.un.1 = 3) && (decide (t.un.2.1 < 0) || (decide (5 < t.un.2.1) || (decide (t.un.2.2.1 < 0) || decide ((Cg t.un.2.1) < t.un.2.2.1))))) = true
    · rw [if_pos g2,no (fun hf => by
        unfold Gp at hf
        simp only [Bool.and_eq_true,Bool.or_eq_true,decide_eq_true_eq] at g2
        omega)]
    rw [if_neg g2]
    by_cases g3 : (bif decide (t.un.1 ≤ 3) then (decide ((t.un.2.2.2.length : Int) ≠ 0) || (bif decide (t.un.1 = 4) then (decide ((t.un.2.2.2.length : Int) ≠ 1) || (decide (5 ≤ t.un.1) && (decide ((t.un.2.2.2.length : Int) < 2) || decide (8 < (t.un.2.2.2.length : Int))))) else (decide (5 ≤ t.un.1) && (decide ((t.un.2.2.2.length : Int) < 2) || decide (8 < (t.un.2.2.2.length : Int)))))) else (bif decide (t.un.1 = 4) then (decide ((t.un.2.2.2.length : Int) ≠ 1) || (decide (5 ≤ t.un.1) && (decide ((t.un.2.2.2.length : Int) < 2) || decide (8 < (t.un.2.2.2.length : Int))))) else (decide (5 ≤ t.un.1) && (decide ((t.un.2.2.2.length : Int) < 2) || decide (8 < (t.un.2.2.2.length : Int)))))) = true
    · rw [if_pos g3,no (fun hf => by
        unfold Gp at hf
        by_cases c : t.un.1 ≤ 3
        · rw [show decide (t.un.1 ≤ 3) = true from decide_eq_true c,show decide (t.un.1 = 4) = false from decide_eq_false (by omega)] at g3
          simp only [cond_true,cond_false,Bool.or_eq_true,Bool.and_eq_true,decide_eq_true_eq] at g3
          omega
        · by_cases c4 : t.un.1 = 4
          · rw [show decide (t.un.1 ≤ 3) = false from decide_eq_false c,show decide (t.un.1 = 4) = true from decide_eq_true c4] at g3
            simp only [cond_true,cond_false,Bool.or_eq_true,Bool.and_eq_true,decide_eq_true_eq] at g3
            omega
          · rw [show decide (t.un.1 ≤ 3) = false from decide_eq_false c,show decide (t.un.1 = 4) = false from decide_eq_false c4] at g3
            simp only [cond_true,cond_false,Bool.or_eq_true,Bool.and_eq_true,decide_eq_true_eq] at g3
            omega)]
    rw [if_neg g3]
    have hfl : Gp t.un.1 t.un.2.1 t.un.2.2.1 t.un.2.2.2.length := by
      simp only [Bool.and_eq_true,Bool.or_eq_true,decide_eq_true_eq,not_and,not_or] at g2
      by_cases c3 : t.un.1 = 3
      · rw [show decide (t.un.1 ≤ 3) = true from decide_eq_true (by omega),show decide (t.un.1 = 4) = false from decide_eq_false (by omega)] at g3
        simp only [cond_true,cond_false,Bool.or_eq_true,Bool.and_eq_true,decide_eq_true_eq] at g3
        have := g2 c3
        unfold Gp; omega
      · by_cases cl : t.un.1 ≤ 3
        · have c4 : ¬ t.un.1 = 4 := by omega
          simp [c3,cl,c4] at g1 g3
          unfold Gp
          have : t.un.2.2.2.length = 0 := by
            rw [List.length_eq_zero_iff]
            exact g3.1
          omega
        · by_cases c4 : t.un.1 = 4
          · simp [c3,cl,c4] at g1 g3
            unfold Gp; omega
          · simp [c3,cl,c4] at g1 g3
            unfold Gp; omega
    have hx : ∀ x ∈ t.un.2.2.2,Fd n x = some (Ie (mi x)) := fun x hm => Zk n x (by have := VZ hm; omega) (Nat.le_trans (pE hm) hc)
    rw [Mh t.un.2.2.2.length (ES (Fd n) t) (fun k => ∃ e,t.un.2.2.2[k]? = some e ∧ Ie (mi e) = false) false (fun k hk => by
      rw [ES,if_pos (by omega),A5 (List.getElem?_eq_getElem hk),Option.bind_some,hx _ (List.getElem_mem hk),Option.bind_some,Ad (by omega)]
      cases hq : Ie (mi t.un.2.2.2[k]) with
      | true => rw [if_neg (by decide),if_neg (fun hh => by rw [Rb hk,hq] at hh; cases hh)]; rfl
      | false => rw [if_pos (by decide),if_pos ((Rb hk).2 hq)]) (by rw [ES,if_neg (by omega)])]
    by_cases e : ∃ k,k < t.un.2.2.2.length ∧ ∃ e,t.un.2.2.2[k]? = some e ∧ Ie (mi e) = false
    · rw [if_pos e]
      obtain ⟨x,hxm,hxf⟩ := Vu.1 e
      have : Ie (mi t) = false := by
        cases hh : Ie (mi t) with
        | false => rfl
        | true => rw [((XM t).1 hh).2 x hxm] at hxf; cases hxf
      rw [this]; rfl
    · rw [if_neg e]
      have : Ie (mi t) = true := (XM t).2 ⟨hfl,fun x hxm => by
        cases hh : Ie (mi x) with
        | true => rfl
        | false => exact absurd (Vu.2 ⟨x,hxm,hh⟩) e⟩
      rw [this]; rfl
theorem Z6 {t : Tr24} (hc : t.cnt ≤ 1048576) : HK t = some (decide (Of (mi t) 64 8)) := by
  have hcm := lI t
  unfold HK
  rw [show O7 t = some (Ie (mi t)) from B4 (g := fun n => Fd n t) (fun n r h => NN n t r h) (Zk (SizeOf.sizeOf t + 1) t (by omega) hc),Option.bind_some]
  by_cases hf : Ie (mi t) = true
  case neg => rw [if_neg hf,Option.bind_some,decide_eq_false (fun h => hf h.1)]
  case pos =>
    rw [if_pos hf,Wt hc,Option.bind_some]
    by_cases c : (t.cnt : Int) ≤ 64
    · rw [if_pos c,iL hc,Option.bind_some,Option.bind_some]
      exact congrArg some (decide_eq_decide.2 ⟨fun h => ⟨hf,h,by omega⟩,fun h => h.2.1⟩)
    · rw [if_neg c,Option.bind_some,decide_eq_false (fun h => by have := h.2.2; omega)]
end Go.Proofs.YtkhiflmalgkjiaaGreat
