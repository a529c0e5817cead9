/- Layer 27: trees, what is asked. Conditions: none. -/
import Derived.Test.YtpckgggmgijiiaaGreatDooreNSH
import Derived.Test.YtpckgggmgijiiaaGreatDooreEV
namespace Go.Proofs.YtpckgggmgijiiaaGreatDoor
set_option linter.unusedVariables false
set_option linter.unusedSimpArgs false
open Go Go.RowKit
abbrev PK := Int × Int × Int × Int
theorem SH {t x : Tr24} (h : x ∈ t.un.2.2.2) : SizeOf.sizeOf x < SizeOf.sizeOf t := by
  cases t with
  | mk k f v l =>
    have h' : x ∈ l := h
    have := List.sizeOf_lt_of_mem h'
    simp only [Tr24.mk.sizeOf_spec]; omega
theorem Rx {t x : Tr34} (h : x ∈ t.un.2.2.2) : SizeOf.sizeOf x < SizeOf.sizeOf t := by
  cases t with
  | mk k f v l =>
    have h' : x ∈ l := h
    have := List.sizeOf_lt_of_mem h'
    simp only [Tr34.mk.sizeOf_spec]; omega
theorem VC (t : Tr24) : t.cnt = 1 + (t.un.2.2.2.map Tr24.cnt).sum := by cases t; rw [Tr24.cnt]; rfl
theorem Lp (t : Tr34) : t.cnt = 1 + (t.un.2.2.2.map Tr34.cnt).sum := by cases t; rw [Tr34.cnt]; rfl
theorem LT {α : Type} {g : α → Nat} : ∀ {l : List α} {x : α},x ∈ l → g x ≤ (l.map g).sum
  | y :: l,x,h => by
    rw [List.map_cons,List.sum_cons]
    rcases List.mem_cons.1 h with e | h
    · rw [e]; omega
    · have := LT (g := g) h; omega
theorem Mk {α : Type} {g : α → Nat} (hg : ∀ x,1 ≤ g x) : ∀ l : List α,l.length ≤ (l.map g).sum
  | [] => Nat.zero_le _
  | y :: l => by
    have := hg y
    have := Mk hg l
    rw [List.map_cons,List.sum_cons,List.length_cons]; omega
theorem Hu {α : Type} {g : α → Nat} (l : List α) (i : Nat) : ((l.take i).map g).sum ≤ (l.map g).sum := by
  have h : (l.map g).sum = ((l.take i).map g).sum + ((l.drop i).map g).sum := by
    rw [← List.sum_append, ← List.map_append,List.take_append_drop]
  omega
theorem gH {t x : Tr24} (h : x ∈ t.un.2.2.2) : x.cnt ≤ t.cnt := by rw [VC t]; have := LT (g := Tr24.cnt) h; omega
theorem l9 {t x : Tr34} (h : x ∈ t.un.2.2.2) : x.cnt ≤ t.cnt := by rw [Lp t]; have := LT (g := Tr34.cnt) h; omega
theorem lZ (t : Tr24) : t.un.2.2.2.length + 1 ≤ t.cnt := by rw [VC t]; have := Mk (g := Tr24.cnt) (fun x => by rw [VC x]; omega) t.un.2.2.2; omega
theorem qQ (t : Tr34) : t.un.2.2.2.length + 1 ≤ t.cnt := by rw [Lp t]; have := Mk (g := Tr34.cnt) (fun x => by rw [Lp x]; omega) t.un.2.2.2; omega
def mi : Tr24 → Tr34
  | .mk k f v l => .mk k f v (l.map mi)
theorem M0 (t : Tr24) : (mi t).un = (t.un.1,t.un.2.1,t.un.2.2.1,t.un.2.2.2.map mi) := by cases t; rw [mi]; rfl
theorem qX (t : Tr24) : mi t = Tr34.of (t.un.1,t.un.2.1,t.un.2.2.1,t.un.2.2.2.map mi) := by cases t; rw [mi]; rfl
theorem fB : ∀ (n : Nat) (t : Tr24),SizeOf.sizeOf t < n → (mi t).cnt = t.cnt
  | 0,t,h => absurd h (Nat.not_lt_zero _)
  | n + 1,t,h => by
    rw [Lp,VC,M0]
    show 1 + ((t.un.2.2.2.map mi).map Tr34.cnt).sum = _
    rw [List.map_map]
    congr 2
    exact List.map_congr_left fun x hx => fB n x (by have := SH hx; omega)
theorem bG : ∀ (n : Nat) (t : Tr24),SizeOf.sizeOf t < n → t.cnt ≤ 1048576 → EX n t = some (mi t)
  | 0,t,h,_ => absurd h (Nat.not_lt_zero _)
  | n + 1,t,h,hc => by
    have hl := lZ t
    show EB (EX n) t = _
    unfold EB
    obtain ⟨o,h1,h2⟩ := CR t.un.2.2.2.length (fun (o : List Tr34) (i : Nat) => ((i : Int),o)) (Dl (EX n) t) id (fun o i => o = (t.un.2.2.2.take i).map mi)
      (fun o i hi ho => by
        have hm := List.getElem_mem hi
        have hx := bG n t.un.2.2.2[i] (by have := SH hm; omega) (Nat.le_trans (gH hm) hc)
        refine ⟨o ++ [mi t.un.2.2.2[i]], ?_,by rw [ho,List.take_succ_eq_append_getElem hi,List.map_append]; rfl⟩
        rw [Dl,if_pos (by omega),A7 (List.getElem?_eq_getElem hi),Option.bind_some,hx,Option.bind_some,Bv (by rw [ho]; simp; omega),Option.bind_some,Ad (by omega)]; rfl)
      (fun o _ => by rw [Dl,if_neg (by omega)]; rfl) [] rfl
    rw [List.take_length] at h1
    have h2' : Af (Dl (EX n) t) (0,[]) = some o := h2
    rw [h2',h1,Option.bind_some, ← qX]
theorem iB {t : Tr24} (hc : t.cnt ≤ 1048576) : NR t = some (mi t) := Bq (g := fun n => EX n t) (fun n r h => M5 n t r h) (bG (SizeOf.sizeOf t + 1) t (by omega) hc)
theorem XZ : ∀ (n : Nat) (t : Tr24),SizeOf.sizeOf t < n → t.cnt ≤ 1048576 → ET n t = some (t.cnt : Int)
  | 0,t,h,_ => absurd h (Nat.not_lt_zero _)
  | n + 1, t, h, hc => by
    have hl := lZ t
    have hcc := VC t
    show EH (ET n) t = _
    unfold EH
    obtain ⟨o,h1,h2⟩ := CR t.un.2.2.2.length (fun (o : Int) (i : Nat) => (o,(i : Int))) (Di (ET n) t) id (fun o i => o = 1 + (((t.un.2.2.2.take i).map Tr24.cnt).sum : Nat))
      (fun o i hi ho => by
        have hm := List.getElem_mem hi
        have hx := XZ n t.un.2.2.2[i] (by have := SH hm; omega) (Nat.le_trans (gH hm) hc)
        have hs : ((t.un.2.2.2.take (i + 1)).map Tr24.cnt).sum = ((t.un.2.2.2.take i).map Tr24.cnt).sum + t.un.2.2.2[i].cnt := by
          rw [List.take_succ_eq_append_getElem hi,List.map_append,List.sum_append]; simp
        have hle := Hu (g := Tr24.cnt) t.un.2.2.2 (i + 1)
        refine ⟨o + (t.un.2.2.2[i].cnt : Int), ?_,by rw [ho,hs]; omega⟩
        rw [Di,if_pos (by omega),A7 (List.getElem?_eq_getElem hi),Option.bind_some,hx,Option.bind_some,Ad (by rw [ho]; omega),Ad (by omega)]; rfl)
      (fun o _ => by rw [Di,if_neg (by omega)]; rfl) 1 (by simp)
    rw [List.take_length] at h1
    have h2' : Af (Di (ET n) t) (1,0) = some o := h2
    rw [h2',h1,Option.bind_some,hcc]
    congr 1
theorem Ry {t : Tr24} (hc : t.cnt ≤ 1048576) : I4 t = some (t.cnt : Int) := Bq (g := fun n => ET n t) (fun n r h => MW n t r h) (XZ (SizeOf.sizeOf t + 1) t (by omega) hc)
def FT (f : Int) : Tr34 → List Int
  | .mk k g v l => (if k = 3 ∧ g = f then [v] else []) ++ (l.map (FT f)).flatten
theorem NJ (f : Int) (t : Tr34) : FT f t = (if t.un.1 = 3 ∧ t.un.2.1 = f then [t.un.2.2.1] else []) ++ (t.un.2.2.2.map (FT f)).flatten := by cases t; rw [FT]; rfl
theorem Rj {α β : Type} {g : α → List β} {c : α → Nat} : ∀ (l : List α),(∀ x ∈ l,(g x).length ≤ c x) → (l.map g).flatten.length ≤ (l.map c).sum
  | [],_ => Nat.le_refl _
  | x :: l,h => by
    have h1 := h x (List.mem_cons_self ..)
    have h2 := Rj (g := g) (c := c) l fun y hy => h y (List.mem_cons_of_mem _ hy)
    rw [List.map_cons,List.flatten_cons,List.length_append,List.map_cons,List.sum_cons]; omega
theorem NC (f : Int) : ∀ (n : Nat) (t : Tr34),SizeOf.sizeOf t < n → (FT f t).length ≤ t.cnt
  | 0,t,h => absurd h (Nat.not_lt_zero _)
  | n + 1,t,h => by
    rw [NJ,Lp,List.length_append]
    have h2 := Rj (g := FT f) (c := Tr34.cnt) t.un.2.2.2 fun x hx => NC f n x (by have := Rx hx; omega)
    have h3 : (if t.un.1 = 3 ∧ t.un.2.1 = f then [t.un.2.2.1] else ([] : List Int)).length ≤ 1 := by split <;> simp
    omega
theorem Sb (f : Int) : ∀ (n : Nat) (t : Tr34),SizeOf.sizeOf t < n → t.cnt ≤ 1048576 → Cy n t f = some (FT f t)
  | 0,t,h,_ => absurd h (Nat.not_lt_zero _)
  | n + 1,t,h,hc => by
    have hl := qQ t
    have hcc := Lp t
    show CG (Cy n) t f = _
    unfold CG
    have e1 : ((if (decide (t.un.1 = 3) && decide (t.un.2.1 = f)) = true then (Dg ([] : List Int) ([t.un.2.2.1] : List Int)).bind fun x2 => some x2 else some ([])) : Option (List Int)) = some (if t.un.1 = 3 ∧ t.un.2.1 = f then [t.un.2.2.1] else []) := by
      by_cases c : t.un.1 = 3 ∧ t.un.2.1 = f
      · rw [if_pos (by simp [c.1,c.2]),if_pos c,Bv (by simp)]; rfl
      · rw [if_neg (by simpa using c),if_neg c]
    have h3 : (if t.un.1 = 3 ∧ t.un.2.1 = f then [t.un.2.2.1] else ([] : List Int)).length ≤ 1 := by split <;> simp
    rw [e1,Option.bind_some]
    obtain ⟨o,h1,h2⟩ := CR t.un.2.2.2.length (fun (o : List Int) (i : Nat) => (o,(i : Int))) (BP (Cy n) t f) id (fun o i => o = (if t.un.1 = 3 ∧ t.un.2.1 = f then [t.un.2.2.1] else []) ++ ((t.un.2.2.2.take i).map (FT f)).flatten)
      (fun o i hi ho => by
        have hm := List.getElem_mem hi
        have hx := Sb f n t.un.2.2.2[i] (by have := Rx hm; omega) (Nat.le_trans (l9 hm) hc)
        have hle := Hu (g := Tr34.cnt) t.un.2.2.2 i
        have hfl := Rj (g := FT f) (c := Tr34.cnt) (t.un.2.2.2.take i) fun x _ => NC f (SizeOf.sizeOf x + 1) x (by omega)
        have hxl := NC f (SizeOf.sizeOf t.un.2.2.2[i] + 1) t.un.2.2.2[i] (by omega)
        have hxc := l9 hm
        refine ⟨o ++ FT f t.un.2.2.2[i], ?_,by rw [ho,List.take_succ_eq_append_getElem hi,List.map_append,List.flatten_append,List.append_assoc]; simp⟩
        rw [BP,if_pos (by omega),A7 (List.getElem?_eq_getElem hi),Option.bind_some,hx,Option.bind_some,Bv (by rw [ho,List.length_append]; omega),Option.bind_some,Ad (by omega)]; rfl)
      (fun o _ => by rw [BP,if_neg (by omega)]; rfl) (if t.un.1 = 3 ∧ t.un.2.1 = f then [t.un.2.2.1] else []) (by simp)
    rw [List.take_length] at h1
    have h2' : Af (BP (Cy n) t f) (if t.un.1 = 3 ∧ t.un.2.1 = f then [t.un.2.2.1] else [],0) = some o := h2
    rw [h2',h1,Option.bind_some,NJ]
theorem WB {t : Tr34} (hc : t.cnt ≤ 1048576) (f : Int) : HT t f = some (FT f t) := Bq (g := fun n => Cy n t f) (fun n r h => I8 n t f r h) (Sb f (SizeOf.sizeOf t + 1) t (by omega) hc)
theorem TI : ∀ (R S : List Int),R.Nodup → (∀ x ∈ R,x ∈ S) → R.length ≤ S.length
  | [],_,_,_ => Nat.zero_le _
  | x :: R,S,h,hs => by
    obtain ⟨h1,h2⟩ := List.nodup_cons.1 h
    have hx := hs x (List.mem_cons_self ..)
    have ih := TI R (S.erase x) h2 fun y hy => (List.mem_erase_of_ne (fun e => h1 (by rw [← e]; exact hy))).2 (hs y (List.mem_cons_of_mem _ hy))
    rw [List.length_erase_of_mem hx] at ih
    have := List.length_pos_of_mem hx
    rw [List.length_cons]; omega
def gt (a : Int × Int × PK) (f : Int) : Int := if f = 0 then a.2.2.1 else if f = 1 then a.2.2.2.1 else if f = 2 then a.2.2.2.2.1 else if f = 3 then a.2.2.2.2.2 else if f = 4 then a.2.1 else if f = 5 then a.1 else -1
theorem sE {p : PK} {f : Int} (h : 0 ≤ f ∧ f < 4) (s q : Int) : ix [p.1,p.2.1,p.2.2.1,p.2.2.2] f = some (gt (s,q,p) f) := by
  have : f = 0 ∨ f = 1 ∨ f = 2 ∨ f = 3 := by omega
  rcases this with rfl | rfl | rfl | rfl <;> rfl
theorem nY (f s q : Int) (p : PK) : Jb f s q p = some (gt (s,q,p) f) := by
  unfold Jb
  by_cases c4 : f = 4
  · subst c4; rfl
  · rw [if_neg c4]
    by_cases c5 : f = 5
    · subst c5; rfl
    · rw [if_neg c5]
      by_cases c : 0 ≤ f ∧ f ≤ 5
      · have h4 : 0 ≤ f ∧ f < 4 := by omega
        rw [if_pos (by unfold Dw; simp; exact c)]
        unfold G7
        rw [if_neg (by unfold Cv; simp; omega),sE h4 s q]; rfl
      · rw [if_neg (by unfold Dw; simp; omega)]
        unfold gt
        rw [if_neg (by omega),if_neg (by omega),if_neg (by omega),if_neg (by omega),if_neg (by omega),if_neg (by omega)]
theorem kV (f s q : Int) (p : PK) : KH f s q p = some (gt (s,q,p) f) := by
  unfold KH
  by_cases c : 0 ≤ f ∧ f < 4
  · rw [if_pos (by simp; exact c),sE c s q]; rfl
  · rw [if_neg (by simp; omega)]
    by_cases c4 : f = 4
    · subst c4; rfl
    · rw [if_neg c4]
      by_cases c5 : f = 5
      · subst c5; rfl
      · rw [if_neg c5]
        unfold gt
        rw [if_neg (by omega),if_neg (by omega),if_neg (by omega),if_neg (by omega),if_neg (by omega),if_neg (by omega)]
def dN (a : Int × Int × PK) (k f v : Int) (bs : List Bool) : Bool :=
  if k = 1 then true else if k = 3 then decide ((0 ≤ f ∧ f ≤ 5) ∧ gt a f = v) else if k = 4 then (match bs with | [] => false | b :: _ => !b) else if k = 5 then bs.all id else if k = 6 then bs.any id else false
def Ld (a : Int × Int × PK) : Tr34 → Bool
  | .mk k f v l => dN a k f v (l.map (Ld a))
theorem cM (a : Int × Int × PK) (t : Tr34) : Ld a t = dN a t.un.1 t.un.2.1 t.un.2.2.1 (t.un.2.2.2.map (Ld a)) := by cases t; rw [Ld]; rfl
theorem Yh {α : Type} (l : List α) (q : α → Bool) (step : Int → Option (Int ⊕ (Unit ⊕ Int)))
    (hs : ∀ k (hk : k < l.length),step (k : Int) = if q l[k] = true then some (.inr (.inr (k : Int))) else some (.inl ((k + 1 : Nat) : Int)))
    (he : step (l.length : Int) = some (.inr (.inl ()))) : ∃ i : Int,Hw (Af step 0) (fun _ => some (-1)) = some i ∧ decide (0 ≤ i) = l.any q := by
  have key : ∀ (d k : Nat),k + d = l.length → (∀ x ∈ l.take k,q x = false) → ∃ i : Int,Hw (Af step (k : Int)) (fun _ => some (-1)) = some i ∧ decide (0 ≤ i) = l.any q := by
    intro d
    induction d with
    | zero =>
      intro k hk hn
      rw [List.take_of_length_le (by omega)] at hn
      refine ⟨-1,by rw [show (k : Int) = (l.length : Int) by omega,An he]; rfl, ?_⟩
      rw [decide_eq_false (by omega)]
      exact (List.any_eq_false.2 fun x hx => by rw [hn x hx]; simp).symm
    | succ d ih =>
      intro k hk hn
      have hkl : k < l.length := by omega
      have hst := hs k hkl
      by_cases c : q l[k] = true
      · rw [if_pos c] at hst
        refine ⟨(k : Int),by rw [An hst]; rfl, ?_⟩
        rw [decide_eq_true (by omega)]
        exact (List.any_eq_true.2 ⟨_,List.getElem_mem hkl,c⟩).symm
      · rw [if_neg c] at hst
        rw [A0 hst]
        refine ih (k + 1) (by omega) fun x hx => ?_
        rw [List.take_succ_eq_append_getElem hkl] at hx
        rcases List.mem_append.1 hx with h | h
        · exact hn x h
        · rw [List.mem_singleton.1 h]; simpa using c
  exact key l.length 0 (by omega) (by simp)
theorem b6 (a : Int × Int × PK) : ∀ (n : Nat) (t : Tr34),SizeOf.sizeOf t < n → t.cnt ≤ 1048576 → AM n a t = some (Ld a t)
  | 0,t,h,_ => absurd h (Nat.not_lt_zero _)
  | n + 1,t,h,hc => by
    have hl := qQ t
    have hx : ∀ x ∈ t.un.2.2.2,AM n a x = some (Ld a x) := fun x hm => b6 a n x (by have := Rx hm; omega) (Nat.le_trans (l9 hm) hc)
    show AY (AM n) a t = _
    rw [cM]
    unfold AY dN
    by_cases c1 : t.un.1 = 1
    · rw [if_pos c1,if_pos c1]
    rw [if_neg c1,if_neg c1]
    by_cases c3 : t.un.1 = 3
    · rw [if_pos c3,if_pos c3,nY]
      unfold Dw
      rw [← Bool.decide_and]
      by_cases k : 0 ≤ t.un.2.1 ∧ t.un.2.1 ≤ 5
      · rw [if_pos (decide_eq_true k),Option.bind_some,Option.bind_some]
        exact congrArg some (decide_eq_decide.2 ⟨fun h => ⟨k,h⟩,fun h => h.2⟩)
      · rw [if_neg (by simpa using k),Option.bind_some,decide_eq_false (fun h => k h.1)]
    rw [if_neg c3,if_neg c3]
    by_cases c4 : t.un.1 = 4
    · rw [if_pos c4,if_pos c4]
      cases hll : t.un.2.2.2 with
      | nil => rfl
      | cons y l =>
        rw [if_pos (by simp only [List.length_cons]; omega),show ix (y :: l) 0 = some y from A7 (k := 0) rfl,Option.bind_some]
        unfold A8
        rw [hx y (by rw [hll]; exact List.mem_cons_self ..)]; rfl
    rw [if_neg c4,if_neg c4]
    by_cases c5 : t.un.1 = 5
    · rw [if_pos c5,if_pos c5]
      obtain ⟨i,i1,i2⟩ := Yh t.un.2.2.2 (fun x => !Ld a x) (Ak (AM n) t.un.2.2.2 a) (fun k hk => by
        rw [Ak,if_pos (by omega),A7 (List.getElem?_eq_getElem hk),Option.bind_some]
        unfold A8
        rw [hx _ (List.getElem_mem hk),Option.bind_some,Option.bind_some,Ad (by omega)]; rfl) (by rw [Ak,if_neg (by omega)])
      unfold AA Az
      rw [i1,Option.bind_some,Option.bind_some,i2,List.all_map]
      congr 1
      rw [List.any_eq_not_all_not]
      simp only [Bool.not_not]
      rfl
    rw [if_neg c5,if_neg c5]
    by_cases c6 : t.un.1 = 6
    · rw [if_pos c6,if_pos c6]
      obtain ⟨i,i1,i2⟩ := Yh t.un.2.2.2 (fun x => Ld a x) (Aj (AM n) t.un.2.2.2 a) (fun k hk => by
        rw [Aj,if_pos (by omega),A7 (List.getElem?_eq_getElem hk),Option.bind_some,hx _ (List.getElem_mem hk),Option.bind_some,Ad (by omega)]; rfl) (by rw [Aj,if_neg (by omega)])
      unfold Av Au
      rw [i1,Option.bind_some,Option.bind_some,i2,List.any_map]; rfl
    rw [if_neg c6,if_neg c6]
theorem kO {t : Tr34} (hc : t.cnt ≤ 1048576) (s q : Int) (p : PK) : Fe t s q p = some (Ld (s,q,p) t) := by
  unfold Fe
  rw [show Da (s,q,p) t = some (Ld (s,q,p) t) from Bq (g := fun n => AM n (s,q,p) t) (fun n r h => DW n (s,q,p) t r h) (b6 _ (SizeOf.sizeOf t + 1) t (by omega) hc)]; rfl
end Go.Proofs.YtpckgggmgijiiaaGreatDoor
namespace Go.Proofs.YtpckgggmgijiiaaGreatDoor
set_option linter.unusedVariables false
set_option linter.unusedSimpArgs false
open Go Go.RowKit
def th : Tr34 → Tr24
  | .mk k f v l => .mk k f v (l.map th)
theorem uK (t : Tr34) : th t = Tr24.of (t.un.1,t.un.2.1,t.un.2.2.1,t.un.2.2.2.map th) := by cases t; rw [th]; rfl
theorem n8 (t : Tr24) : Tr24.of t.un = t := by cases t; rfl
theorem uH (t : Tr34) : Tr34.of t.un = t := by cases t; rfl
theorem lN : ∀ (n : Nat) (t : Tr24),SizeOf.sizeOf t < n → th (mi t) = t
  | 0,t,h => absurd h (Nat.not_lt_zero _)
  | n + 1,t,h => by
    rw [uK,M0]
    show Tr24.of (t.un.1,t.un.2.1,t.un.2.2.1,(t.un.2.2.2.map mi).map th) = t
    rw [List.map_map,show t.un.2.2.2.map (th ∘ mi) = t.un.2.2.2 from map_id_in fun x hx => lN n x (by have := SH hx; omega)]
    exact n8 t
where map_id_in {α : Type} {g : α → α} : ∀ {l : List α},(∀ x ∈ l,g x = x) → l.map g = l
  | [],_ => rfl
  | x :: l,h => by rw [List.map_cons,h x (List.mem_cons_self ..),map_id_in fun y hy => h y (List.mem_cons_of_mem _ hy)]
theorem th_mi' (t : Tr24) : th (mi t) = t := lN (SizeOf.sizeOf t + 1) t (by omega)
theorem p8 {a b : Tr24} (h : mi a = mi b) : a = b := by rw [← th_mi' a,h,th_mi' b]
theorem Yk : ∀ (n : Nat) (t : Tr34),SizeOf.sizeOf t < n → t.cnt ≤ 1048576 → Dj n t = some (t.cnt : Int)
  | 0,t,h,_ => absurd h (Nat.not_lt_zero _)
  | n + 1, t, h, hc => by
    have hl := qQ t
    have hcc := Lp t
    show C6 (Dj n) t = _
    unfold C6
    obtain ⟨o,h1,h2⟩ := CR t.un.2.2.2.length (fun (o : Int) (i : Nat) => (o,(i : Int))) (Cu (Dj n) t) id (fun o i => o = 1 + (((t.un.2.2.2.take i).map Tr34.cnt).sum : Nat))
      (fun o i hi ho => by
        have hm := List.getElem_mem hi
        have hx := Yk n t.un.2.2.2[i] (by have := Rx hm; omega) (Nat.le_trans (l9 hm) hc)
        have hs : ((t.un.2.2.2.take (i + 1)).map Tr34.cnt).sum = ((t.un.2.2.2.take i).map Tr34.cnt).sum + t.un.2.2.2[i].cnt := by
          rw [List.take_succ_eq_append_getElem hi,List.map_append,List.sum_append]; simp
        have hle := Hu (g := Tr34.cnt) t.un.2.2.2 (i + 1)
        refine ⟨o + (t.un.2.2.2[i].cnt : Int), ?_,by rw [ho,hs]; omega⟩
        rw [Cu,if_pos (by omega),A7 (List.getElem?_eq_getElem hi),Option.bind_some,hx,Option.bind_some,Ad (by rw [ho]; omega),Ad (by omega)]; rfl)
      (fun o _ => by rw [Cu,if_neg (by omega)]; rfl) 1 (by simp)
    rw [List.take_length] at h1
    have h2' : Af (Cu (Dj n) t) (1,0) = some o := h2
    rw [h2',h1,Option.bind_some,hcc]
    congr 1
theorem VJ {t : Tr34} (hc : t.cnt ≤ 1048576) : HA t = some (t.cnt : Int) := Bq (g := fun n => Dj n t) (fun n r h => IR n t r h) (Yk (SizeOf.sizeOf t + 1) t (by omega) hc)
def mx : List Nat → Nat
  | [] => 0
  | a :: l => max a (mx l)
theorem lA {l : List Nat} {a : Nat} (h : a ∈ l) : a ≤ mx l := by
  induction l with
  | nil => cases h
  | cons x l ih =>
    rcases List.mem_cons.1 h with e | h
    · rw [e]; exact Nat.le_max_left _ _
    · exact Nat.le_trans (ih h) (Nat.le_max_right _ _)
theorem YQ {l : List Nat} {b : Nat} (h : ∀ a ∈ l,a ≤ b) : mx l ≤ b := by
  induction l with
  | nil => exact Nat.zero_le _
  | cons x l ih => exact Nat.max_le.2 ⟨h x (List.mem_cons_self ..),ih fun a ha => h a (List.mem_cons_of_mem _ ha)⟩
theorem T5 (l : List Nat) (a : Nat) : mx (l ++ [a]) = max (mx l) a := by
  induction l with
  | nil => simp [mx]
  | cons x l ih => rw [List.cons_append,mx,ih,mx,Nat.max_assoc]
def dp : Tr34 → Nat
  | .mk _ _ _ l => 1 + mx (l.map dp)
theorem dX (t : Tr34) : dp t = 1 + mx (t.un.2.2.2.map dp) := by cases t; rw [dp]; rfl
theorem aS : ∀ (n : Nat) (t : Tr34),SizeOf.sizeOf t < n → dp t ≤ t.cnt
  | 0,t,h => absurd h (Nat.not_lt_zero _)
  | n + 1,t,h => by
    rw [dX,Lp]
    have : mx (t.un.2.2.2.map dp) ≤ (t.un.2.2.2.map Tr34.cnt).sum := YQ fun a ha => by
      obtain ⟨x,hx,rfl⟩ := List.mem_map.1 ha
      exact Nat.le_trans (aS n x (by have := Rx hx; omega)) (LT (g := Tr34.cnt) hx)
    omega
theorem sB (t : Tr24) : dp (mi t) = 1 + mx (t.un.2.2.2.map fun x => dp (mi x)) := by rw [dX,M0,List.map_map]; rfl
theorem Wx (t : Tr24) : (mi t).cnt = t.cnt := fB (SizeOf.sizeOf t + 1) t (by omega)
theorem Yu : ∀ (n : Nat) (t : Tr24),SizeOf.sizeOf t < n → t.cnt ≤ 1048576 → EO n t = some (dp (mi t) : Int)
  | 0,t,h,_ => absurd h (Nat.not_lt_zero _)
  | n + 1, t, h, hc => by
    have hl := lZ t
    show Ew (EO n) t = _
    unfold Ew
    obtain ⟨o,h1,h2⟩ := CR t.un.2.2.2.length (fun (o : Int) (i : Nat) => (o,(i : Int))) (Dh (EO n) t) id (fun o i => o = 1 + (mx ((t.un.2.2.2.take i).map fun x => dp (mi x)) : Nat))
      (fun o i hi ho => by
        have hm := List.getElem_mem hi
        have hx := Yu n t.un.2.2.2[i] (by have := SH hm; omega) (Nat.le_trans (gH hm) hc)
        have hd := aS (SizeOf.sizeOf (mi t.un.2.2.2[i]) + 1) (mi t.un.2.2.2[i]) (by omega)
        rw [Wx] at hd
        have hcl := gH hm
        refine ⟨max o (dp (mi t.un.2.2.2[i]) + 1 : Int), ?_,by rw [ho,List.take_succ_eq_append_getElem hi,List.map_append,List.map_cons,List.map_nil,T5]; omega⟩
        rw [Dh,if_pos (by omega),A7 (List.getElem?_eq_getElem hi),Option.bind_some,hx,Option.bind_some,Ad (by omega)]
        by_cases q : o < (dp (mi t.un.2.2.2[i]) : Int) + 1
        · rw [if_pos q,Option.bind_some,hx,Option.bind_some,Ad (by omega),Option.bind_some,Ad (by omega)]
          rw [show max o ((dp (mi t.un.2.2.2[i]) : Int) + 1) = (dp (mi t.un.2.2.2[i]) : Int) + 1 by omega]; rfl
        · rw [if_neg q,Option.bind_some,Ad (by omega)]
          rw [show max o ((dp (mi t.un.2.2.2[i]) : Int) + 1) = o by omega]; rfl)
      (fun o _ => by rw [Dh,if_neg (by omega)]; rfl) 1 (by simp [mx])
    rw [List.take_length] at h1
    have h2' : Af (Dh (EO n) t) (1,0) = some o := h2
    rw [h2',h1,Option.bind_some,sB]
    exact congrArg some (by omega)
theorem aJ {t : Tr24} (hc : t.cnt ≤ 1048576) : NS t = some (dp (mi t) : Int) := Bq (g := fun n => EO n t) (fun n r h => MJ n t r h) (Yu (SizeOf.sizeOf t + 1) t (by omega) hc)
theorem sI {a b : Tr34} (h1 : a.un.1 = b.un.1) (h2 : a.un.2.1 = b.un.2.1) (h3 : a.un.2.2.1 = b.un.2.2.1) (h4 : a.un.2.2.2 = b.un.2.2.2) : a = b := by
  rw [← uH a, ← uH b]
  show Tr34.mk _ _ _ _ = Tr34.mk _ _ _ _
  rw [h1,h2,h3,h4]
theorem qY {a b : Tr24} (h1 : a.un.1 = b.un.1) (h2 : a.un.2.1 = b.un.2.1) (h3 : a.un.2.2.1 = b.un.2.2.1) (h4 : a.un.2.2.2 = b.un.2.2.2) : a = b := by
  rw [← n8 a, ← n8 b]
  show Tr24.mk _ _ _ _ = Tr24.mk _ _ _ _
  rw [h1,h2,h3,h4]
theorem Jo {α : Type} {l m : List α} (hl : l.length = m.length) : (∃ k,k < l.length ∧ l[k]? ≠ m[k]?) ↔ l ≠ m := by
  constructor
  · rintro ⟨k,_,h⟩ rfl; exact h rfl
  · intro h
    refine Classical.byContradiction fun hn => h (List.ext_getElem? fun k => ?_)
    by_cases hk : k < l.length
    · exact Classical.byContradiction fun h2 => hn ⟨k,hk,h2⟩
    · rw [List.getElem?_eq_none (by omega),List.getElem?_eq_none (by omega)]
open Classical in
theorem Y6 : ∀ (n : Nat) (a b : Tr34),SizeOf.sizeOf a < n → a.cnt ≤ 1048576 → DF n a b = some (decide (a = b))
  | 0,a,b,h,_ => absurd h (Nat.not_lt_zero _)
  | n + 1, a, b, h, hc => by
    have hl := qQ a
    show DT (DF n) a b = _
    unfold DT
    by_cases c1 : a.un.1 = b.un.1
    · rw [if_pos c1]
      by_cases c2 : a.un.2.1 = b.un.2.1
      · rw [if_pos c2]
        by_cases c3 : a.un.2.2.1 = b.un.2.2.1
        · rw [if_pos c3]
          unfold Ae
          by_cases c4 : a.un.2.2.2.length = b.un.2.2.2.length
          · rw [if_neg (by omega)]
            rw [HL a.un.2.2.2.length (Ab (DF n) a.un.2.2.2 b.un.2.2.2) (fun k => a.un.2.2.2[k]? ≠ b.un.2.2.2[k]?) false (fun k hk => by
              have hm := List.getElem_mem hk
              have hkb : k < b.un.2.2.2.length := by omega
              have hx := Y6 n a.un.2.2.2[k] b.un.2.2.2[k] (by have := Rx hm; omega) (Nat.le_trans (l9 hm) hc)
              rw [Ab,if_pos (by omega),A7 (List.getElem?_eq_getElem hk),Option.bind_some,A7 (List.getElem?_eq_getElem hkb),Option.bind_some,hx,Option.bind_some,Ad (by omega)]
              by_cases e : a.un.2.2.2[k] = b.un.2.2.2[k]
              · rw [decide_eq_true e,if_neg (by decide),if_neg (by rw [List.getElem?_eq_getElem hk,List.getElem?_eq_getElem hkb,e]; simp)]; rfl
              · rw [decide_eq_false e,if_pos (by decide),if_pos (by rw [List.getElem?_eq_getElem hk,List.getElem?_eq_getElem hkb]; simpa using e)]) (by rw [Ab,if_neg (by omega)])]
            by_cases e : a.un.2.2.2 = b.un.2.2.2
            · rw [if_neg (fun hh => (Jo c4).1 hh e),decide_eq_true (sI c1 c2 c3 e)]; rfl
            · rw [if_pos ((Jo c4).2 e),decide_eq_false (fun hh => e (by rw [hh]))]; rfl
          · rw [if_pos (by omega),decide_eq_false (fun hh => c4 (by rw [hh]))]; rfl
        · rw [if_neg c3,decide_eq_false (fun hh => c3 (by rw [hh]))]; rfl
      · rw [if_neg c2,decide_eq_false (fun hh => c2 (by rw [hh]))]; rfl
    · rw [if_neg c1,decide_eq_false (fun hh => c1 (by rw [hh]))]; rfl
open Classical in
theorem WK {a b : Tr34} (hc : a.cnt ≤ 1048576) : Iy a b = some (decide (a = b)) := Bq (g := fun n => DF n a b) (fun n r h => IJ n a b r h) (Y6 (SizeOf.sizeOf a + 1) a b (by omega) hc)
open Classical in
theorem YH : ∀ (n : Nat) (a b : Tr24),SizeOf.sizeOf a < n → a.cnt ≤ 2097152 → FC n a b = some (decide (a = b))
  | 0,a,b,h,_ => absurd h (Nat.not_lt_zero _)
  | n + 1,a,b,h,hc => by
    have hl := lZ a
    show Ey (FC n) a b = _
    unfold Ey
    by_cases c : a.un.1 = b.un.1 ∧ a.un.2.1 = b.un.2.1 ∧ a.un.2.2.1 = b.un.2.2.1 ∧ a.un.2.2.2.length = b.un.2.2.2.length
    · obtain ⟨c1,c2,c3,c4⟩ := c
      rw [if_neg (by simp [c1,c2,c3,c4])]
      rw [HL a.un.2.2.2.length (EI (FC n) a b) (fun k => a.un.2.2.2[k]? ≠ b.un.2.2.2[k]?) false (fun k hk => by
        have hm := List.getElem_mem hk
        have hkb : k < b.un.2.2.2.length := by omega
        have hx := YH n a.un.2.2.2[k] b.un.2.2.2[k] (by have := SH hm; omega) (Nat.le_trans (gH hm) hc)
        rw [EI,if_pos (by omega),A7 (List.getElem?_eq_getElem hk),Option.bind_some,A7 (List.getElem?_eq_getElem hkb),Option.bind_some,hx,Option.bind_some,Ad (by omega)]
        by_cases e : a.un.2.2.2[k] = b.un.2.2.2[k]
        · rw [decide_eq_true e,if_neg (by decide),if_neg (by rw [List.getElem?_eq_getElem hk,List.getElem?_eq_getElem hkb,e]; simp)]; rfl
        · rw [decide_eq_false e,if_pos (by decide),if_pos (by rw [List.getElem?_eq_getElem hk,List.getElem?_eq_getElem hkb]; simpa using e)]) (by rw [EI,if_neg (by omega)])]
      by_cases e : a.un.2.2.2 = b.un.2.2.2
      · rw [if_neg (fun hh => (Jo c4).1 hh e),decide_eq_true (qY c1 c2 c3 e)]; rfl
      · rw [if_pos ((Jo c4).2 e),decide_eq_false (fun hh => e (by rw [hh]))]; rfl
    · rw [if_pos (by simp only [Bool.or_eq_true,decide_eq_true_eq]; omega),decide_eq_false (fun hh => c (by rw [hh]; exact ⟨rfl,rfl,rfl,rfl⟩))]
open Classical in
theorem Wp {a b : Tr24} (hc : a.cnt ≤ 2097152) : Ka a b = some (decide (a = b)) := Bq (g := fun n => FC n a b) (fun n r h => ML n a b r h) (YH (SizeOf.sizeOf a + 1) a b (by omega) hc)
theorem nR (a : Int × Int × PK) (t : Tr24) : Ld a (mi t) = dN a t.un.1 t.un.2.1 t.un.2.2.1 (t.un.2.2.2.map fun x => Ld a (mi x)) := by rw [cM,M0,List.map_map]; rfl
theorem Wj {α : Type} (q : α → Bool) (l : List α) : l.countP q ≤ l.length ∧ (l.countP q = l.length ↔ l.all q = true) ∧ (0 < l.countP q ↔ l.any q = true) :=
  ⟨List.countP_le_length,by rw [List.countP_eq_length,List.all_eq_true],by rw [List.countP_pos_iff,List.any_eq_true]⟩
theorem YG (s q : Int) (p : PK) : ∀ (n : Nat) (t : Tr24),SizeOf.sizeOf t < n → t.cnt ≤ 1048576 → Eg n t s q p = some (Ld (s,q,p) (mi t))
  | 0,t,h,_ => absurd h (Nat.not_lt_zero _)
  | n + 1, t, h, hc => by
    have hl := lZ t
    have hx : ∀ x ∈ t.un.2.2.2,Eg n x s q p = some (Ld (s,q,p) (mi x)) := fun x hm => YG s q p n x (by have := SH hm; omega) (Nat.le_trans (gH hm) hc)
    show EC (Eg n) t s q p = _
    rw [nR]
    unfold EC dN
    by_cases c1 : t.un.1 = 1
    · rw [if_pos c1,if_pos c1]
    rw [if_neg c1,if_neg c1]
    by_cases c3 : t.un.1 = 3
    · rw [if_pos c3,if_pos c3]
      by_cases k : 0 ≤ t.un.2.1 ∧ t.un.2.1 ≤ 5
      · rw [if_pos k.1,if_pos (by omega),kV,Option.bind_some,Option.bind_some]
        exact congrArg some (decide_eq_decide.2 ⟨fun h => ⟨k,h⟩,fun h => h.2⟩)
      · rw [decide_eq_false (fun h => k h.1)]
        by_cases k0 : 0 ≤ t.un.2.1
        · rw [if_pos k0,if_neg (by omega)]; rfl
        · rw [if_neg k0]; rfl
    rw [if_neg c3,if_neg c3]
    by_cases c4 : t.un.1 = 4
    · rw [if_pos c4,if_pos c4]
      cases hll : t.un.2.2.2 with
      | nil => rfl
      | cons y l =>
        rw [if_pos (by simp only [List.length_cons]; omega),show ix (y :: l) 0 = some y from A7 (k := 0) rfl,Option.bind_some,hx y (by rw [hll]; exact List.mem_cons_self ..)]; rfl
    rw [if_neg c4,if_neg c4]
    obtain ⟨o,h1,h2⟩ := CR t.un.2.2.2.length (fun (o : Int) (i : Nat) => (o,(i : Int))) (Dk (Eg n) t s q p) id (fun o i => o = ((t.un.2.2.2.take i).countP fun x => Ld (s,q,p) (mi x) : Nat))
      (fun o i hi ho => by
        have hle := (Wj (fun x => Ld (s,q,p) (mi x)) (t.un.2.2.2.take i)).1
        rw [List.length_take] at hle
        refine ⟨o + (if Ld (s,q,p) (mi t.un.2.2.2[i]) = true then 1 else 0), ?_, ?_⟩
        · rw [Dk,if_pos (by omega),A7 (List.getElem?_eq_getElem hi),Option.bind_some,hx _ (List.getElem_mem hi),Option.bind_some]
          by_cases e : Ld (s,q,p) (mi t.un.2.2.2[i]) = true
          · rw [if_pos e,if_pos e,Option.bind_some,Ad (by omega),Ad (by omega)]; rfl
          · rw [if_neg e,if_neg e,Option.bind_some,Ad (by omega),Int.add_zero]; rfl
        · rw [ho,List.take_succ_eq_append_getElem hi,List.countP_append,List.countP_singleton]
          split <;> omega)
      (fun o _ => by rw [Dk,if_neg (by omega)]; rfl) 0 (by simp)
    rw [List.take_length] at h1
    have h2' : Af (Dk (Eg n) t s q p) (0,0) = some o := h2
    obtain ⟨k1,k2,k3⟩ := Wj (fun x => Ld (s,q,p) (mi x)) t.un.2.2.2
    rw [h2',Option.bind_some,h1,List.all_map,List.any_map]
    congr 1
    by_cases c5 : t.un.1 = 5
    · rw [if_pos c5,decide_eq_true c5]
      show (decide _ || _) = _
      rw [show decide (t.un.1 = 6) = false from decide_eq_false (by omega),Bool.false_and,Bool.or_false]
      cases hq : t.un.2.2.2.all fun x => Ld (s,q,p) (mi x) with
      | true => exact (decide_eq_true (by have := k2.2 hq; omega)).trans hq.symm |>.trans rfl
      | false => exact (decide_eq_false (fun e => by have := k2.1 (by omega); rw [hq] at this; cases this)).trans hq.symm |>.trans rfl
    · rw [if_neg c5,decide_eq_false c5]
      show (decide _ && decide _) = _
      by_cases c6 : t.un.1 = 6
      · rw [if_pos c6,decide_eq_true c6,Bool.true_and]
        cases hq : t.un.2.2.2.any fun x => Ld (s,q,p) (mi x) with
        | true => exact (decide_eq_true (by have := k3.2 hq; omega)).trans hq.symm |>.trans rfl
        | false => exact (decide_eq_false (fun e => by have := k3.1 (by omega); rw [hq] at this; cases this)).trans hq.symm |>.trans rfl
      · rw [if_neg c6,decide_eq_false c6,Bool.false_and]
theorem gA {t : Tr24} (hc : t.cnt ≤ 1048576) (s q : Int) (p : PK) : OT t s q p = some (Ld (s,q,p) (mi t)) := Bq (g := fun n => Eg n t s q p) (fun n r h => MG n t s q p r h) (YG s q p (SizeOf.sizeOf t + 1) t (by omega) hc)
theorem dZ (f : Int) : Jd f = some (CF f) := by
  unfold Jd CF
  by_cases c : (decide (f = 4) || decide (f = 5)) = true
  · rw [if_pos c,if_pos c]
  · rw [if_neg c,if_neg c]
    unfold Ga Ge E4
    by_cases c2 : f = 2
    · subst c2; rfl
    by_cases c0 : f = 0
    · subst c0; rfl
    by_cases c1 : f = 1
    · subst c1; rfl
    by_cases c3 : f = 3
    · subst c3; rfl
    rw [if_neg c0,if_neg c1,decide_eq_false c3,Option.bind_some,if_neg (by decide),if_neg c2,if_neg c2,if_neg (by simp [c0,c1,c3])]; rfl
theorem IV (f : Int) : 0 ≤ CF f ∧ CF f ≤ 255 := by
  unfold CF E4
  split
  · omega
  · split
    · omega
    · split <;> omega
abbrev Gm (k f v : Int) (n : Nat) : Prop := 1 ≤ k ∧ k ≤ 6 ∧ (k ≠ 3 → f = 0 ∧ v = 0) ∧ (k = 3 → 0 ≤ f ∧ f ≤ 5 ∧ 0 ≤ v ∧ v ≤ CF f) ∧ (k ≤ 3 → n = 0) ∧ (k = 4 → n = 1) ∧ (5 ≤ k → 2 ≤ n ∧ n ≤ 8)
theorem cO (t : Tr34) : HP t = some (decide (Gm t.un.1 t.un.2.1 t.un.2.2.1 t.un.2.2.2.length)) := by
  unfold HP
  by_cases c3 : t.un.1 = 3
  · rw [if_pos c3]
    unfold Dw
    rw [← Bool.decide_and]
    by_cases k : 0 ≤ t.un.2.1 ∧ t.un.2.1 ≤ 5
    · rw [if_pos (decide_eq_true k)]
      by_cases v0 : 0 ≤ t.un.2.2.1
      · rw [if_pos v0,dZ,Option.bind_some]
        by_cases v1 : t.un.2.2.1 ≤ CF t.un.2.1
        · rw [if_pos v1,Option.bind_some]
          exact congrArg some (decide_eq_decide.2 ⟨fun h => by unfold Gm; omega,fun h => by unfold Gm at h; omega⟩)
        · rw [if_neg v1,Option.bind_some,decide_eq_false (fun h => by unfold Gm at h; omega)]
      · rw [if_neg v0,Option.bind_some,decide_eq_false (fun h => by unfold Gm at h; omega)]
    · rw [if_neg (by simpa using k),Option.bind_some,decide_eq_false (fun h => by unfold Gm at h; omega)]
  · rw [if_neg c3]
    by_cases z : t.un.2.1 = 0 ∧ t.un.2.2.1 = 0
    · rw [if_neg (by simp [z.1,z.2])]
      by_cases c1 : t.un.1 = 1
      · rw [if_pos c1,Option.bind_some,if_pos rfl]
        exact congrArg some (decide_eq_decide.2 ⟨fun h => by unfold Gm; omega,fun h => by unfold Gm at h; omega⟩)
      · rw [if_neg c1,Option.bind_some]
        by_cases c2 : t.un.1 = 2
        · rw [if_pos (decide_eq_true c2)]
          exact congrArg some (decide_eq_decide.2 ⟨fun h => by unfold Gm; omega,fun h => by unfold Gm at h; omega⟩)
        · rw [if_neg (by simpa using c2)]
          by_cases c4 : t.un.1 = 4
          · rw [if_pos c4]
            exact congrArg some (decide_eq_decide.2 ⟨fun h => by unfold Gm; omega,fun h => by unfold Gm at h; omega⟩)
          · rw [if_neg c4]
            by_cases c5 : t.un.1 = 5
            · rw [if_pos c5,Option.bind_some,if_pos rfl, ← Bool.decide_and]
              exact congrArg some (decide_eq_decide.2 ⟨fun h => by unfold Gm; omega,fun h => by unfold Gm at h; omega⟩)
            · rw [if_neg c5,Option.bind_some]
              by_cases c6 : t.un.1 = 6
              · rw [if_pos (decide_eq_true c6), ← Bool.decide_and]
                exact congrArg some (decide_eq_decide.2 ⟨fun h => by unfold Gm; omega,fun h => by unfold Gm at h; omega⟩)
              · rw [if_neg (by simpa using c6),decide_eq_false (fun h => by unfold Gm at h; omega)]
    · rw [if_pos (by simp only [Bool.or_eq_true,decide_eq_true_eq]; omega),decide_eq_false (fun h => by unfold Gm at h; omega)]
def Hv : Tr34 → Bool
  | .mk k f v l => decide (Gm k f v l.length) && (l.map Hv).all id
theorem I0 (t : Tr34) : Hv t = true ↔ Gm t.un.1 t.un.2.1 t.un.2.2.1 t.un.2.2.2.length ∧ ∀ x ∈ t.un.2.2.2,Hv x = true := by
  cases t with
  | mk k f v l =>
    rw [Hv,Bool.and_eq_true,decide_eq_true_eq,List.all_map,List.all_eq_true]; rfl
abbrev NU (t : Tr34) (b d : Int) : Prop := Hv t = true ∧ (dp t : Int) ≤ d ∧ (t.cnt : Int) ≤ b
theorem VZ : ∀ (n : Nat) (t : Tr34),SizeOf.sizeOf t < n → t.cnt ≤ 1048576 → ∀ b d : Int,0 ≤ b → b ≤ 1000 → 0 ≤ d → d ≤ 1000 →
    (NU t b d → AK n b t d = some (true,b - t.cnt)) ∧ (¬ NU t b d → ∃ b',AK n b t d = some (false,b'))
  | 0,t,h,_ => absurd h (Nat.not_lt_zero _)
  | n + 1, t, h, hc => by
    intro b d b0 b1 d0 d1
    have hl := qQ t
    have hcc := Lp t
    have hde := dX t
    have hst : AK (n + 1) b t d = Bi (AK n) b t d := rfl
    rw [hst]
    unfold Bi
    rw [Ad (by omega)]
    by_cases g1 : b - 1 < 0
    · rw [if_pos g1,Option.bind_some,if_pos rfl]
      exact ⟨fun hk => by have := hk.2.2; omega,fun _ => ⟨_,rfl⟩⟩
    rw [if_neg g1]
    by_cases g2 : d < 1
    · rw [if_pos g2,Option.bind_some,if_pos rfl]
      exact ⟨fun hk => by have := hk.2.1; omega,fun _ => ⟨_,rfl⟩⟩
    rw [if_neg g2,cO,Option.bind_some,Option.bind_some]
    by_cases g3 : Gm t.un.1 t.un.2.1 t.un.2.2.1 t.un.2.2.2.length
    · rw [decide_eq_true g3,if_neg (by decide)]
      have key : ∀ (m i : Nat),i + m = t.un.2.2.2.length → (∀ x ∈ t.un.2.2.2.take i,Hv x = true ∧ (dp x : Int) ≤ d - 1) → (((t.un.2.2.2.take i).map Tr34.cnt).sum : Int) ≤ b - 1 →
          (NU t b d → Hw (Af (AH (AK n) t d) ((i : Int),b - 1 - (((t.un.2.2.2.take i).map Tr34.cnt).sum : Nat))) (fun x3 => some (true,x3)) = some (true,b - t.cnt)) ∧ (¬ NU t b d → ∃ b',Hw (Af (AH (AK n) t d) ((i : Int),b - 1 - (((t.un.2.2.2.take i).map Tr34.cnt).sum : Nat))) (fun x3 => some (true,x3)) = some (false,b')) := by
        intro m
        induction m with
        | zero =>
          intro i hi hx hs
          have e0 : t.un.2.2.2.take i = t.un.2.2.2 := List.take_of_length_le (by omega)
          rw [e0] at hx hs ⊢
          have hend : Af (AH (AK n) t d) ((i : Int),b - 1 - ((t.un.2.2.2.map Tr34.cnt).sum : Nat)) = some (.inl (b - 1 - ((t.un.2.2.2.map Tr34.cnt).sum : Nat))) := An (by rw [AH,if_neg (by omega)])
          have hok : NU t b d := ⟨(I0 t).2 ⟨g3,fun x hm => (hx x hm).1⟩,by
            have : mx (t.un.2.2.2.map dp) ≤ (d - 1).toNat := YQ fun a ha => by
              obtain ⟨x,hm,rfl⟩ := List.mem_map.1 ha
              have := (hx x hm).2
              omega
            omega,by omega⟩
          refine ⟨fun _ => ?_,fun hn => absurd hok hn⟩
          rw [hend]
          show some (true,b - 1 - ((t.un.2.2.2.map Tr34.cnt).sum : Nat)) = _
          rw [hcc]
          congr 2; omega
        | succ m ih =>
          intro i hi hx hs
          have hil : i < t.un.2.2.2.length := by omega
          have hm := List.getElem_mem hil
          have hsum : ((t.un.2.2.2.take (i + 1)).map Tr34.cnt).sum = ((t.un.2.2.2.take i).map Tr34.cnt).sum + t.un.2.2.2[i].cnt := by
            rw [List.take_succ_eq_append_getElem hil,List.map_append,List.sum_append]; simp
          have hle := Hu (g := Tr34.cnt) t.un.2.2.2 (i + 1)
          obtain ⟨r1,r2⟩ := VZ n t.un.2.2.2[i] (by have := Rx hm; omega) (Nat.le_trans (l9 hm) hc) (b - 1 - (((t.un.2.2.2.take i).map Tr34.cnt).sum : Nat)) (d - 1) (by omega) (by omega) (by omega) (by omega)
          by_cases g : NU t.un.2.2.2[i] (b - 1 - (((t.un.2.2.2.take i).map Tr34.cnt).sum : Nat)) (d - 1)
          · have hstep : AH (AK n) t d ((i : Int),b - 1 - (((t.un.2.2.2.take i).map Tr34.cnt).sum : Nat)) = some (.inl (((i + 1 : Nat) : Int),b - 1 - (((t.un.2.2.2.take (i + 1)).map Tr34.cnt).sum : Nat))) := by
              rw [AH,if_pos (by omega),A7 (List.getElem?_eq_getElem hil),Option.bind_some,Ad (by omega),r1 g,Option.bind_some,if_neg (show ¬ (!true) = true by decide),Ad (by omega),hsum]
              show some (Sum.inl (_,_)) = _
              congr 3; omega
            rw [A0 hstep]
            refine ih (i + 1) (by omega) (fun x hxm => ?_) (by have := g.2.2; omega)
            rw [List.take_succ_eq_append_getElem hil] at hxm
            rcases List.mem_append.1 hxm with hh | hh
            · exact hx x hh
            · rw [List.mem_singleton.1 hh]; exact ⟨g.1,g.2.1⟩
          · obtain ⟨b',hb'⟩ := r2 g
            have hno : ¬ NU t b d := fun hk => g ⟨((I0 t).1 hk.1).2 _ hm,by
              have h1 := lA (List.mem_map.2 ⟨_,hm,rfl⟩ : dp t.un.2.2.2[i] ∈ t.un.2.2.2.map dp)
              have := hk.2.1
              omega,by have := hk.2.2; omega⟩
            refine ⟨fun hk => absurd hk hno,fun _ => ⟨b', ?_⟩⟩
            rw [An (e := .inr (false,b')) (by
              rw [AH,if_pos (by omega),A7 (List.getElem?_eq_getElem hil),Option.bind_some,Ad (by omega),hb',Option.bind_some,if_pos (by rfl)])]
            rfl
      have := key t.un.2.2.2.length 0 (by omega) (by simp) (by simp; omega)
      simpa using this
    · rw [decide_eq_false g3,if_pos (by decide)]
      exact ⟨fun hk => absurd ((I0 t).1 hk.1).1 g3,fun _ => ⟨_,rfl⟩⟩
theorem Tg {t : Tr34} (hc : t.cnt ≤ 1048576) : Fv t = some (decide (NU t 64 8)) := by
  obtain ⟨h1,h2⟩ := VZ (SizeOf.sizeOf t + 1) t (by omega) hc 64 8 (by omega) (by omega) (by omega) (by omega)
  unfold Fv
  by_cases g : NU t 64 8
  · rw [show Dz 64 t 8 = some (true,(64 - t.cnt : Int)) from Bq (g := fun n => AK n 64 t 8) (fun n r h => DL n 64 t 8 r h) (h1 g),decide_eq_true g]; rfl
  · obtain ⟨b',hb⟩ := h2 g
    rw [show Dz 64 t 8 = some (false,b') from Bq (g := fun n => AK n 64 t 8) (fun n r h => DL n 64 t 8 r h) hb,decide_eq_false g]; rfl
theorem Rd (t : Tr24) : Hv (mi t) = true ↔ Gm t.un.1 t.un.2.1 t.un.2.2.1 t.un.2.2.2.length ∧ ∀ x ∈ t.un.2.2.2,Hv (mi x) = true := by
  rw [I0,M0]
  show Gm _ _ _ (t.un.2.2.2.map mi).length ∧ _ ↔ _
  rw [List.length_map]
  refine and_congr_right fun _ => ⟨fun h x hx => h _ (List.mem_map.2 ⟨x,hx,rfl⟩),fun h x hx => ?_⟩
  obtain ⟨y,hy,rfl⟩ := List.mem_map.1 hx
  exact h y hy
theorem Yn : ∀ (n : Nat) (t : Tr24),SizeOf.sizeOf t < n → t.cnt ≤ 1048576 → EQ n t = some (Hv (mi t))
  | 0,t,h,_ => absurd h (Nat.not_lt_zero _)
  | n + 1, t, h, hc => by
    have hl := lZ t
    have htb := IV t.un.2.1
    show Ez (EQ n) t = _
    unfold Ez
    have no : ¬ Gm t.un.1 t.un.2.1 t.un.2.2.1 t.un.2.2.2.length → Hv (mi t) = false := fun hn => by
      cases hh : Hv (mi t) with
      | false => rfl
      | true => exact absurd ((Rd t).1 hh).1 hn
    by_cases g1 : (bif decide (t.un.1 ≠ 3) then (decide (t.un.2.1 ≠ 0) || (decide (t.un.2.2.1 ≠ 0) || (decide (t.un.1 < 1) || decide (6 < t.un.1)))) else (decide (t.un.1 < 1) || decide (6 < t.un.1))) = true
    · rw [if_pos g1,no (fun hf => by
        unfold Gm at hf
        by_cases c : t.un.1 = 3
        · simp [c] at g1
        · rw [show decide (t.un.1 ≠ 3) = true from decide_eq_true c] at g1
          simp only [cond_true,Bool.or_eq_true,decide_eq_true_eq] at g1
          omega)]
    rw [if_neg g1]
    by_cases g2 : (decide (t.un.1 = 3) && (decide (t.un.2.1 < 0) || (decide (5 < t.un.2.1) || (decide (t.un.2.2.1 < 0) || decide ((CF t.un.2.1) < t.un.2.2.1))))) = true
    · rw [if_pos g2,no (fun hf => by
        unfold Gm at hf
        simp only [Bool.and_eq_true,Bool.or_eq_true,decide_eq_true_eq] at g2
        omega)]
    rw [if_neg g2]
    by_cases g3 : (bif decide (t.un.1 ≤ 3) then (decide ((t.un.2.2.2.length : Int) ≠ 0) || (bif decide (t.un.1 = 4) then (decide ((t.un.2.2.2.length : Int) ≠ 1) || (decide (5 ≤ t.un.1) && (decide ((t.un.2.2.2.length : Int) < 2) || decide (8 < (t.un.2.2.2.length : Int))))) else (decide (5 ≤ t.un.1) && (decide ((t.un.2.2.2.length : Int) < 2) || decide (8 < (t.un.2.2.2.length : Int)))))) else (bif decide (t.un.1 = 4) then (decide ((t.un.2.2.2.length : Int) ≠ 1) || (decide (5 ≤ t.un.1) && (decide ((t.un.2.2.2.length : Int) < 2) || decide (8 < (t.un.2.2.2.length : Int))))) else (decide (5 ≤ t.un.1) && (decide ((t.un.2.2.2.length : Int) < 2) || decide (8 < (t.un.2.2.2.length : Int)))))) = true
    · rw [if_pos g3,no (fun hf => by
        unfold Gm at hf
        by_cases c : t.un.1 ≤ 3
        · rw [show decide (t.un.1 ≤ 3) = true from decide_eq_true c,show decide (t.un.1 = 4) = false from decide_eq_false (by omega)] at g3
          simp only [cond_true,cond_false,Bool.or_eq_true,Bool.and_eq_true,decide_eq_true_eq] at g3
          omega
        · by_cases c4 : t.un.1 = 4
          · rw [show decide (t.un.1 ≤ 3) = false from decide_eq_false c,show decide (t.un.1 = 4) = true from decide_eq_true c4] at g3
            simp only [cond_true,cond_false,Bool.or_eq_true,Bool.and_eq_true,decide_eq_true_eq] at g3
            omega
          · rw [show decide (t.un.1 ≤ 3) = false from decide_eq_false c,show decide (t.un.1 = 4) = false from decide_eq_false c4] at g3
            simp only [cond_true,cond_false,Bool.or_eq_true,Bool.and_eq_true,decide_eq_true_eq] at g3
            omega)]
    rw [if_neg g3]
    have hfl : Gm t.un.1 t.un.2.1 t.un.2.2.1 t.un.2.2.2.length := by
      simp only [Bool.and_eq_true,Bool.or_eq_true,decide_eq_true_eq,not_and,not_or] at g2
      by_cases c3 : t.un.1 = 3
      · rw [show decide (t.un.1 ≤ 3) = true from decide_eq_true (by omega),show decide (t.un.1 = 4) = false from decide_eq_false (by omega)] at g3
        simp only [cond_true,cond_false,Bool.or_eq_true,Bool.and_eq_true,decide_eq_true_eq] at g3
        have := g2 c3
        unfold Gm; omega
      · by_cases cl : t.un.1 ≤ 3
        · have c4 : ¬ t.un.1 = 4 := by omega
          simp [c3,cl,c4] at g1 g3
          unfold Gm
          have : t.un.2.2.2.length = 0 := by
            rw [List.length_eq_zero_iff]
            exact g3.1
          omega
        · by_cases c4 : t.un.1 = 4
          · simp [c3,cl,c4] at g1 g3
            unfold Gm; omega
          · simp [c3,cl,c4] at g1 g3
            unfold Gm; omega
    have hx : ∀ x ∈ t.un.2.2.2,EQ n x = some (Hv (mi x)) := fun x hm => Yn n x (by have := SH hm; omega) (Nat.le_trans (gH hm) hc)
    rw [HL t.un.2.2.2.length (EJ (EQ n) t) (fun k => ∃ e,t.un.2.2.2[k]? = some e ∧ Hv (mi e) = false) false (fun k hk => by
      rw [EJ,if_pos (by omega),A7 (List.getElem?_eq_getElem hk),Option.bind_some,hx _ (List.getElem_mem hk),Option.bind_some,Ad (by omega)]
      cases hq : Hv (mi t.un.2.2.2[k]) with
      | true => rw [if_neg (by decide),if_neg (fun hh => by rw [Qd hk,hq] at hh; cases hh)]; rfl
      | false => rw [if_pos (by decide),if_pos ((Qd hk).2 hq)]) (by rw [EJ,if_neg (by omega)])]
    by_cases e : ∃ k,k < t.un.2.2.2.length ∧ ∃ e,t.un.2.2.2[k]? = some e ∧ Hv (mi e) = false
    · rw [if_pos e]
      obtain ⟨x,hxm,hxf⟩ := Ul.1 e
      have : Hv (mi t) = false := by
        cases hh : Hv (mi t) with
        | false => rfl
        | true => rw [((Rd t).1 hh).2 x hxm] at hxf; cases hxf
      rw [this]; rfl
    · rw [if_neg e]
      have : Hv (mi t) = true := (Rd t).2 ⟨hfl,fun x hxm => by
        cases hh : Hv (mi x) with
        | true => rfl
        | false => exact absurd (Ul.2 ⟨x,hxm,hh⟩) e⟩
      rw [this]; rfl
theorem ZG {t : Tr24} (hc : t.cnt ≤ 1048576) : Hd t = some (decide (NU (mi t) 64 8)) := by
  have hcm := Wx t
  unfold Hd
  rw [show OC t = some (Hv (mi t)) from Bq (g := fun n => EQ n t) (fun n r h => MK n t r h) (Yn (SizeOf.sizeOf t + 1) t (by omega) hc),Option.bind_some]
  by_cases hf : Hv (mi t) = true
  case neg => rw [if_neg hf,Option.bind_some,decide_eq_false (fun h => hf h.1)]
  case pos =>
    rw [if_pos hf,Ry hc,Option.bind_some]
    by_cases c : (t.cnt : Int) ≤ 64
    · rw [if_pos c,aJ hc,Option.bind_some,Option.bind_some]
      exact congrArg some (decide_eq_decide.2 ⟨fun h => ⟨hf,h,by omega⟩,fun h => h.2.1⟩)
    · rw [if_neg c,Option.bind_some,decide_eq_false (fun h => by have := h.2.2; omega)]
end Go.Proofs.YtpckgggmgijiiaaGreatDoor
