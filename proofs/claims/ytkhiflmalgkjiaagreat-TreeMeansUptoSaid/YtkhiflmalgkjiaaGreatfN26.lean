/- Layer 31: trees, what is asked. Conditions: none. -/
import Derived.Test.YtkhiflmalgkjiaaGreatfNSH
import Derived.Test.YtkhiflmalgkjiaaGreatfEV
set_option linter.unusedVariables false
set_option linter.unusedSimpArgs false
open Go Go.RowKit
namespace Go.Proofs.YtkhiflmalgkjiaaGreat
abbrev PK := Int × Int × Int × Int
theorem Xk {t x : Tr24} (h : x ∈ t.un.2.2.2) : SizeOf.sizeOf x < SizeOf.sizeOf t := by
  cases t with
  | mk k f v l =>
    have h' : x ∈ l := h
    have := List.sizeOf_lt_of_mem h'
    simp only [Tr24.mk.sizeOf_spec]; omega
theorem QK {t x : Tr38} (h : x ∈ t.un.2.2.2) : SizeOf.sizeOf x < SizeOf.sizeOf t := by
  cases t with
  | mk k f v l =>
    have h' : x ∈ l := h
    have := List.sizeOf_lt_of_mem h'
    simp only [Tr38.mk.sizeOf_spec]; omega
theorem V9 (t : Tr24) : t.cnt = 1 + (t.un.2.2.2.map Tr24.cnt).sum := by cases t; rw [Tr24.cnt]; rfl
theorem Kd (t : Tr38) : t.cnt = 1 + (t.un.2.2.2.map Tr38.cnt).sum := by cases t; rw [Tr38.cnt]; rfl
theorem LH {α : Type} {g : α → Nat} : ∀ {l : List α} {x : α},x ∈ l → g x ≤ (l.map g).sum
  | y :: l,x,h => by
    rw [zj,List.sum_cons]
    rcases List.mem_cons.1 h with e | h
    · rw [e]; omega
    · have := LH (g := g) h; omega
theorem OL {α : Type} {g : α → Nat} (hg : ∀ x,1 ≤ g x) : ∀ l : List α,l.length ≤ (l.map g).sum
  | [] => Nat.zero_le _
  | y :: l => by
    have := hg y
    have := OL hg l
    rw [zj,List.sum_cons,List.length_cons]; omega
theorem JE {α : Type} {g : α → Nat} (l : List α) (i : Nat) : ((l.take i).map g).sum ≤ (l.map g).sum := by
  have h : (l.map g).sum = ((l.take i).map g).sum + ((l.drop i).map g).sum := by
    rw [← List.sum_append, ← List.map_append,List.take_append_drop]
  omega
theorem rT {t x : Tr24} (h : x ∈ t.un.2.2.2) : x.cnt ≤ t.cnt := by rw [V9 t]; have := LH (g := Tr24.cnt) h; omega
theorem qB {t x : Tr38} (h : x ∈ t.un.2.2.2) : x.cnt ≤ t.cnt := by rw [Kd t]; have := LH (g := Tr38.cnt) h; omega
theorem tH (t : Tr24) : t.un.2.2.2.length + 1 ≤ t.cnt := by rw [V9 t]; have := OL (g := Tr24.cnt) (fun x => by rw [V9 x]; omega) t.un.2.2.2; omega
theorem tK (t : Tr38) : t.un.2.2.2.length + 1 ≤ t.cnt := by rw [Kd t]; have := OL (g := Tr38.cnt) (fun x => by rw [Kd x]; omega) t.un.2.2.2; omega
def mi : Tr24 → Tr38
  | .mk k f v l => .mk k f v (l.map mi)
theorem WW (t : Tr24) : (mi t).un = (t.un.1,t.un.2.1,t.un.2.2.1,t.un.2.2.2.map mi) := by cases t; rw [mi]; rfl
theorem xT (t : Tr24) : mi t = Tr38.of (t.un.1,t.un.2.1,t.un.2.2.1,t.un.2.2.2.map mi) := by cases t; rw [mi]; rfl
theorem i6 : ∀ (n : Nat) (t : Tr24),SizeOf.sizeOf t < n → (mi t).cnt = t.cnt
  | 0,t,h => absurd h (Nat.not_lt_zero _)
  | n + 1,t,h => by
    rw [Kd,V9,WW]
    show 1 + ((t.un.2.2.2.map mi).map Tr38.cnt).sum = _
    rw [List.map_map]
    congr 2
    exact List.map_congr_left fun x hx => i6 n x (by have := Xk hx; omega)
theorem iG : ∀ (n : Nat) (t : Tr24),SizeOf.sizeOf t < n → t.cnt ≤ 1048576 → E0 n t = some (mi t)
  | 0,t,h,_ => absurd h (Nat.not_lt_zero _)
  | n + 1,t,h,hc => by
    have hl := tH t
    show EM (E0 n) t = _
    unfold EM
    obtain ⟨o,h1,h2⟩ := DU t.un.2.2.2.length (fun (o : List Tr38) (i : Nat) => ((i : Int),o)) (DC (E0 n) t) id (fun o i => o = (t.un.2.2.2.take i).map mi)
      (fun o i hi ho => by
        have hm := List.getElem_mem hi
        have hx := iG n t.un.2.2.2[i] (by have := Xk hm; omega) (Nat.le_trans (rT hm) hc)
        refine ⟨o ++ [mi t.un.2.2.2[i]], ?_,by rw [ho,List.take_succ_eq_append_getElem hi,List.map_append]; rfl⟩
        rw [DC,if_pos (by omega),A9 (zb hi),za,hx,za,I5 (by rw [ho]; simp; omega),za,Ah (by omega)]; rfl)
      (fun o _ => by rw [DC,if_neg (by omega)]; rfl) [] rfl
    rw [List.take_length] at h1
    have h2' : Aj (DC (E0 n) t) (0,[]) = some o := h2
    rw [h2',h1,za, ← xT]
theorem j4 {t : Tr24} (hc : t.cnt ≤ 1048576) : Pf t = some (mi t) := B6 (g := fun n => E0 n t) (fun n r h => ND n t r h) (iG (SizeOf.sizeOf t + 1) t (by omega) hc)
theorem ZA : ∀ (n : Nat) (t : Tr24),SizeOf.sizeOf t < n → t.cnt ≤ 1048576 → Fg n t = some (t.cnt : Int)
  | 0,t,h,_ => absurd h (Nat.not_lt_zero _)
  | n + 1, t, h, hc => by
    have hl := tH t
    have hcc := V9 t
    show ES (Fg n) t = _
    unfold ES
    obtain ⟨o,h1,h2⟩ := DU t.un.2.2.2.length (fun (o : Int) (i : Nat) => (o,(i : Int))) (DB (Fg n) t) id (fun o i => o = 1 + (((t.un.2.2.2.take i).map Tr24.cnt).sum : Nat))
      (fun o i hi ho => by
        have hm := List.getElem_mem hi
        have hx := ZA n t.un.2.2.2[i] (by have := Xk hm; omega) (Nat.le_trans (rT hm) hc)
        have hs : ((t.un.2.2.2.take (i + 1)).map Tr24.cnt).sum = ((t.un.2.2.2.take i).map Tr24.cnt).sum + t.un.2.2.2[i].cnt := by
          rw [List.take_succ_eq_append_getElem hi,List.map_append,List.sum_append]; simp
        have hle := JE (g := Tr24.cnt) t.un.2.2.2 (i + 1)
        refine ⟨o + (t.un.2.2.2[i].cnt : Int), ?_,by rw [ho,hs]; omega⟩
        rw [DB,if_pos (by omega),A9 (zb hi),za,hx,za,Ah (by rw [ho]; omega),Ah (by omega)]; rfl)
      (fun o _ => by rw [DB,if_neg (by omega)]; rfl) 1 (by simp)
    rw [List.take_length] at h1
    have h2' : Aj (DB (Fg n) t) (1,0) = some o := h2
    rw [h2',h1,za,hcc]
    congr 1
theorem Xv {t : Tr24} (hc : t.cnt ≤ 1048576) : Lk t = some (t.cnt : Int) := B6 (g := fun n => Fg n t) (fun n r h => Nz n t r h) (ZA (SizeOf.sizeOf t + 1) t (by omega) hc)
def Dl (f : Int) : Tr38 → List Int
  | .mk k g v l => (if k = 3 ∧ g = f then [v] else []) ++ (l.map (Dl f)).flatten
theorem HY (f : Int) (t : Tr38) : Dl f t = (if t.un.1 = 3 ∧ t.un.2.1 = f then [t.un.2.2.1] else []) ++ (t.un.2.2.2.map (Dl f)).flatten := by cases t; rw [Dl]; rfl
theorem RT {α β : Type} {g : α → List β} {c : α → Nat} : ∀ (l : List α),(∀ x ∈ l,(g x).length ≤ c x) → (l.map g).flatten.length ≤ (l.map c).sum
  | [],_ => Nat.le_refl _
  | x :: l,h => by
    have h1 := h x (List.mem_cons_self ..)
    have h2 := RT (g := g) (c := c) l fun y hy => h y (zd _ hy)
    rw [zj,List.flatten_cons,List.length_append,zj,List.sum_cons]; omega
theorem Pg (f : Int) : ∀ (n : Nat) (t : Tr38),SizeOf.sizeOf t < n → (Dl f t).length ≤ t.cnt
  | 0,t,h => absurd h (Nat.not_lt_zero _)
  | n + 1,t,h => by
    rw [HY,Kd,List.length_append]
    have h2 := RT (g := Dl f) (c := Tr38.cnt) t.un.2.2.2 fun x hx => Pg f n x (by have := QK hx; omega)
    have h3 : (if t.un.1 = 3 ∧ t.un.2.1 = f then [t.un.2.2.1] else ([] : List Int)).length ≤ 1 := by split <;> simp
    omega
theorem RW (f : Int) : ∀ (n : Nat) (t : Tr38),SizeOf.sizeOf t < n → t.cnt ≤ 1048576 → Cn n t f = some (Dl f t)
  | 0,t,h,_ => absurd h (Nat.not_lt_zero _)
  | n + 1,t,h,hc => by
    have hl := tK t
    have hcc := Kd t
    show Cq (Cn n) t f = _
    unfold Cq
    have e1 : ((if (decide (t.un.1 = 3) && decide (t.un.2.1 = f)) = true then (HU ([] : List Int) ([t.un.2.2.1] : List Int)).bind fun x2 => some x2 else some ([])) : Option (List Int)) = some (if t.un.1 = 3 ∧ t.un.2.1 = f then [t.un.2.2.1] else []) := by
      by_cases c : t.un.1 = 3 ∧ t.un.2.1 = f
      · rw [if_pos (by simp [c.1,c.2]),if_pos c,I5 (by simp)]; rfl
      · rw [if_neg (by simpa using c),if_neg c]
    have h3 : (if t.un.1 = 3 ∧ t.un.2.1 = f then [t.un.2.2.1] else ([] : List Int)).length ≤ 1 := by split <;> simp
    rw [e1,za]
    obtain ⟨o,h1,h2⟩ := DU t.un.2.2.2.length (fun (o : List Int) (i : Nat) => (o,(i : Int))) (BR (Cn n) t f) id (fun o i => o = (if t.un.1 = 3 ∧ t.un.2.1 = f then [t.un.2.2.1] else []) ++ ((t.un.2.2.2.take i).map (Dl f)).flatten)
      (fun o i hi ho => by
        have hm := List.getElem_mem hi
        have hx := RW f n t.un.2.2.2[i] (by have := QK hm; omega) (Nat.le_trans (qB hm) hc)
        have hle := JE (g := Tr38.cnt) t.un.2.2.2 i
        have hfl := RT (g := Dl f) (c := Tr38.cnt) (t.un.2.2.2.take i) fun x _ => Pg f (SizeOf.sizeOf x + 1) x (by omega)
        have hxl := Pg f (SizeOf.sizeOf t.un.2.2.2[i] + 1) t.un.2.2.2[i] (by omega)
        have hxc := qB hm
        refine ⟨o ++ Dl f t.un.2.2.2[i], ?_,by rw [ho,List.take_succ_eq_append_getElem hi,List.map_append,List.flatten_append,List.append_assoc]; simp⟩
        rw [BR,if_pos (by omega),A9 (zb hi),za,hx,za,I5 (by rw [ho,List.length_append]; omega),za,Ah (by omega)]; rfl)
      (fun o _ => by rw [BR,if_neg (by omega)]; rfl) (if t.un.1 = 3 ∧ t.un.2.1 = f then [t.un.2.2.1] else []) (by simp)
    rw [List.take_length] at h1
    have h2' : Aj (BR (Cn n) t f) (if t.un.1 = 3 ∧ t.un.2.1 = f then [t.un.2.2.1] else [],0) = some o := h2
    rw [h2',h1,za,HY]
theorem W3 {t : Tr38} (hc : t.cnt ≤ 1048576) (f : Int) : G7 t f = some (Dl f t) := B6 (g := fun n => Cn n t f) (fun n r h => Hf n t f r h) (RW f (SizeOf.sizeOf t + 1) t (by omega) hc)
theorem UP : ∀ (R S : List Int),R.Nodup → (∀ x ∈ R,x ∈ S) → R.length ≤ S.length
  | [],_,_,_ => Nat.zero_le _
  | x :: R,S,h,hs => by
    obtain ⟨h1,h2⟩ := List.nodup_cons.1 h
    have hx := hs x (List.mem_cons_self ..)
    have ih := UP R (S.erase x) h2 fun y hy => (List.mem_erase_of_ne (fun e => h1 (by rw [← e]; exact hy))).2 (hs y (zd _ hy))
    rw [List.length_erase_of_mem hx] at ih
    have := List.length_pos_of_mem hx
    rw [List.length_cons]; omega
def gt (a : Int × Int × PK) (f : Int) : Int := if f = 0 then a.2.2.1 else if f = 1 then a.2.2.2.1 else if f = 2 then a.2.2.2.2.1 else if f = 3 then a.2.2.2.2.2 else if f = 4 then a.2.1 else if f = 5 then a.1 else -1
theorem AaY {p : PK} {f : Int} (h : 0 ≤ f ∧ f < 4) (s q : Int) : ix [p.1,p.2.1,p.2.2.1,p.2.2.2] f = some (gt (s,q,p) f) := by
  have : f = 0 ∨ f = 1 ∨ f = 2 ∨ f = 3 := by omega
  rcases this with rfl | rfl | rfl | rfl <;> rfl
theorem sN (f s q : Int) (p : PK) : JD f s q p = some (gt (s,q,p) f) := by
  unfold JD
  by_cases c4 : f = 4
  · subst c4; rfl
  · rw [if_neg c4]
    by_cases c5 : f = 5
    · subst c5; rfl
    · rw [if_neg c5]
      by_cases c : 0 ≤ f ∧ f ≤ 5
      · have h4 : 0 ≤ f ∧ f < 4 := by omega
        rw [if_pos (by unfold DX; simp; exact c)]
        unfold Hk
        rw [if_neg (by unfold CG; simp; omega),AaY h4 s q]; rfl
      · rw [if_neg (by unfold DX; simp; omega)]
        unfold gt
        rw [if_neg (by omega),if_neg (by omega),if_neg (by omega),if_neg (by omega),if_neg (by omega),if_neg (by omega)]
def TP (a : Int × Int × PK) (k f v : Int) (bs : List Bool) : Bool :=
  if k = 1 then true else if k = 3 then decide ((0 ≤ f ∧ f ≤ 5) ∧ gt a f = v) else if k = 4 then (match bs with | [] => false | b :: _ => !b) else if k = 5 then bs.all id else if k = 6 then bs.any id else false
def H3 (a : Int × Int × PK) : Tr38 → Bool
  | .mk k f v l => TP a k f v (l.map (H3 a))
theorem L8 (a : Int × Int × PK) (t : Tr38) : H3 a t = TP a t.un.1 t.un.2.1 t.un.2.2.1 (t.un.2.2.2.map (H3 a)) := by cases t; rw [H3]; rfl
theorem VE {α : Type} (l : List α) (q : α → Bool) (step : Int → Option (Int ⊕ (Unit ⊕ Int)))
    (hs : ∀ k (hk : k < l.length),step (k : Int) = if q l[k] = true then some (.inr (.inr (k : Int))) else some (.inl ((k + 1 : Nat) : Int)))
    (he : step (l.length : Int) = some (.inr (.inl ()))) : ∃ i : Int,GN (Aj step 0) (fun _ => some (-1)) = some i ∧ decide (0 ≤ i) = l.any q := by
  have key : ∀ (d k : Nat),k + d = l.length → (∀ x ∈ l.take k,q x = false) → ∃ i : Int,GN (Aj step (k : Int)) (fun _ => some (-1)) = some i ∧ decide (0 ≤ i) = l.any q := by
    intro d
    induction d with
    | zero =>
      intro k hk hn
      rw [List.take_of_length_le (by omega)] at hn
      refine ⟨-1,by rw [show (k : Int) = (l.length : Int) by omega,Ap he]; rfl, ?_⟩
      rw [decide_eq_false (by omega)]
      exact (List.any_eq_false.2 fun x hx => by rw [hn x hx]; simp).symm
    | succ d ih =>
      intro k hk hn
      have hkl : k < l.length := by omega
      have hst := hs k hkl
      by_cases c : q l[k] = true
      · rw [if_pos c] at hst
        refine ⟨(k : Int),by rw [Ap hst]; rfl, ?_⟩
        rw [decide_eq_true (by omega)]
        exact (List.any_eq_true.2 ⟨_,List.getElem_mem hkl,c⟩).symm
      · rw [if_neg c] at hst
        rw [Bi hst]
        refine ih (k + 1) (by omega) fun x hx => ?_
        rw [List.take_succ_eq_append_getElem hkl] at hx
        rcases List.mem_append.1 hx with h | h
        · exact hn x h
        · rw [List.mem_singleton.1 h]; simpa using c
  exact key l.length 0 (by omega) (by simp)
theorem fW (a : Int × Int × PK) : ∀ (n : Nat) (t : Tr38),SizeOf.sizeOf t < n → t.cnt ≤ 1048576 → AY n a t = some (H3 a t)
  | 0,t,h,_ => absurd h (Nat.not_lt_zero _)
  | n + 1,t,h,hc => by
    have hl := tK t
    have hx : ∀ x ∈ t.un.2.2.2,AY n a x = some (H3 a x) := fun x hm => fW a n x (by have := QK hm; omega) (Nat.le_trans (qB hm) hc)
    show A4 (AY n) a t = _
    rw [L8]
    unfold A4 TP
    by_cases c1 : t.un.1 = 1
    · rw [if_pos c1,if_pos c1]
    rw [if_neg c1,if_neg c1]
    by_cases c3 : t.un.1 = 3
    · rw [if_pos c3,if_pos c3,sN]
      unfold DX
      rw [← Bool.decide_and]
      by_cases k : 0 ≤ t.un.2.1 ∧ t.un.2.1 ≤ 5
      · rw [if_pos (decide_eq_true k),za,za]
        exact congrArg some (decide_eq_decide.2 ⟨fun h => ⟨k,h⟩,fun h => h.2⟩)
      · rw [if_neg (by simpa using k),za,decide_eq_false (fun h => k h.1)]
    rw [if_neg c3,if_neg c3]
    by_cases c4 : t.un.1 = 4
    · rw [if_pos c4,if_pos c4]
      cases hll : t.un.2.2.2 with
      | nil => rfl
      | cons y l =>
        rw [if_pos (by simp only [List.length_cons]; omega),show ix (y :: l) 0 = some y from A9 (k := 0) rfl,za]
        unfold Bo
        rw [hx y (by rw [hll]; exact List.mem_cons_self ..)]; rfl
    rw [if_neg c4,if_neg c4]
    by_cases c5 : t.un.1 = 5
    · rw [if_pos c5,if_pos c5]
      obtain ⟨i,i1,i2⟩ := VE t.un.2.2.2 (fun x => !H3 a x) (Am (AY n) t.un.2.2.2 a) (fun k hk => by
        rw [Am,if_pos (by omega),A9 (zb hk),za]
        unfold Bo
        rw [hx _ (List.getElem_mem hk),za,za,Ah (by omega)]; rfl) (by rw [Am,if_neg (by omega)])
      unfold Ay Av
      rw [i1,za,za,i2,List.all_map]
      congr 1
      rw [List.any_eq_not_all_not]
      simp only [Bool.not_not]
      rfl
    rw [if_neg c5,if_neg c5]
    by_cases c6 : t.un.1 = 6
    · rw [if_pos c6,if_pos c6]
      obtain ⟨i,i1,i2⟩ := VE t.un.2.2.2 (fun x => H3 a x) (An (AY n) t.un.2.2.2 a) (fun k hk => by
        rw [An,if_pos (by omega),A9 (zb hk),za,hx _ (List.getElem_mem hk),za,Ah (by omega)]; rfl) (by rw [An,if_neg (by omega)])
      unfold Az Aw
      rw [i1,za,za,i2,List.any_map]; rfl
    rw [if_neg c6,if_neg c6]
theorem mK {t : Tr38} (hc : t.cnt ≤ 1048576) (s q : Int) (p : PK) : Fv t s q p = some (H3 (s,q,p) t) := by
  unfold Fv
  rw [show Dq (s,q,p) t = some (H3 (s,q,p) t) from B6 (g := fun n => AY n (s,q,p) t) (fun n r h => Em n (s,q,p) t r h) (fW _ (SizeOf.sizeOf t + 1) t (by omega) hc)]; rfl
end Go.Proofs.YtkhiflmalgkjiaaGreat
namespace Go.Proofs.YtkhiflmalgkjiaaGreat
def th : Tr38 → Tr24
  | .mk k f v l => .mk k f v (l.map th)
theorem xI (t : Tr38) : th t = Tr24.of (t.un.1,t.un.2.1,t.un.2.2.1,t.un.2.2.2.map th) := by cases t; rw [th]; rfl
theorem pI (t : Tr24) : Tr24.of t.un = t := by cases t; rfl
theorem lU (t : Tr38) : Tr38.of t.un = t := by cases t; rfl
theorem mS : ∀ (n : Nat) (t : Tr24),SizeOf.sizeOf t < n → th (mi t) = t
  | 0,t,h => absurd h (Nat.not_lt_zero _)
  | n + 1,t,h => by
    rw [xI,WW]
    show Tr24.of (t.un.1,t.un.2.1,t.un.2.2.1,(t.un.2.2.2.map mi).map th) = t
    rw [List.map_map,show t.un.2.2.2.map (th ∘ mi) = t.un.2.2.2 from map_id_in fun x hx => mS n x (by have := Xk hx; omega)]
    exact pI t
where map_id_in {α : Type} {g : α → α} : ∀ {l : List α},(∀ x ∈ l,g x = x) → l.map g = l
  | [],_ => rfl
  | x :: l,h => by rw [zj,h x (List.mem_cons_self ..),map_id_in fun y hy => h y (zd _ hy)]
theorem th_mi' (t : Tr24) : th (mi t) = t := mS (SizeOf.sizeOf t + 1) t (by omega)
theorem pK {a b : Tr24} (h : mi a = mi b) : a = b := by rw [← th_mi' a,h,th_mi' b]
theorem YC : ∀ (n : Nat) (t : Tr38),SizeOf.sizeOf t < n → t.cnt ≤ 1048576 → DA n t = some (t.cnt : Int)
  | 0,t,h,_ => absurd h (Nat.not_lt_zero _)
  | n + 1, t, h, hc => by
    have hl := tK t
    have hcc := Kd t
    show Do (DA n) t = _
    unfold Do
    obtain ⟨o,h1,h2⟩ := DU t.un.2.2.2.length (fun (o : Int) (i : Nat) => (o,(i : Int))) (C1 (DA n) t) id (fun o i => o = 1 + (((t.un.2.2.2.take i).map Tr38.cnt).sum : Nat))
      (fun o i hi ho => by
        have hm := List.getElem_mem hi
        have hx := YC n t.un.2.2.2[i] (by have := QK hm; omega) (Nat.le_trans (qB hm) hc)
        have hs : ((t.un.2.2.2.take (i + 1)).map Tr38.cnt).sum = ((t.un.2.2.2.take i).map Tr38.cnt).sum + t.un.2.2.2[i].cnt := by
          rw [List.take_succ_eq_append_getElem hi,List.map_append,List.sum_append]; simp
        have hle := JE (g := Tr38.cnt) t.un.2.2.2 (i + 1)
        refine ⟨o + (t.un.2.2.2[i].cnt : Int), ?_,by rw [ho,hs]; omega⟩
        rw [C1,if_pos (by omega),A9 (zb hi),za,hx,za,Ah (by rw [ho]; omega),Ah (by omega)]; rfl)
      (fun o _ => by rw [C1,if_neg (by omega)]; rfl) 1 (by simp)
    rw [List.take_length] at h1
    have h2' : Aj (C1 (DA n) t) (1,0) = some o := h2
    rw [h2',h1,za,hcc]
    congr 1
theorem iP {t : Tr38} (hc : t.cnt ≤ 1048576) : LB t = some (t.cnt : Int) := B6 (g := fun n => DA n t) (fun n r h => Jr n t r h) (YC (SizeOf.sizeOf t + 1) t (by omega) hc)
def mx : List Nat → Nat
  | [] => 0
  | a :: l => max a (mx l)
theorem UN {l : List Nat} {a : Nat} (h : a ∈ l) : a ≤ mx l := by
  induction l with
  | nil => cases h
  | cons x l ih =>
    rcases List.mem_cons.1 h with e | h
    · rw [e]; exact Nat.le_max_left _ _
    · exact Nat.le_trans (ih h) (Nat.le_max_right _ _)
theorem Tf {l : List Nat} {b : Nat} (h : ∀ a ∈ l,a ≤ b) : mx l ≤ b := by
  induction l with
  | nil => exact Nat.zero_le _
  | cons x l ih => exact Nat.max_le.2 ⟨h x (List.mem_cons_self ..),ih fun a ha => h a (zd _ ha)⟩
theorem YH (l : List Nat) (a : Nat) : mx (l ++ [a]) = max (mx l) a := by
  induction l with
  | nil => simp [mx]
  | cons x l ih => rw [List.cons_append,mx,ih,mx,Nat.max_assoc]
def dp : Tr38 → Nat
  | .mk _ _ _ l => 1 + mx (l.map dp)
theorem S6 (t : Tr38) : dp t = 1 + mx (t.un.2.2.2.map dp) := by cases t; rw [dp]; rfl
theorem eN : ∀ (n : Nat) (t : Tr38),SizeOf.sizeOf t < n → dp t ≤ t.cnt
  | 0,t,h => absurd h (Nat.not_lt_zero _)
  | n + 1,t,h => by
    rw [S6,Kd]
    have : mx (t.un.2.2.2.map dp) ≤ (t.un.2.2.2.map Tr38.cnt).sum := Tf fun a ha => by
      obtain ⟨x,hx,rfl⟩ := List.mem_map.1 ha
      exact Nat.le_trans (eN n x (by have := QK hx; omega)) (LH (g := Tr38.cnt) hx)
    omega
theorem yJ (t : Tr24) : dp (mi t) = 1 + mx (t.un.2.2.2.map fun x => dp (mi x)) := by rw [S6,WW,List.map_map]; rfl
theorem l6 (t : Tr24) : (mi t).cnt = t.cnt := i6 (SizeOf.sizeOf t + 1) t (by omega)
theorem YD : ∀ (n : Nat) (t : Tr24),SizeOf.sizeOf t < n → t.cnt ≤ 1048576 → EZ n t = some (dp (mi t) : Int)
  | 0,t,h,_ => absurd h (Nat.not_lt_zero _)
  | n + 1, t, h, hc => by
    have hl := tH t
    show EL (EZ n) t = _
    unfold EL
    obtain ⟨o,h1,h2⟩ := DU t.un.2.2.2.length (fun (o : Int) (i : Nat) => (o,(i : Int))) (DF (EZ n) t) id (fun o i => o = 1 + (mx ((t.un.2.2.2.take i).map fun x => dp (mi x)) : Nat))
      (fun o i hi ho => by
        have hm := List.getElem_mem hi
        have hx := YD n t.un.2.2.2[i] (by have := Xk hm; omega) (Nat.le_trans (rT hm) hc)
        have hd := eN (SizeOf.sizeOf (mi t.un.2.2.2[i]) + 1) (mi t.un.2.2.2[i]) (by omega)
        rw [l6] at hd
        have hcl := rT hm
        refine ⟨max o (dp (mi t.un.2.2.2[i]) + 1 : Int), ?_,by rw [ho,List.take_succ_eq_append_getElem hi,List.map_append,zj,List.map_nil,YH]; omega⟩
        rw [DF,if_pos (by omega),A9 (zb hi),za,hx,za,Ah (by omega)]
        by_cases q : o < (dp (mi t.un.2.2.2[i]) : Int) + 1
        · rw [if_pos q,za,hx,za,Ah (by omega),za,Ah (by omega)]
          rw [show max o ((dp (mi t.un.2.2.2[i]) : Int) + 1) = (dp (mi t.un.2.2.2[i]) : Int) + 1 by omega]; rfl
        · rw [if_neg q,za,Ah (by omega)]
          rw [show max o ((dp (mi t.un.2.2.2[i]) : Int) + 1) = o by omega]; rfl)
      (fun o _ => by rw [DF,if_neg (by omega)]; rfl) 1 (by simp [mx])
    rw [List.take_length] at h1
    have h2' : Aj (DF (EZ n) t) (1,0) = some o := h2
    rw [h2',h1,za,yJ]
    exact congrArg some (by omega)
theorem eL {t : Tr24} (hc : t.cnt ≤ 1048576) : O6 t = some (dp (mi t) : Int) := B6 (g := fun n => EZ n t) (fun n r h => NL n t r h) (YD (SizeOf.sizeOf t + 1) t (by omega) hc)
theorem xA {a b : Tr38} (h1 : a.un.1 = b.un.1) (h2 : a.un.2.1 = b.un.2.1) (h3 : a.un.2.2.1 = b.un.2.2.1) (h4 : a.un.2.2.2 = b.un.2.2.2) : a = b := by
  rw [← lU a, ← lU b]
  show Tr38.mk _ _ _ _ = Tr38.mk _ _ _ _
  rw [h1,h2,h3,h4]
theorem xP {a b : Tr24} (h1 : a.un.1 = b.un.1) (h2 : a.un.2.1 = b.un.2.1) (h3 : a.un.2.2.1 = b.un.2.2.1) (h4 : a.un.2.2.2 = b.un.2.2.2) : a = b := by
  rw [← pI a, ← pI b]
  show Tr24.mk _ _ _ _ = Tr24.mk _ _ _ _
  rw [h1,h2,h3,h4]
theorem Ri {α : Type} {l m : List α} (hl : l.length = m.length) : (∃ k,k < l.length ∧ l[k]? ≠ m[k]?) ↔ l ≠ m := by
  constructor
  · rintro ⟨k,_,h⟩ rfl; exact h rfl
  · intro h
    refine Classical.byContradiction fun hn => h (List.ext_getElem? fun k => ?_)
    by_cases hk : k < l.length
    · exact Classical.byContradiction fun h2 => hn ⟨k,hk,h2⟩
    · rw [List.getElem?_eq_none (by omega),List.getElem?_eq_none (by omega)]
open Classical in
theorem YG : ∀ (n : Nat) (a b : Tr38),SizeOf.sizeOf a < n → a.cnt ≤ 1048576 → D9 n a b = some (decide (a = b))
  | 0,a,b,h,_ => absurd h (Nat.not_lt_zero _)
  | n + 1, a, b, h, hc => by
    have hl := tK a
    show En (D9 n) a b = _
    unfold En
    by_cases c1 : a.un.1 = b.un.1
    · rw [if_pos c1]
      by_cases c2 : a.un.2.1 = b.un.2.1
      · rw [if_pos c2]
        by_cases c3 : a.un.2.2.1 = b.un.2.2.1
        · rw [if_pos c3]
          unfold Ai
          by_cases c4 : a.un.2.2.2.length = b.un.2.2.2.length
          · rw [if_neg (by omega)]
            rw [LP a.un.2.2.2.length (Ac (D9 n) a.un.2.2.2 b.un.2.2.2) (fun k => a.un.2.2.2[k]? ≠ b.un.2.2.2[k]?) false (fun k hk => by
              have hm := List.getElem_mem hk
              have hkb : k < b.un.2.2.2.length := by omega
              have hx := YG n a.un.2.2.2[k] b.un.2.2.2[k] (by have := QK hm; omega) (Nat.le_trans (qB hm) hc)
              rw [Ac,if_pos (by omega),A9 (zb hk),za,A9 (zb hkb),za,hx,za,Ah (by omega)]
              by_cases e : a.un.2.2.2[k] = b.un.2.2.2[k]
              · rw [decide_eq_true e,if_neg (by decide),if_neg (by rw [zb hk,zb hkb,e]; simp)]; rfl
              · rw [decide_eq_false e,if_pos (by decide),if_pos (by rw [zb hk,zb hkb]; simpa using e)]) (by rw [Ac,if_neg (by omega)])]
            by_cases e : a.un.2.2.2 = b.un.2.2.2
            · rw [if_neg (fun hh => (Ri c4).1 hh e),decide_eq_true (xA c1 c2 c3 e)]; rfl
            · rw [if_pos ((Ri c4).2 e),decide_eq_false (fun hh => e (by rw [hh]))]; rfl
          · rw [if_pos (by omega),decide_eq_false (fun hh => c4 (by rw [hh]))]; rfl
        · rw [if_neg c3,decide_eq_false (fun hh => c3 (by rw [hh]))]; rfl
      · rw [if_neg c2,decide_eq_false (fun hh => c2 (by rw [hh]))]; rfl
    · rw [if_neg c1,decide_eq_false (fun hh => c1 (by rw [hh]))]; rfl
open Classical in
theorem fZ {a b : Tr38} (hc : a.cnt ≤ 1048576) : Lt a b = some (decide (a = b)) := B6 (g := fun n => D9 n a b) (fun n r h => JJ n a b r h) (YG (SizeOf.sizeOf a + 1) a b (by omega) hc)
open Classical in
theorem Zj : ∀ (n : Nat) (a b : Tr24),SizeOf.sizeOf a < n → a.cnt ≤ 2097152 → FJ n a b = some (decide (a = b))
  | 0,a,b,h,_ => absurd h (Nat.not_lt_zero _)
  | n + 1,a,b,h,hc => by
    have hl := tH a
    show EY (FJ n) a b = _
    unfold EY
    by_cases c : a.un.1 = b.un.1 ∧ a.un.2.1 = b.un.2.1 ∧ a.un.2.2.1 = b.un.2.2.1 ∧ a.un.2.2.2.length = b.un.2.2.2.length
    · obtain ⟨c1,c2,c3,c4⟩ := c
      rw [if_neg (by simp [c1,c2,c3,c4])]
      rw [LP a.un.2.2.2.length (EQ (FJ n) a b) (fun k => a.un.2.2.2[k]? ≠ b.un.2.2.2[k]?) false (fun k hk => by
        have hm := List.getElem_mem hk
        have hkb : k < b.un.2.2.2.length := by omega
        have hx := Zj n a.un.2.2.2[k] b.un.2.2.2[k] (by have := Xk hm; omega) (Nat.le_trans (rT hm) hc)
        rw [EQ,if_pos (by omega),A9 (zb hk),za,A9 (zb hkb),za,hx,za,Ah (by omega)]
        by_cases e : a.un.2.2.2[k] = b.un.2.2.2[k]
        · rw [decide_eq_true e,if_neg (by decide),if_neg (by rw [zb hk,zb hkb,e]; simp)]; rfl
        · rw [decide_eq_false e,if_pos (by decide),if_pos (by rw [zb hk,zb hkb]; simpa using e)]) (by rw [EQ,if_neg (by omega)])]
      by_cases e : a.un.2.2.2 = b.un.2.2.2
      · rw [if_neg (fun hh => (Ri c4).1 hh e),decide_eq_true (xP c1 c2 c3 e)]; rfl
      · rw [if_pos ((Ri c4).2 e),decide_eq_false (fun hh => e (by rw [hh]))]; rfl
    · rw [if_pos (by simp only [Bool.or_eq_true,decide_eq_true_eq]; omega),decide_eq_false (fun hh => c (by rw [hh]; exact ⟨rfl,rfl,rfl,rfl⟩))]
open Classical in
theorem gG {a b : Tr24} (hc : a.cnt ≤ 2097152) : La a b = some (decide (a = b)) := B6 (g := fun n => FJ n a b) (fun n r h => NG n a b r h) (Zj (SizeOf.sizeOf a + 1) a b (by omega) hc)
theorem eJ (f : Int) : Jw f = some (Ci f) := by
  unfold Jw Ci
  by_cases c : (decide (f = 4) || decide (f = 5)) = true
  · rw [if_pos c,if_pos c]
  · rw [if_neg c,if_neg c]
    unfold EE HB HX
    by_cases c2 : f = 2
    · subst c2; rfl
    by_cases c0 : f = 0
    · subst c0; rfl
    by_cases c1 : f = 1
    · subst c1; rfl
    by_cases c3 : f = 3
    · subst c3; rfl
    rw [if_neg c0,if_neg c1,decide_eq_false c3,za,if_neg (by decide),if_neg c2,if_neg c2,if_neg (by simp [c0,c1,c3])]; rfl
theorem SY (f : Int) : 0 ≤ Ci f ∧ Ci f ≤ 255 := by
  unfold Ci HX
  split
  · omega
  · split
    · omega
    · split <;> omega
abbrev Gf (k f v : Int) (n : Nat) : Prop := 1 ≤ k ∧ k ≤ 6 ∧ (k ≠ 3 → f = 0 ∧ v = 0) ∧ (k = 3 → 0 ≤ f ∧ f ≤ 5 ∧ 0 ≤ v ∧ v ≤ Ci f) ∧ (k ≤ 3 → n = 0) ∧ (k = 4 → n = 1) ∧ (5 ≤ k → 2 ≤ n ∧ n ≤ 8)
theorem cX (t : Tr38) : Im t = some (decide (Gf t.un.1 t.un.2.1 t.un.2.2.1 t.un.2.2.2.length)) := by
  unfold Im
  by_cases c3 : t.un.1 = 3
  · rw [if_pos c3]
    unfold DX
    rw [← Bool.decide_and]
    by_cases k : 0 ≤ t.un.2.1 ∧ t.un.2.1 ≤ 5
    · rw [if_pos (decide_eq_true k)]
      by_cases v0 : 0 ≤ t.un.2.2.1
      · rw [if_pos v0,eJ,za]
        by_cases v1 : t.un.2.2.1 ≤ Ci t.un.2.1
        · rw [if_pos v1,za]
          exact congrArg some (decide_eq_decide.2 ⟨fun h => by unfold Gf; omega,fun h => by unfold Gf at h; omega⟩)
        · rw [if_neg v1,za,decide_eq_false (fun h => by unfold Gf at h; omega)]
      · rw [if_neg v0,za,decide_eq_false (fun h => by unfold Gf at h; omega)]
    · rw [if_neg (by simpa using k),za,decide_eq_false (fun h => by unfold Gf at h; omega)]
  · rw [if_neg c3]
    by_cases z : t.un.2.1 = 0 ∧ t.un.2.2.1 = 0
    · rw [if_neg (by simp [z.1,z.2])]
      by_cases c1 : t.un.1 = 1
      · rw [if_pos c1,za,if_pos rfl]
        exact congrArg some (decide_eq_decide.2 ⟨fun h => by unfold Gf; omega,fun h => by unfold Gf at h; omega⟩)
      · rw [if_neg c1,za]
        by_cases c2 : t.un.1 = 2
        · rw [if_pos (decide_eq_true c2)]
          exact congrArg some (decide_eq_decide.2 ⟨fun h => by unfold Gf; omega,fun h => by unfold Gf at h; omega⟩)
        · rw [if_neg (by simpa using c2)]
          by_cases c4 : t.un.1 = 4
          · rw [if_pos c4]
            exact congrArg some (decide_eq_decide.2 ⟨fun h => by unfold Gf; omega,fun h => by unfold Gf at h; omega⟩)
          · rw [if_neg c4]
            by_cases c5 : t.un.1 = 5
            · rw [if_pos c5,za,if_pos rfl, ← Bool.decide_and]
              exact congrArg some (decide_eq_decide.2 ⟨fun h => by unfold Gf; omega,fun h => by unfold Gf at h; omega⟩)
            · rw [if_neg c5,za]
              by_cases c6 : t.un.1 = 6
              · rw [if_pos (decide_eq_true c6), ← Bool.decide_and]
                exact congrArg some (decide_eq_decide.2 ⟨fun h => by unfold Gf; omega,fun h => by unfold Gf at h; omega⟩)
              · rw [if_neg (by simpa using c6),decide_eq_false (fun h => by unfold Gf at h; omega)]
    · rw [if_pos (by simp only [Bool.or_eq_true,decide_eq_true_eq]; omega),decide_eq_false (fun h => by unfold Gf at h; omega)]
def HM : Tr38 → Bool
  | .mk k f v l => decide (Gf k f v l.length) && (l.map HM).all id
theorem IW (t : Tr38) : HM t = true ↔ Gf t.un.1 t.un.2.1 t.un.2.2.1 t.un.2.2.2.length ∧ ∀ x ∈ t.un.2.2.2,HM x = true := by
  cases t with
  | mk k f v l =>
    rw [HM,zg,decide_eq_true_eq,List.all_map,List.all_eq_true]; rfl
abbrev Od (t : Tr38) (b d : Int) : Prop := HM t = true ∧ (dp t : Int) ≤ d ∧ (t.cnt : Int) ≤ b
theorem Ww : ∀ (n : Nat) (t : Tr38),SizeOf.sizeOf t < n → t.cnt ≤ 1048576 → ∀ b d : Int,0 ≤ b → b ≤ 1000 → 0 ≤ d → d ≤ 1000 →
    (Od t b d → AW n b t d = some (true,b - t.cnt)) ∧ (¬ Od t b d → ∃ b',AW n b t d = some (false,b'))
  | 0,t,h,_ => absurd h (Nat.not_lt_zero _)
  | n + 1, t, h, hc => by
    intro b d b0 b1 d0 d1
    have hl := tK t
    have hcc := Kd t
    have hde := S6 t
    have hst : AW (n + 1) b t d = BB (AW n) b t d := rfl
    rw [hst]
    unfold BB
    rw [Ah (by omega)]
    by_cases g1 : b - 1 < 0
    · rw [if_pos g1,za,if_pos rfl]
      exact ⟨fun hk => by have := hk.2.2; omega,fun _ => ⟨_,rfl⟩⟩
    rw [if_neg g1]
    by_cases g2 : d < 1
    · rw [if_pos g2,za,if_pos rfl]
      exact ⟨fun hk => by have := hk.2.1; omega,fun _ => ⟨_,rfl⟩⟩
    rw [if_neg g2,cX,za,za]
    by_cases g3 : Gf t.un.1 t.un.2.1 t.un.2.2.1 t.un.2.2.2.length
    · rw [decide_eq_true g3,if_neg (by decide)]
      have key : ∀ (m i : Nat),i + m = t.un.2.2.2.length → (∀ x ∈ t.un.2.2.2.take i,HM x = true ∧ (dp x : Int) ≤ d - 1) → (((t.un.2.2.2.take i).map Tr38.cnt).sum : Int) ≤ b - 1 →
          (Od t b d → GN (Aj (AP (AW n) t d) ((i : Int),b - 1 - (((t.un.2.2.2.take i).map Tr38.cnt).sum : Nat))) (fun x3 => some (true,x3)) = some (true,b - t.cnt)) ∧ (¬ Od t b d → ∃ b',GN (Aj (AP (AW n) t d) ((i : Int),b - 1 - (((t.un.2.2.2.take i).map Tr38.cnt).sum : Nat))) (fun x3 => some (true,x3)) = some (false,b')) := by
        intro m
        induction m with
        | zero =>
          intro i hi hx hs
          have e0 : t.un.2.2.2.take i = t.un.2.2.2 := List.take_of_length_le (by omega)
          rw [e0] at hx hs ⊢
          have hend : Aj (AP (AW n) t d) ((i : Int),b - 1 - ((t.un.2.2.2.map Tr38.cnt).sum : Nat)) = some (.inl (b - 1 - ((t.un.2.2.2.map Tr38.cnt).sum : Nat))) := Ap (by rw [AP,if_neg (by omega)])
          have hok : Od t b d := ⟨(IW t).2 ⟨g3,fun x hm => (hx x hm).1⟩,by
            have : mx (t.un.2.2.2.map dp) ≤ (d - 1).toNat := Tf fun a ha => by
              obtain ⟨x,hm,rfl⟩ := List.mem_map.1 ha
              have := (hx x hm).2
              omega
            omega,by omega⟩
          refine ⟨fun _ => ?_,fun hn => absurd hok hn⟩
          rw [hend]
          show some (true,b - 1 - ((t.un.2.2.2.map Tr38.cnt).sum : Nat)) = _
          rw [hcc]
          congr 2; omega
        | succ m ih =>
          intro i hi hx hs
          have hil : i < t.un.2.2.2.length := by omega
          have hm := List.getElem_mem hil
          have hsum : ((t.un.2.2.2.take (i + 1)).map Tr38.cnt).sum = ((t.un.2.2.2.take i).map Tr38.cnt).sum + t.un.2.2.2[i].cnt := by
            rw [List.take_succ_eq_append_getElem hil,List.map_append,List.sum_append]; simp
          have hle := JE (g := Tr38.cnt) t.un.2.2.2 (i + 1)
          obtain ⟨r1,r2⟩ := Ww n t.un.2.2.2[i] (by have := QK hm; omega) (Nat.le_trans (qB hm) hc) (b - 1 - (((t.un.2.2.2.take i).map Tr38.cnt).sum : Nat)) (d - 1) (by omega) (by omega) (by omega) (by omega)
          by_cases g : Od t.un.2.2.2[i] (b - 1 - (((t.un.2.2.2.take i).map Tr38.cnt).sum : Nat)) (d - 1)
          · have hstep : AP (AW n) t d ((i : Int),b - 1 - (((t.un.2.2.2.take i).map Tr38.cnt).sum : Nat)) = some (.inl (((i + 1 : Nat) : Int),b - 1 - (((t.un.2.2.2.take (i + 1)).map Tr38.cnt).sum : Nat))) := by
              rw [AP,if_pos (by omega),A9 (zb hil),za,Ah (by omega),r1 g,za,if_neg (show ¬ (!true) = true by decide),Ah (by omega),hsum]
              show some (Sum.inl (_,_)) = _
              congr 3; omega
            rw [Bi hstep]
            refine ih (i + 1) (by omega) (fun x hxm => ?_) (by have := g.2.2; omega)
            rw [List.take_succ_eq_append_getElem hil] at hxm
            rcases List.mem_append.1 hxm with hh | hh
            · exact hx x hh
            · rw [List.mem_singleton.1 hh]; exact ⟨g.1,g.2.1⟩
          · obtain ⟨b',hb'⟩ := r2 g
            have hno : ¬ Od t b d := fun hk => g ⟨((IW t).1 hk.1).2 _ hm,by
              have h1 := UN (List.mem_map.2 ⟨_,hm,rfl⟩ : dp t.un.2.2.2[i] ∈ t.un.2.2.2.map dp)
              have := hk.2.1
              omega,by have := hk.2.2; omega⟩
            refine ⟨fun hk => absurd hk hno,fun _ => ⟨b', ?_⟩⟩
            rw [Ap (e := .inr (false,b')) (by
              rw [AP,if_pos (by omega),A9 (zb hil),za,Ah (by omega),hb',za,if_pos (by rfl)])]
            rfl
      have := key t.un.2.2.2.length 0 (by omega) (by simp) (by simp; omega)
      simpa using this
    · rw [decide_eq_false g3,if_pos (by decide)]
      exact ⟨fun hk => absurd ((IW t).1 hk.1).1 g3,fun _ => ⟨_,rfl⟩⟩
theorem UQ {t : Tr38} (hc : t.cnt ≤ 1048576) : FM t = some (decide (Od t 64 8)) := by
  obtain ⟨h1,h2⟩ := Ww (SizeOf.sizeOf t + 1) t (by omega) hc 64 8 (by omega) (by omega) (by omega) (by omega)
  unfold FM
  by_cases g : Od t 64 8
  · rw [show D2 64 t 8 = some (true,(64 - t.cnt : Int)) from B6 (g := fun n => AW n 64 t 8) (fun n r h => Eb n 64 t 8 r h) (h1 g),decide_eq_true g]; rfl
  · obtain ⟨b',hb⟩ := h2 g
    rw [show D2 64 t 8 = some (false,b') from B6 (g := fun n => AW n 64 t 8) (fun n r h => Eb n 64 t 8 r h) hb,decide_eq_false g]; rfl
theorem XX (t : Tr24) : HM (mi t) = true ↔ Gf t.un.1 t.un.2.1 t.un.2.2.1 t.un.2.2.2.length ∧ ∀ x ∈ t.un.2.2.2,HM (mi x) = true := by
  rw [IW,WW]
  show Gf _ _ _ (t.un.2.2.2.map mi).length ∧ _ ↔ _
  rw [zh]
  refine and_congr_right fun _ => ⟨fun h x hx => h _ (List.mem_map.2 ⟨x,hx,rfl⟩),fun h x hx => ?_⟩
  obtain ⟨y,hy,rfl⟩ := List.mem_map.1 hx
  exact h y hy
theorem Zk : ∀ (n : Nat) (t : Tr24),SizeOf.sizeOf t < n → t.cnt ≤ 1048576 → E3 n t = some (HM (mi t))
  | 0,t,h,_ => absurd h (Nat.not_lt_zero _)
  | n + 1, t, h, hc => by
    have hl := tH t
    have htb := SY t.un.2.1
    show EU (E3 n) t = _
    unfold EU
    have no : ¬ Gf t.un.1 t.un.2.1 t.un.2.2.1 t.un.2.2.2.length → HM (mi t) = false := fun hn => by
      cases hh : HM (mi t) with
      | false => rfl
      | true => exact absurd ((XX t).1 hh).1 hn
    by_cases g1 : (bif decide (t.un.1 ≠ 3) then (decide (t.un.2.1 ≠ 0) || (decide (t.un.2.2.1 ≠ 0) || (decide (t.un.1 < 1) || decide (6 < t.un.1)))) else (decide (t.un.1 < 1) || decide (6 < t.un.1))) = true
    · rw [if_pos g1,no (fun hf => by
        unfold Gf at hf
        by_cases c : t.un.1 = 3
        · simp [c] at g1
        · rw [show decide (t.un.1 ≠ 3) = true from decide_eq_true c] at g1
          simp only [cond_true,Bool.or_eq_true,decide_eq_true_eq] at g1
          omega)]
    rw [if_neg g1]
    by_cases g2 : (decide (t.un.1 = 3) && (decide (t.un.2.1 < 0) || (decide (5 < t.un.2.1) || (decide (t.un.2.2.1 < 0) || decide ((Ci t.un.2.1) < t.un.2.2.1))))) = true
    · rw [if_pos g2,no (fun hf => by
        unfold Gf at hf
        simp only [zg,Bool.or_eq_true,decide_eq_true_eq] at g2
        omega)]
    rw [if_neg g2]
    by_cases g3 : (bif decide (t.un.1 ≤ 3) then (decide ((t.un.2.2.2.length : Int) ≠ 0) || (bif decide (t.un.1 = 4) then (decide ((t.un.2.2.2.length : Int) ≠ 1) || (decide (5 ≤ t.un.1) && (decide ((t.un.2.2.2.length : Int) < 2) || decide (8 < (t.un.2.2.2.length : Int))))) else (decide (5 ≤ t.un.1) && (decide ((t.un.2.2.2.length : Int) < 2) || decide (8 < (t.un.2.2.2.length : Int)))))) else (bif decide (t.un.1 = 4) then (decide ((t.un.2.2.2.length : Int) ≠ 1) || (decide (5 ≤ t.un.1) && (decide ((t.un.2.2.2.length : Int) < 2) || decide (8 < (t.un.2.2.2.length : Int))))) else (decide (5 ≤ t.un.1) && (decide ((t.un.2.2.2.length : Int) < 2) || decide (8 < (t.un.2.2.2.length : Int)))))) = true
    · rw [if_pos g3,no (fun hf => by
        unfold Gf at hf
        by_cases c : t.un.1 ≤ 3
        · rw [show decide (t.un.1 ≤ 3) = true from decide_eq_true c,show decide (t.un.1 = 4) = false from decide_eq_false (by omega)] at g3
          simp only [cond_true,cond_false,Bool.or_eq_true,zg,decide_eq_true_eq] at g3
          omega
        · by_cases c4 : t.un.1 = 4
          · rw [show decide (t.un.1 ≤ 3) = false from decide_eq_false c,show decide (t.un.1 = 4) = true from decide_eq_true c4] at g3
            simp only [cond_true,cond_false,Bool.or_eq_true,zg,decide_eq_true_eq] at g3
            omega
          · rw [show decide (t.un.1 ≤ 3) = false from decide_eq_false c,show decide (t.un.1 = 4) = false from decide_eq_false c4] at g3
            simp only [cond_true,cond_false,Bool.or_eq_true,zg,decide_eq_true_eq] at g3
            omega)]
    rw [if_neg g3]
    have hfl : Gf t.un.1 t.un.2.1 t.un.2.2.1 t.un.2.2.2.length := by
      simp only [zg,Bool.or_eq_true,decide_eq_true_eq,not_and,not_or] at g2
      by_cases c3 : t.un.1 = 3
      · rw [show decide (t.un.1 ≤ 3) = true from decide_eq_true (by omega),show decide (t.un.1 = 4) = false from decide_eq_false (by omega)] at g3
        simp only [cond_true,cond_false,Bool.or_eq_true,zg,decide_eq_true_eq] at g3
        have := g2 c3
        unfold Gf; omega
      · by_cases cl : t.un.1 ≤ 3
        · have c4 : ¬ t.un.1 = 4 := by omega
          simp [c3,cl,c4] at g1 g3
          unfold Gf
          have : t.un.2.2.2.length = 0 := by
            rw [List.length_eq_zero_iff]
            exact g3.1
          omega
        · by_cases c4 : t.un.1 = 4
          · simp [c3,cl,c4] at g1 g3
            unfold Gf; omega
          · simp [c3,cl,c4] at g1 g3
            unfold Gf; omega
    have hx : ∀ x ∈ t.un.2.2.2,E3 n x = some (HM (mi x)) := fun x hm => Zk n x (by have := Xk hm; omega) (Nat.le_trans (rT hm) hc)
    rw [LP t.un.2.2.2.length (EX (E3 n) t) (fun k => ∃ e,t.un.2.2.2[k]? = some e ∧ HM (mi e) = false) false (fun k hk => by
      rw [EX,if_pos (by omega),A9 (zb hk),za,hx _ (List.getElem_mem hk),za,Ah (by omega)]
      cases hq : HM (mi t.un.2.2.2[k]) with
      | true => rw [if_neg (by decide),if_neg (fun hh => by rw [Rm hk,hq] at hh; cases hh)]; rfl
      | false => rw [if_pos (by decide),if_pos ((Rm hk).2 hq)]) (by rw [EX,if_neg (by omega)])]
    by_cases e : ∃ k,k < t.un.2.2.2.length ∧ ∃ e,t.un.2.2.2[k]? = some e ∧ HM (mi e) = false
    · rw [if_pos e]
      obtain ⟨x,hxm,hxf⟩ := VI.1 e
      have : HM (mi t) = false := by
        cases hh : HM (mi t) with
        | false => rfl
        | true => rw [((XX t).1 hh).2 x hxm] at hxf; cases hxf
      rw [this]; rfl
    · rw [if_neg e]
      have : HM (mi t) = true := (XX t).2 ⟨hfl,fun x hxm => by
        cases hh : HM (mi x) with
        | true => rfl
        | false => exact absurd (VI.2 ⟨x,hxm,hh⟩) e⟩
      rw [this]; rfl
theorem bP {t : Tr24} (hc : t.cnt ≤ 1048576) : HC t = some (decide (Od (mi t) 64 8)) := by
  have hcm := l6 t
  unfold HC
  rw [show O7 t = some (HM (mi t)) from B6 (g := fun n => E3 n t) (fun n r h => NE n t r h) (Zk (SizeOf.sizeOf t + 1) t (by omega) hc),za]
  by_cases hf : HM (mi t) = true
  case neg => rw [if_neg hf,za,decide_eq_false (fun h => hf h.1)]
  case pos =>
    rw [if_pos hf,Xv hc,za]
    by_cases c : (t.cnt : Int) ≤ 64
    · rw [if_pos c,eL hc,za,za]
      exact congrArg some (decide_eq_decide.2 ⟨fun h => ⟨hf,h,by omega⟩,fun h => h.2.1⟩)
    · rw [if_neg c,za,decide_eq_false (fun h => by have := h.2.2; omega)]
end Go.Proofs.YtkhiflmalgkjiaaGreat
