/- Layer 31: what a condition is at a switch. Conditions: none. -/
import Derived.Test.YtkhiflmalgkjiaaGreateN26
set_option linter.unusedVariables false
set_option linter.unusedSimpArgs false
open Go Go.RowKit
namespace Go.Proofs.YtkhiflmalgkjiaaGreat
def bQ (k : Int) (L : List Tr38) (a d : Int) : Tr38 :=
  if L.any (fun x => decide (x.un.1 = d)) = true then .mk d 0 0 [] else match L.filter (fun x => decide (x.un.1 ≠ a)) with | [] => .mk a 0 0 [] | [x] => x | x :: y :: R => .mk k 0 0 (x :: y :: R)
def yT (k f v : Int) (L : List Tr38) : Tr38 :=
  match L with | [c] => if c.un.1 = 1 then .mk 2 0 0 [] else if c.un.1 = 2 then .mk 1 0 0 [] else .mk k f v [c] | L => .mk k f v L
def xJ (sw k f v : Int) (L : List Tr38) : Tr38 :=
  if k = 3 then (if f = 5 then (if v = sw then .mk 1 0 0 [] else .mk 2 0 0 []) else .mk k f v L) else if k = 4 then yT k f v L else if k = 5 then bQ k L 1 2 else if k = 6 then bQ k L 2 1 else .mk k f v L
def ct (sw : Int) : Tr38 → Tr38
  | .mk k f v l => xJ sw k f v (l.map (ct sw))
theorem bS (sw : Int) (t : Tr38) : ct sw t = xJ sw t.un.1 t.un.2.1 t.un.2.2.1 (t.un.2.2.2.map (ct sw)) := by cases t; rw [ct]; rfl
theorem mD (a : Int) (x : Tr38) : [x].filter (fun x => decide (x.un.1 ≠ a)) = if x.un.1 ≠ a then [x] else [] := by
  by_cases h : x.un.1 ≠ a
  · rw [if_pos h]; simp [h]
  · rw [if_neg h]; simp at h; simp [h]
theorem Xi (l : List Tr38) (hl : l.length ≤ 1048576) (a : Int) : Dr l a = some (l.filter fun x => decide (x.un.1 ≠ a)) := by
  unfold Dr
  obtain ⟨o,h1,h2⟩ := Dk l.length (fun (o : List Tr38) (i : Nat) => (o,(i : Int))) (CX l a) id (fun o i => o = (l.take i).filter fun x => decide (x.un.1 ≠ a))
    (fun o i hi ho => by
      have hol : o.length ≤ i := by
        rw [ho]
        have := List.length_filter_le (fun x : Tr38 => decide (x.un.1 ≠ a)) (l.take i)
        rw [List.length_take] at this; omega
      refine ⟨_, ?_,rfl⟩
      rw [CX,if_pos (by omega),A5 (List.getElem?_eq_getElem hi),Option.bind_some,Ad (by omega),List.take_succ_eq_append_getElem hi,List.filter_append, ← ho]
      unfold D0
      by_cases c : l[i].un.1 ≠ a
      · rw [if_pos (by exact @decide_eq_true _ (_) c),Gt (by simp; omega),mD,if_pos c]; rfl
      · rw [if_neg (by simpa using c),mD,if_neg c,List.append_nil]; rfl)
    (fun o _ => by rw [CX,if_neg (by omega)]; rfl) [] rfl
  rw [List.take_length] at h1
  have h2' : Ah (CX l a) ([],0) = some o := h2
  rw [h2',h1]; rfl
theorem N4 (k : Int) (l : List Tr38) (hl : l.length ≤ 1048576) (a d : Int) : Co k l a d = some (bQ k l a d) := by
  obtain ⟨i,i1,i2⟩ := UK l (fun x => decide (x.un.1 = d)) (AM l d) (fun j hj => by
    rw [AM,if_pos (by omega),A5 (List.getElem?_eq_getElem hj),Option.bind_some,Ad (by omega)]; rfl) (by rw [AM,if_neg (by omega)])
  unfold Co Bf A7 bQ
  rw [i1,Option.bind_some,Option.bind_some,i2]
  by_cases c : (l.any fun x => decide (x.un.1 = d)) = true
  · rw [if_pos c,if_pos c]
  · rw [if_neg c,if_neg c,Xi l hl,Option.bind_some]
    cases l.filter fun x => decide (x.un.1 ≠ a) with
    | nil => rfl
    | cons x R =>
      cases R with
      | nil => rfl
      | cons y R =>
        rw [if_neg (by simp only [List.length_cons]; omega),if_neg (by simp only [List.length_cons]; omega)]
theorem RN (b : Bool) : Tr38.of ((An b).un.1,(An b).un.2.1,(An b).un.2.2.1,(An b).un.2.2.2) = if b = true then .mk 1 0 0 [] else .mk 2 0 0 [] := by cases b <;> first | rfl | simp
theorem e7 (sw : Int) : ∀ (n : Nat) (t : Tr38),SizeOf.sizeOf t < n → t.cnt ≤ 1048576 → Dj n t sw = some (ct sw t)
  | 0,t,h,_ => absurd h (Nat.not_lt_zero _)
  | n + 1, t, h, hc => by
    have hl := sD t
    have hx : ∀ x ∈ t.un.2.2.2,Dj n x sw = some (ct sw x) := fun x hm => e7 sw n x (by have := S8 hm; omega) (Nat.le_trans (oL hm) hc)
    have hall : Dc (Dj n) t.un.2.2.2 sw = some (t.un.2.2.2.map (ct sw)) := by
      unfold Dc
      rw [Ul t.un.2.2.2 (by omega) (ct sw) (Cd (Dj n) t.un.2.2.2 sw) (fun k hk out ho => by
        rw [Cd,if_pos (by omega),A5 (List.getElem?_eq_getElem hk),Option.bind_some,hx _ (List.getElem_mem hk)]; rfl) (fun out => by rw [Cd,if_neg (by omega)])]; rfl
    show Du (Dj n) t sw = _
    unfold Du
    rw [hall,Option.bind_some,RN,RN,RN,N4 t.un.1 (t.un.2.2.2.map (ct sw)) (by rw [List.length_map]; omega) 1 2,N4 t.un.1 (t.un.2.2.2.map (ct sw)) (by rw [List.length_map]; omega) 2 1,bS]
    unfold xJ
    by_cases c3 : t.un.1 = 3
    · rw [if_pos c3,if_pos c3]
      by_cases c5 : t.un.2.1 = 5
      · rw [if_pos c5,if_pos c5]
        by_cases cv : t.un.2.2.1 = sw
        · rw [if_pos (decide_eq_true cv),if_pos cv]; rfl
        · rw [if_neg (by simpa using cv),if_neg cv]; rfl
      · rw [if_neg c5,if_neg c5]; rfl
    rw [if_neg c3,if_neg c3]
    by_cases c4 : t.un.1 = 4
    · rw [if_pos c4,if_pos c4]
      unfold yT
      rcases t.un.2.2.2.map (ct sw) with _ | ⟨c,_ | ⟨y,R⟩⟩
      · rfl
      · rw [if_pos (by rfl),show ix [c] 0 = some c from A5 (k := 0) rfl]
        simp only [Option.bind_some]
        by_cases g1 : c.un.1 = 1
        · rw [decide_eq_true g1,if_pos rfl,if_pos g1]; rfl
        · rw [decide_eq_false g1,if_neg (by decide),if_neg g1,if_pos (by rfl)]
          simp only [Option.bind_some]
          by_cases g2 : c.un.1 = 2
          · rw [decide_eq_true g2,if_pos rfl,if_pos g2]; rfl
          · rw [decide_eq_false g2,if_neg (by decide),if_neg g2]; rfl
      · rw [if_neg (by simp only [List.length_cons]; omega),Option.bind_some,if_neg (by decide),if_neg (by simp only [List.length_cons]; omega),Option.bind_some,if_neg (by decide)]; rfl
    rw [if_neg c4,if_neg c4]
    by_cases c5 : t.un.1 = 5
    · rw [if_pos c5,if_pos c5]; rfl
    rw [if_neg c5,if_neg c5]
    by_cases c6 : t.un.1 = 6
    · rw [if_pos c6,if_pos c6]; rfl
    rw [if_neg c6,if_neg c6]; rfl
theorem j9 {t : Tr38} (hc : t.cnt ≤ 1048576) (sw : Int) : Lf t sw = some (ct sw t) := B4 (g := fun n => Dj n t sw) (fun n r h => JM n t sw r h) (e7 sw (SizeOf.sizeOf t + 1) t (by omega) hc)
abbrev Arr := Int × Int × PK
structure Gd (q : Int) (p : PK) (sw : Int) (x t : Tr38) : Prop where
  fit : Ie x = true
  deep : dp x ≤ dp t
  size : x.cnt ≤ t.cnt
  none : DS 5 x = []
  same : Kl (-1,q,p) x = Kl (sw,q,p) t
theorem tV (k f v : Int) (l : List Tr38) : (Tr38.mk k f v l).cnt = 1 + (l.map Tr38.cnt).sum := Kg (.mk k f v l)
theorem vK (k f v : Int) (l : List Tr38) : dp (Tr38.mk k f v l) = 1 + mx (l.map dp) := Sa (.mk k f v l)
theorem XU (k f v : Int) (l : List Tr38) : Ie (Tr38.mk k f v l) = true ↔ Gp k f v l.length ∧ ∀ x ∈ l,Ie x = true := IX (.mk k f v l)
theorem VM (a : Arr) (k f v : Int) (l : List Tr38) : Kl a (Tr38.mk k f v l) = VJ a k f v (l.map (Kl a)) := Oj a (.mk k f v l)
theorem RA {k : Int} (h : k = 1 ∨ k = 2) : Ie (Tr38.mk k 0 0 []) = true := (XU ..).2 ⟨by unfold Gp; rcases h with rfl | rfl <;> simp,fun x hx => absurd hx (List.not_mem_nil)⟩
theorem O1 {x : Tr38} (hf : Ie x = true) {d : Int} (hd : d = 1 ∨ d = 2) (hk : x.un.1 = d) : x = .mk d 0 0 [] := by
  have h := ((IX x).1 hf).1
  have h1 := h.2.2.1 (by omega)
  have h2 : x.un.2.2.2 = [] := List.length_eq_zero_iff.1 (h.2.2.2.2.1 (by omega))
  rw [← iZ x]
  show Tr38.of (x.un.1,x.un.2.1,x.un.2.2.1,x.un.2.2.2) = _
  rw [hk,h1.1,h1.2,h2]; try rfl
theorem uE (t : Tr38) : 1 ≤ t.cnt := by rw [Kg]; omega
theorem dp1 (t : Tr38) : 1 ≤ dp t := by rw [Sa]; omega
theorem RJ {g : Tr38 → Nat} (q : Tr38 → Bool) : ∀ l : List Tr38,((l.filter q).map g).sum ≤ (l.map g).sum
  | [] => Nat.le_refl _
  | x :: l => by
    have := RJ (g := g) q l
    by_cases c : q x = true
    · rw [List.filter_cons_of_pos c,List.map_cons,List.sum_cons,List.map_cons,List.sum_cons]; omega
    · rw [List.filter_cons_of_neg c,List.map_cons,List.sum_cons]; omega
theorem W4 {g h : Tr38 → Nat} : ∀ l : List Tr38,(∀ x ∈ l,g x ≤ h x) → (l.map g).sum ≤ (l.map h).sum
  | [],_ => Nat.le_refl _
  | x :: l,hx => by
    have h1 := hx x (List.mem_cons_self ..)
    have h2 := W4 (g := g) (h := h) l fun y hy => hx y (List.mem_cons_of_mem _ hy)
    rw [List.map_cons,List.sum_cons,List.map_cons,List.sum_cons]; omega
theorem M8 {k : Int} (hk : k ≠ 3) {l : List Tr38} (h : ∀ x ∈ l,DS 5 x = []) : DS 5 (Tr38.mk k 0 0 l) = [] := by
  rw [J8]
  show (if k = 3 ∧ (0 : Int) = 5 then _ else _) ++ (l.map (DS 5)).flatten = []
  rw [if_neg (fun hh => hk hh.1),List.nil_append]
  refine List.flatten_eq_nil_iff.2 fun y hy => ?_
  obtain ⟨x,hx,rfl⟩ := List.mem_map.1 hy
  exact h x hx
theorem aL (k : Int) (L : List Tr38) (a d : Int) : (∃ x ∈ L,x.un.1 = d) ∧ bQ k L a d = .mk d 0 0 [] ∨ (∀ x ∈ L,x.un.1 ≠ d) ∧ (L.filter (fun x => decide (x.un.1 ≠ a)) = [] ∧ bQ k L a d = .mk a 0 0 [] ∨ (∃ x,L.filter (fun x => decide (x.un.1 ≠ a)) = [x] ∧ bQ k L a d = x) ∨ 2 ≤ (L.filter (fun x => decide (x.un.1 ≠ a))).length ∧ bQ k L a d = .mk k 0 0 (L.filter fun x => decide (x.un.1 ≠ a))) := by
  unfold bQ
  by_cases c : (L.any fun x => decide (x.un.1 = d)) = true
  · rw [if_pos c]
    obtain ⟨x,hx,h⟩ := List.any_eq_true.1 c
    exact .inl ⟨⟨x,hx,of_decide_eq_true h⟩,rfl⟩
  · rw [if_neg c]
    refine .inr ⟨fun x hx he => c (List.any_eq_true.2 ⟨x,hx,decide_eq_true he⟩), ?_⟩
    generalize (L.filter fun x => decide (x.un.1 ≠ a)) = R
    rcases R with _ | ⟨x,_ | ⟨y,R⟩⟩
    · exact .inl ⟨rfl,rfl⟩
    · exact .inr (.inl ⟨x,rfl,rfl⟩)
    · exact .inr (.inr ⟨by simp,rfl⟩)
theorem SN (a : Arr) : Kl a (.mk 1 0 0 []) = true := by rw [VM]; rfl
theorem Sy (a : Arr) : Kl a (.mk 2 0 0 []) = false := by rw [VM]; rfl
theorem Xe {q : Int} {p : PK} {sw : Int} {t : Tr38} {L : List Tr38} (hlen : L.length ≤ 8) (hk : t.un.1 = 5 ∨ t.un.1 = 6) (hL : L = t.un.2.2.2.map (ct sw)) (hx : ∀ x ∈ t.un.2.2.2,Gd q p sw (ct sw x) x) (a d : Int) (had : t.un.1 = 5 ∧ a = 1 ∧ d = 2 ∨ t.un.1 = 6 ∧ a = 2 ∧ d = 1) : Gd q p sw (bQ t.un.1 L a d) t := by
  have hc1 := uE t
  have hd1 := dp1 t
  have hF : ∀ x ∈ L,Ie x = true := fun x hm => by
    rw [hL] at hm
    obtain ⟨y,hy,rfl⟩ := List.mem_map.1 hm
    exact (hx y hy).fit
  have hN : ∀ x ∈ L,DS 5 x = [] := fun x hm => by
    rw [hL] at hm
    obtain ⟨y,hy,rfl⟩ := List.mem_map.1 hm
    exact (hx y hy).none
  have hD : ∀ x ∈ L,dp x + 1 ≤ dp t := fun x hm => by
    rw [hL] at hm
    obtain ⟨y,hy,rfl⟩ := List.mem_map.1 hm
    have h1 := (hx y hy).deep
    have h2 := Uz (List.mem_map.2 ⟨y,hy,rfl⟩ : dp y ∈ t.un.2.2.2.map dp)
    rw [Sa t]; omega
  have hS : (L.map Tr38.cnt).sum + 1 ≤ t.cnt := by
    rw [hL,List.map_map,Kg t]
    have := W4 (g := Tr38.cnt ∘ ct sw) (h := Tr38.cnt) t.un.2.2.2 fun x hm => (hx x hm).size
    omega
  have hH : Kl (sw,q,p) t = if t.un.1 = 5 then L.all (Kl (-1,q,p)) else L.any (Kl (-1,q,p)) := by
    have e : t.un.2.2.2.map (Kl (sw,q,p)) = L.map (Kl (-1,q,p)) := by
      rw [hL,List.map_map]
      exact List.map_congr_left fun x hm => (hx x hm).same.symm
    rw [Oj,e]
    unfold VJ
    rcases hk with h | h
    · rw [h,if_neg (by decide),if_neg (by decide),if_neg (by decide),if_pos rfl,if_pos rfl,List.all_map]; rfl
    · rw [h,if_neg (by decide),if_neg (by decide),if_neg (by decide),if_neg (by decide),if_pos rfl,if_neg (by decide),List.any_map]; rfl
  have ha : a = 1 ∨ a = 2 := by omega
  have hd : d = 1 ∨ d = 2 := by omega
  have m0 : mx [] = 0 := rfl
  rcases aL t.un.1 L a d with ⟨⟨x,hxm,hxd⟩,e⟩ | ⟨hno,⟨e0,e⟩ | ⟨x,e0,e⟩ | ⟨e0,e⟩⟩
  · rw [e]
    have hxe := O1 (hF x hxm) hd hxd
    refine ⟨RA hd,by rw [vK]; show 1 + mx [] ≤ _; omega,by rw [tV]; simp; omega,M8 (by omega) (fun y hy => absurd hy (List.not_mem_nil)), ?_⟩
    rw [hH]
    rcases had with ⟨h,rfl,rfl⟩ | ⟨h,rfl,rfl⟩
    · rw [if_pos h,Sy]
      exact (List.all_eq_false.2 ⟨x,hxm,by rw [hxe,Sy]; simp⟩).symm
    · rw [if_neg (by omega),SN]
      exact (List.any_eq_true.2 ⟨x,hxm,by rw [hxe,SN]⟩).symm
  all_goals
    have hHf : Kl (sw,q,p) t = if t.un.1 = 5 then (L.filter fun x => decide (x.un.1 ≠ a)).all (Kl (-1,q,p)) else (L.filter fun x => decide (x.un.1 ≠ a)).any (Kl (-1,q,p)) := by
      rw [hH,List.all_filter,List.any_filter]
      rcases had with ⟨h,rfl,rfl⟩ | ⟨h,rfl,rfl⟩
      · rw [if_pos h,if_pos h]
        rw [Bool.eq_iff_iff,List.all_eq_true,List.all_eq_true]
        refine ⟨fun h x hxm => by rw [h x hxm]; simp,fun h x hxm => ?_⟩
        have h3 := h x hxm
        by_cases c : x.un.1 = 1
        · rw [O1 (hF x hxm) (.inl rfl) c,SN]
        · simpa [c] using h3
      · rw [if_neg (by omega),if_neg (by omega)]
        rw [Bool.eq_iff_iff,List.any_eq_true,List.any_eq_true]
        refine ⟨fun ⟨x,hxm,h3⟩ => ⟨x,hxm, ?_⟩,fun ⟨x,hxm,h3⟩ => ⟨x,hxm,by simp at h3; exact h3.2⟩⟩
        by_cases c : x.un.1 = 2
        · rw [O1 (hF x hxm) (.inr rfl) c,Sy] at h3; cases h3
        · simp [c,h3]
  · rw [e]
    refine ⟨RA ha,by rw [vK]; show 1 + mx [] ≤ _; omega,by rw [tV]; simp; omega,M8 (by omega) (fun y hy => absurd hy (List.not_mem_nil)), ?_⟩
    rw [hHf,e0]
    rcases had with ⟨h,rfl,rfl⟩ | ⟨h,rfl,rfl⟩
    · rw [if_pos h,SN]; rfl
    · rw [if_neg (by omega),Sy]; rfl
  · have hxm : x ∈ L := (List.mem_filter.1 (by rw [e0]; exact List.mem_singleton.2 rfl : x ∈ L.filter fun x => decide (x.un.1 ≠ a))).1
    rw [e]
    have h2 := hD x hxm
    have h3 := LQ (g := Tr38.cnt) hxm
    refine ⟨hF x hxm,by omega,by omega,hN x hxm, ?_⟩
    rw [hHf,e0]
    split <;> simp
  · have hfl := List.length_filter_le (fun x : Tr38 => decide (x.un.1 ≠ a)) L
    have hsf := RJ (g := Tr38.cnt) (fun x => decide (x.un.1 ≠ a)) L
    have hmem : ∀ x ∈ L.filter (fun x => decide (x.un.1 ≠ a)),x ∈ L := fun x hm => (List.mem_filter.1 hm).1
    rw [e]
    refine ⟨(XU ..).2 ⟨by unfold Gp; omega,fun x hm => hF x (hmem x hm)⟩, ?_,by rw [tV]; omega,M8 (by omega) fun x hm => hN x (hmem x hm), ?_⟩
    · have : mx ((L.filter fun x => decide (x.un.1 ≠ a)).map dp) ≤ dp t - 1 := Rj fun b hb => by
        obtain ⟨x,hm,rfl⟩ := List.mem_map.1 hb
        have := hD x (hmem x hm); omega
      rw [vK]; omega
    · rw [hHf,VM]
      unfold VJ
      rcases hk with h | h
      · rw [h,if_neg (by decide),if_neg (by decide),if_neg (by decide),if_pos rfl,if_pos rfl,List.all_map]; rfl
      · rw [h,if_neg (by decide),if_neg (by decide),if_neg (by decide),if_neg (by decide),if_pos rfl,if_neg (by decide),List.any_map]; rfl
theorem UU (q : Int) (p : PK) (sw : Int) : ∀ (n : Nat) (t : Tr38),SizeOf.sizeOf t < n → Ie t = true → Gd q p sw (ct sw t) t
  | 0,t,h,_ => absurd h (Nat.not_lt_zero _)
  | n + 1, t, h, hf => by
    obtain ⟨h1,h2⟩ := (IX t).1 hf
    have hc1 := uE t
    have hd1 := dp1 t
    have hx : ∀ x ∈ t.un.2.2.2,Gd q p sw (ct sw x) x := fun x hm => UU q p sw n x (by have := S8 hm; omega) (h2 x hm)
    have m0 : mx [] = 0 := rfl
    have leaf : ∀ k : Int,k = 1 ∨ k = 2 → Kl (-1,q,p) (.mk k 0 0 []) = Kl (sw,q,p) t → Gd q p sw (.mk k 0 0 []) t := fun k hk hh =>
      ⟨RA hk,by rw [vK]; show 1 + mx [] ≤ _; omega,by rw [tV]; simp; omega,M8 (by omega) (fun y hy => absurd hy (List.not_mem_nil)),hh⟩
    have self : t.un.2.2.2 = [] → (t.un.1 = 3 → t.un.2.1 ≠ 5) → Gd q p sw (.mk t.un.1 t.un.2.1 t.un.2.2.1 (t.un.2.2.2.map (ct sw))) t := fun he h5 => by
      have e : Tr38.mk t.un.1 t.un.2.1 t.un.2.2.1 (t.un.2.2.2.map (ct sw)) = t := by
        rw [he]
        conv => rhs; rw [← iZ t]
        show Tr38.mk t.un.1 t.un.2.1 t.un.2.2.1 [] = Tr38.of (t.un.1,t.un.2.1,t.un.2.2.1,t.un.2.2.2)
        rw [he]
      rw [e]
      refine ⟨hf,Nat.le_refl _,Nat.le_refl _, ?_, ?_⟩
      · rw [J8,he,if_neg (fun hh => h5 hh.1 hh.2)]; rfl
      · rw [Oj,Oj,he]
        unfold VJ
        by_cases c3 : t.un.1 = 3
        · have hg : gt (-1,q,p) t.un.2.1 = gt (sw,q,p) t.un.2.1 := by
            unfold gt
            simp only [if_neg (h5 c3)]
          rw [hg]; rfl
        · rw [if_neg c3,if_neg c3]; rfl
    rw [bS]
    unfold xJ
    by_cases c3 : t.un.1 = 3
    · have he : t.un.2.2.2 = [] := List.length_eq_zero_iff.1 (h1.2.2.2.2.1 (by omega))
      rw [if_pos c3]
      by_cases c5 : t.un.2.1 = 5
      · have hh : Kl (sw,q,p) t = decide (sw = t.un.2.2.1) := by
          rw [Oj]; unfold VJ
          rw [if_neg (by omega),if_pos c3,c5]
          exact decide_eq_decide.2 ⟨fun h => h.2,fun h => ⟨by omega,h⟩⟩
        rw [if_pos c5]
        by_cases cv : t.un.2.2.1 = sw
        · rw [if_pos cv]
          exact leaf 1 (.inl rfl) (by rw [SN,hh,decide_eq_true cv.symm])
        · rw [if_neg cv]
          exact leaf 2 (.inr rfl) (by rw [Sy,hh,decide_eq_false (fun h => cv h.symm)])
      · rw [if_neg c5]
        exact self he fun _ => c5
    rw [if_neg c3]
    by_cases c4 : t.un.1 = 4
    · obtain ⟨y,hy⟩ : ∃ y,t.un.2.2.2 = [y] := List.length_eq_one_iff.1 (h1.2.2.2.2.2.1 c4)
      have hym : y ∈ t.un.2.2.2 := by rw [hy]; exact List.mem_cons_self ..
      have gy := hx y hym
      have hh : Kl (sw,q,p) t = !Kl (-1,q,p) (ct sw y) := by
        rw [Oj,gy.same]; unfold VJ
        rw [if_neg (by omega),if_neg c3,if_pos c4,hy]; rfl
      have hfv := h1.2.2.1 c3
      rw [if_pos c4,hy]
      show Gd q p sw (if (ct sw y).un.1 = 1 then .mk 2 0 0 [] else if (ct sw y).un.1 = 2 then .mk 1 0 0 [] else .mk t.un.1 t.un.2.1 t.un.2.2.1 [ct sw y]) t
      by_cases g1 : (ct sw y).un.1 = 1
      · rw [if_pos g1]
        exact leaf 2 (.inr rfl) (by rw [hh,O1 gy.fit (.inl rfl) g1,SN,Sy]; rfl)
      rw [if_neg g1]
      by_cases g2 : (ct sw y).un.1 = 2
      · rw [if_pos g2]
        exact leaf 1 (.inl rfl) (by rw [hh,O1 gy.fit (.inr rfl) g2,SN,Sy]; rfl)
      rw [if_neg g2,c4,hfv.1,hfv.2]
      have hcy : t.cnt = 1 + y.cnt := by rw [Kg,hy]; simp
      have hdy : dp t = 1 + mx [dp y] := by rw [Sa,hy]; rfl
      have hmy := Uz (List.mem_singleton.2 rfl : dp y ∈ [dp y])
      have hmc : mx [dp (ct sw y)] ≤ dp (ct sw y) := Rj fun a ha => by rw [List.mem_singleton.1 ha]; omega
      have gd := gy.deep
      have gs := gy.size
      refine ⟨(XU ..).2 ⟨by unfold Gp; simp,fun x hm => by rw [List.mem_singleton.1 hm]; exact gy.fit⟩,by rw [vK]; show 1 + mx [dp (ct sw y)] ≤ _; omega,by rw [tV]; simp; omega,M8 (by decide) fun x hm => by rw [List.mem_singleton.1 hm]; exact gy.none, ?_⟩
      rw [hh,VM]; rfl
    rw [if_neg c4]
    have hlen : (t.un.2.2.2.map (ct sw)).length = t.un.2.2.2.length := List.length_map ..
    by_cases c5 : t.un.1 = 5
    · rw [if_pos c5]
      exact Xe (by have := h1.2.2.2.2.2.2 (by omega); omega) (.inl c5) rfl hx 1 2 (.inl ⟨c5,rfl,rfl⟩)
    rw [if_neg c5]
    by_cases c6 : t.un.1 = 6
    · rw [if_pos c6]
      exact Xe (by have := h1.2.2.2.2.2.2 (by omega); omega) (.inr c6) rfl hx 2 1 (.inr ⟨c6,rfl,rfl⟩)
    rw [if_neg c6]
    exact self (List.length_eq_zero_iff.1 (h1.2.2.2.2.1 (by have := h1.1; have := h1.2.1; omega))) fun h => absurd h c3
end Go.Proofs.YtkhiflmalgkjiaaGreat
namespace Go.Proofs.YtkhiflmalgkjiaaGreat
theorem w28 (t : Tr24) : f24 t = t := by cases t; rfl
theorem w36 (t : Tr38) : f38 t = t := by cases t; rfl
theorem w31 (t : Tr27) : Tr27.of (t.un.1,t.un.2.1,t.un.2.2.1,t.un.2.2.2.1,t.un.2.2.2.2) = t := by cases t; rfl
theorem w39 (t : Tr41) : Tr41.of (t.un.1,t.un.2.1,t.un.2.2.1,t.un.2.2.2.1,t.un.2.2.2.2) = t := by cases t; rfl
theorem oB {t x : Tr27} (h : x ∈ t.un.2.2.2.2) : SizeOf.sizeOf x < SizeOf.sizeOf t := by
  cases t with
  | mk k p f v l =>
    have h' : x ∈ l := h
    have := List.sizeOf_lt_of_mem h'
    simp only [Tr27.mk.sizeOf_spec]; omega
theorem aK {t x : Tr41} (h : x ∈ t.un.2.2.2.2) : SizeOf.sizeOf x < SizeOf.sizeOf t := by
  cases t with
  | mk k p f v l =>
    have h' : x ∈ l := h
    have := List.sizeOf_lt_of_mem h'
    simp only [Tr41.mk.sizeOf_spec]; omega
theorem d8 (t : Tr27) : t.cnt = 1 + (t.un.2.1.cnt + (t.un.2.2.2.2.map Tr27.cnt).sum) := by cases t; rw [Tr27.cnt]; rfl
theorem SX (t : Tr41) : t.cnt = 1 + (t.un.2.1.cnt + (t.un.2.2.2.2.map Tr41.cnt).sum) := by cases t; rw [Tr41.cnt]; rfl
theorem cD {t x : Tr27} (h : x ∈ t.un.2.2.2.2) : x.cnt ≤ t.cnt := by rw [d8 t]; have := LQ (g := Tr27.cnt) h; omega
theorem cP {t x : Tr41} (h : x ∈ t.un.2.2.2.2) : x.cnt ≤ t.cnt := by rw [SX t]; have := LQ (g := Tr41.cnt) h; omega
theorem qD (t : Tr27) : t.un.2.1.cnt + 1 ≤ t.cnt := by rw [d8 t]; omega
theorem qP (t : Tr41) : t.un.2.1.cnt + 1 ≤ t.cnt := by rw [SX t]; omega
theorem lD (t : Tr27) : t.un.2.2.2.2.length + 1 ≤ t.cnt := by rw [d8 t]; have := PC (g := Tr27.cnt) (fun x => by rw [d8 x]; omega) t.un.2.2.2.2; omega
theorem lP (t : Tr41) : t.un.2.2.2.2.length + 1 ≤ t.cnt := by rw [SX t]; have := PC (g := Tr41.cnt) (fun x => by rw [SX x]; omega) t.un.2.2.2.2; omega
def pm : Tr27 → Tr41
  | .mk k p f v l => .mk k (mi p) f v (l.map pm)
theorem UA (t : Tr27) : (pm t).un = (t.un.1,mi t.un.2.1,t.un.2.2.1,t.un.2.2.2.1,t.un.2.2.2.2.map pm) := by cases t; rw [pm]; rfl
theorem sN (t : Tr27) : pm t = Tr41.of (t.un.1,mi t.un.2.1,t.un.2.2.1,t.un.2.2.2.1,t.un.2.2.2.2.map pm) := by cases t; rw [pm]; rfl
def pt : Tr41 → Tr27
  | .mk k p f v l => .mk k (th p) f v (l.map pt)
theorem bZ : ∀ (n : Nat) (t : Tr27),SizeOf.sizeOf t < n → (pm t).cnt = t.cnt
  | 0,t,h => absurd h (Nat.not_lt_zero _)
  | n + 1,t,h => by
    rw [SX,d8,UA]
    show 1 + ((mi t.un.2.1).cnt + ((t.un.2.2.2.2.map pm).map Tr41.cnt).sum) = _
    rw [List.map_map,lI]
    congr 3
    exact List.map_congr_left fun x hx => bZ n x (by have := oB hx; omega)
theorem pmc (t : Tr27) : (pm t).cnt = t.cnt := bZ (SizeOf.sizeOf t + 1) t (by omega)
theorem loop_copy' {α β : Type} (l : List α) (hl : l.length ≤ 1000000000) (f : α → β) (step : Int × List β → Option ((Int × List β) ⊕ List β))
    (hs : ∀ (k : Nat) (hk : k < l.length) (out : List β),out.length = k → step ((k : Int),out) = (HT out [f l[k]]).bind fun x => some (.inl (w64 ((k : Int) + 1),x)))
    (he : ∀ out,step ((l.length : Int),out) = some (.inr out)) : Ah step (0,[]) = some (l.map f) := by
  obtain ⟨s,h1,h2⟩ := Dk l.length (fun (out : List β) (k : Nat) => ((k : Int),out)) step id (fun out k => out = (l.take k).map f)
    (fun out k hk hI => ⟨out ++ [f l[k]],by
      rw [hs k hk out (by rw [hI]; simp; omega),Gt (by rw [hI]; simp; omega),Option.bind_some,Ad (by omega)]; rfl,by
      show out ++ [f l[k]] = (l.take (k + 1)).map f
      rw [hI,List.take_succ_eq_append_getElem hk,List.map_append]; rfl⟩) (fun out _ => he out) [] (by simp)
  have h3 : Ah step (0,[]) = some (id s) := h2
  rw [h3,h1,List.take_length]; rfl
theorem YJ : ∀ (n : Nat) (t : Tr27),SizeOf.sizeOf t < n → t.cnt ≤ 1048576 → E3 n t = some (pm t)
  | 0,t,h,_ => absurd h (Nat.not_lt_zero _)
  | n + 1,t,h,hc => by
    have hl := lD t
    have hq := qD t
    show FH (E3 n) t = _
    unfold FH
    rw [w28,kY (by omega),Option.bind_some,loop_copy' t.un.2.2.2.2 (by omega) pm (Er (E3 n) t) (fun k hk out ho => by
      have hm := List.getElem_mem hk
      rw [Er,if_pos (by omega),A5 (List.getElem?_eq_getElem hk),Option.bind_some,w28,w31,YJ n _ (by have := oB hm; omega) (Nat.le_trans (cD hm) hc),Option.bind_some,w36,w39]) (fun out => by rw [Er,if_neg (by omega)]),Option.bind_some,sN]
theorem iA {t : Tr27} (hc : t.cnt ≤ 1048576) : PO t = some (pm t) := B4 (g := fun n => E3 n t) (fun n r h => N7 n t r h) (YJ (SizeOf.sizeOf t + 1) t (by omega) hc)
def sz : Tr41 → Nat
  | .mk k p _ _ l => 1 + (if k < 2 ∨ 4 < k then p.cnt else 0) + (l.map sz).sum
theorem R1 (t : Tr41) : sz t = 1 + (if t.un.1 < 2 ∨ 4 < t.un.1 then t.un.2.1.cnt else 0) + (t.un.2.2.2.2.map sz).sum := by cases t; rw [sz]; rfl
theorem sum_mono' {α : Type} {g h : α → Nat} : ∀ l : List α,(∀ x ∈ l,g x ≤ h x) → (l.map g).sum ≤ (l.map h).sum
  | [],_ => Nat.le_refl _
  | x :: l,hx => by
    have h1 := hx x (List.mem_cons_self ..)
    have h2 := sum_mono' (g := g) (h := h) l fun y hy => hx y (List.mem_cons_of_mem _ hy)
    rw [List.map_cons,List.sum_cons,List.map_cons,List.sum_cons]; omega
theorem gD : ∀ (n : Nat) (t : Tr41),SizeOf.sizeOf t < n → sz t ≤ t.cnt
  | 0,t,h => absurd h (Nat.not_lt_zero _)
  | n + 1,t,h => by
    have := sum_mono' (g := sz) (h := Tr41.cnt) t.un.2.2.2.2 fun x hx => gD n x (by have := aK hx; omega)
    rw [R1,SX]
    split <;> omega
theorem szc (t : Tr41) : sz t ≤ t.cnt := gD (SizeOf.sizeOf t + 1) t (by omega)
theorem vY (t : Tr27) : sz (pm t) = 1 + (if t.un.1 < 2 ∨ 4 < t.un.1 then t.un.2.1.cnt else 0) + (t.un.2.2.2.2.map fun x => sz (pm x)).sum := by rw [R1,UA]; show 1 + (if _ then (mi t.un.2.1).cnt else 0) + ((t.un.2.2.2.2.map pm).map sz).sum = _; rw [List.map_map,lI]; rfl
theorem UH : ∀ (n : Nat) (t : Tr27),SizeOf.sizeOf t < n → t.cnt ≤ 1048576 → E8 n t = some (sz (pm t) : Int)
  | 0,t,h,_ => absurd h (Nat.not_lt_zero _)
  | n + 1, t, h, hc => by
    have hl := lD t
    have hq := qD t
    have hs := szc (pm t)
    rw [pmc] at hs
    have hse := vY t
    show GB (E8 n) t = _
    unfold GB
    have e1 : (if (decide (t.un.1 < 2) || decide (4 < t.un.1)) = true then (KW (f24 t.un.2.1)).bind fun x2 => some (w64 (1 + x2)) else some 1) = some (1 + ((if t.un.1 < 2 ∨ 4 < t.un.1 then t.un.2.1.cnt else 0 : Nat) : Int)) := by
      rw [w28,Wt (by omega),Option.bind_some,Ad (by omega)]
      by_cases c : t.un.1 < 2 ∨ 4 < t.un.1
      · rw [if_pos (by simpa using c),if_pos c]
      · rw [if_neg (by simpa using c),if_neg c]; rfl
    rw [e1,Option.bind_some]
    obtain ⟨o,h1,h2⟩ := Dk t.un.2.2.2.2.length (fun (o : Int) (i : Nat) => (o,(i : Int))) (Ev (E8 n) t) id (fun o i => o = 1 + ((if t.un.1 < 2 ∨ 4 < t.un.1 then t.un.2.1.cnt else 0 : Nat) : Int) + (((t.un.2.2.2.2.take i).map fun x => sz (pm x)).sum : Nat))
      (fun o i hi ho => by
        have hm := List.getElem_mem hi
        have hx := UH n t.un.2.2.2.2[i] (by have := oB hm; omega) (Nat.le_trans (cD hm) hc)
        have hs2 : ((t.un.2.2.2.2.take (i + 1)).map fun x => sz (pm x)).sum = ((t.un.2.2.2.2.take i).map fun x => sz (pm x)).sum + sz (pm t.un.2.2.2.2[i]) := by
          rw [List.take_succ_eq_append_getElem hi,List.map_append,List.sum_append]; simp
        have hle := Jy (g := fun x => sz (pm x)) t.un.2.2.2.2 (i + 1)
        refine ⟨o + (sz (pm t.un.2.2.2.2[i]) : Int), ?_,by rw [ho,hs2]; omega⟩
        rw [Ev,if_pos (by omega),A5 (List.getElem?_eq_getElem hi),Option.bind_some,w28,w31,hx,Option.bind_some,Ad (by rw [ho]; omega),Ad (by omega)]; rfl)
      (fun o _ => by rw [Ev,if_neg (by omega)]; rfl) (1 + ((if t.un.1 < 2 ∨ 4 < t.un.1 then t.un.2.1.cnt else 0 : Nat) : Int)) (by simp)
    rw [List.take_length] at h1
    have h2' : Ah (Ev (E8 n) t) (1 + ((if t.un.1 < 2 ∨ 4 < t.un.1 then t.un.2.1.cnt else 0 : Nat) : Int),0) = some o := h2
    rw [h2',h1,Option.bind_some,hse]
    exact congrArg some (by omega)
theorem Tg {t : Tr27} (hc : t.cnt ≤ 1048576) : O8 t = some (sz (pm t) : Int) := B4 (g := fun n => E8 n t) (fun n r h => NM n t r h) (UH (SizeOf.sizeOf t + 1) t (by omega) hc)
def dq : Tr41 → Nat
  | .mk _ _ _ _ l => 1 + mx (l.map dq)
theorem Ui (t : Tr41) : dq t = 1 + mx (t.un.2.2.2.2.map dq) := by cases t; rw [dq]; rfl
theorem cR : ∀ (n : Nat) (t : Tr41),SizeOf.sizeOf t < n → dq t ≤ t.cnt
  | 0,t,h => absurd h (Nat.not_lt_zero _)
  | n + 1,t,h => by
    have : mx (t.un.2.2.2.2.map dq) ≤ (t.un.2.2.2.2.map Tr41.cnt).sum := Rj fun a ha => by
      obtain ⟨x,hx,rfl⟩ := List.mem_map.1 ha
      exact Nat.le_trans (cR n x (by have := aK hx; omega)) (LQ (g := Tr41.cnt) hx)
    rw [Ui,SX]; omega
theorem dqc (t : Tr41) : dq t ≤ t.cnt := cR (SizeOf.sizeOf t + 1) t (by omega)
theorem vW (t : Tr27) : dq (pm t) = 1 + mx (t.un.2.2.2.2.map fun x => dq (pm x)) := by rw [Ui,UA]; show 1 + mx ((t.un.2.2.2.2.map pm).map dq) = _; rw [List.map_map]; rfl
theorem Un : ∀ (n : Nat) (t : Tr27),SizeOf.sizeOf t < n → t.cnt ≤ 1048576 → E5 n t = some (dq (pm t) : Int)
  | 0,t,h,_ => absurd h (Nat.not_lt_zero _)
  | n + 1, t, h, hc => by
    have hl := lD t
    show Gr (E5 n) t = _
    unfold Gr
    obtain ⟨o,h1,h2⟩ := Dk t.un.2.2.2.2.length (fun (o : Int) (i : Nat) => (o,(i : Int))) (Ep (E5 n) t) id (fun o i => o = 1 + (mx ((t.un.2.2.2.2.take i).map fun x => dq (pm x)) : Nat))
      (fun o i hi ho => by
        have hm := List.getElem_mem hi
        have hx := Un n t.un.2.2.2.2[i] (by have := oB hm; omega) (Nat.le_trans (cD hm) hc)
        have hd := dqc (pm t.un.2.2.2.2[i])
        rw [pmc] at hd
        have hcl := cD hm
        refine ⟨max o (dq (pm t.un.2.2.2.2[i]) + 1 : Int), ?_,by rw [ho,List.take_succ_eq_append_getElem hi,List.map_append,List.map_cons,List.map_nil,Zq]; omega⟩
        rw [Ep,if_pos (by omega),A5 (List.getElem?_eq_getElem hi),Option.bind_some,w28,w31,hx,Option.bind_some,Option.bind_some]
        by_cases q : o ≤ (dq (pm t.un.2.2.2.2[i]) : Int)
        · rw [if_pos q,w28,w31,hx,Option.bind_some,Ad (by omega),Option.bind_some,Ad (by omega)]
          rw [show max o ((dq (pm t.un.2.2.2.2[i]) : Int) + 1) = (dq (pm t.un.2.2.2.2[i]) : Int) + 1 by omega]; rfl
        · rw [if_neg q,Option.bind_some,Ad (by omega)]
          rw [show max o ((dq (pm t.un.2.2.2.2[i]) : Int) + 1) = o by omega]; rfl)
      (fun o _ => by rw [Ep,if_neg (by omega)]; rfl) 1 (by simp [mx])
    rw [List.take_length] at h1
    have h2' : Ah (Ep (E5 n) t) (1,0) = some o := h2
    rw [h2',h1,Option.bind_some,vW]
    exact congrArg some (by omega)
theorem Yl {t : Tr27} (hc : t.cnt ≤ 1048576) : RO t = some (dq (pm t) : Int) := B4 (g := fun n => E5 n t) (fun n r h => NT n t r h) (Un (SizeOf.sizeOf t + 1) t (by omega) hc)
def wf (k n w : Int) : Int := if k = 3 then min (n * w) 1000 else if k = 4 then min (n + w) 1000 else max n w
def w0 (k : Int) : Int := if k = 3 then 1 else 0
def wd : Tr41 → Int
  | .mk k _ _ _ l => if 3 ≤ k ∧ k ≤ 5 then (l.map wd).foldl (wf k) (w0 k) else 1
theorem Sk (t : Tr41) : wd t = if 3 ≤ t.un.1 ∧ t.un.1 ≤ 5 then (t.un.2.2.2.2.map wd).foldl (wf t.un.1) (w0 t.un.1) else 1 := by cases t; rw [wd]; rfl
theorem vZ {k n w : Int} (hn : 0 ≤ n ∧ n ≤ 1000) (hw : 0 ≤ w ∧ w ≤ 1000) : 0 ≤ wf k n w ∧ wf k n w ≤ 1000 := by
  unfold wf
  have h := Int.mul_nonneg hn.1 hw.1
  by_cases c3 : k = 3
  · rw [if_pos c3]; omega
  · rw [if_neg c3]
    by_cases c4 : k = 4
    · rw [if_pos c4]; omega
    · rw [if_neg c4]; omega
theorem Pj {k : Int} : ∀ (l : List Int) (n : Int),0 ≤ n ∧ n ≤ 1000 → (∀ w ∈ l,0 ≤ w ∧ w ≤ 1000) → 0 ≤ l.foldl (wf k) n ∧ l.foldl (wf k) n ≤ 1000
  | [],n,hn,_ => hn
  | w :: l,n,hn,h => Pj l (wf k n w) (vZ hn (h w (List.mem_cons_self ..))) fun x hx => h x (List.mem_cons_of_mem _ hx)
theorem ZL (k : Int) : 0 ≤ w0 k ∧ w0 k ≤ 1000 := by unfold w0; split <;> omega
theorem mC : ∀ (n : Nat) (t : Tr41),SizeOf.sizeOf t < n → 0 ≤ wd t ∧ wd t ≤ 1000
  | 0,t,h => absurd h (Nat.not_lt_zero _)
  | n + 1,t,h => by
    rw [Sk]
    split
    · exact Pj _ _ (ZL _) fun w hw => by
        obtain ⟨x,hx,rfl⟩ := List.mem_map.1 hw
        exact mC n x (by have := aK hx; omega)
    · omega
theorem pI (t : Tr41) : 0 ≤ wd t ∧ wd t ≤ 1000 := mC (SizeOf.sizeOf t + 1) t (by omega)
theorem c9 {a b : Int} (ha : 0 ≤ a ∧ a ≤ 1000) (hb : 0 ≤ b ∧ b ≤ 1000) : 0 ≤ a * b ∧ a * b ≤ 1000000 := by
  refine ⟨Int.mul_nonneg ha.1 hb.1, ?_⟩
  have h1 : a * b ≤ 1000 * b := Int.mul_le_mul_of_nonneg_right ha.2 hb.1
  omega
theorem Np (k n : Int) (l : List Int) (w : Int) : (l ++ [w]).foldl (wf k) n = wf k (l.foldl (wf k) n) w := by rw [List.foldl_append]; rfl
theorem Yr : ∀ (n : Nat) (t : Tr41),SizeOf.sizeOf t < n → t.cnt ≤ 1048576 → B0 n t = some (wd t)
  | 0,t,h,_ => absurd h (Nat.not_lt_zero _)
  | n + 1, t, h, hc => by
    have hl := lP t
    have hx : ∀ x ∈ t.un.2.2.2.2,B0 n x = some (wd x) := fun x hm => Yr n x (by have := aK hm; omega) (Nat.le_trans (cP hm) hc)
    have bd : ∀ i, ∀ w ∈ ((t.un.2.2.2.2.take i).map wd),0 ≤ w ∧ w ≤ 1000 := fun i w hw => by
      obtain ⟨x,_,rfl⟩ := List.mem_map.1 hw
      exact pI x
    show Dp (B0 n) t = _
    rw [Sk]
    unfold Dp
    by_cases c3 : t.un.1 = 3
    · rw [if_pos c3,if_pos (by omega)]
      obtain ⟨o,h1,h2⟩ := Dk t.un.2.2.2.2.length (fun (o : Int) (i : Nat) => (o,(i : Int))) (CH (B0 n) t) id (fun o i => o = ((t.un.2.2.2.2.take i).map wd).foldl (wf t.un.1) (w0 t.un.1))
        (fun o i hi ho => by
          have hb := Pj (k := t.un.1) _ (w0 t.un.1) (ZL _) (bd i)
          rw [← ho] at hb
          have hm := c9 hb (pI t.un.2.2.2.2[i])
          refine ⟨_, ?_,rfl⟩
          rw [CH,if_pos (by omega),A5 (List.getElem?_eq_getElem hi),Option.bind_some,w36,w39,hx _ (List.getElem_mem hi),Option.bind_some,Ad (by omega),Ad (by omega),List.take_succ_eq_append_getElem hi,List.map_append,List.map_cons,List.map_nil,Np, ← ho]
          unfold wf
          rw [if_pos c3]; rfl)
        (fun o _ => by rw [CH,if_neg (by omega)]; rfl) 1 (by unfold w0; rw [if_pos c3]; rfl)
      rw [List.take_length] at h1
      have h2' : Ah (CH (B0 n) t) (1,0) = some o := h2
      rw [h2',h1]; rfl
    rw [if_neg c3]
    by_cases c4 : t.un.1 = 4
    · rw [if_pos c4,if_pos (by omega)]
      obtain ⟨o,h1,h2⟩ := Dk t.un.2.2.2.2.length (fun (o : Int) (i : Nat) => (o,(i : Int))) (CI (B0 n) t) id (fun o i => o = ((t.un.2.2.2.2.take i).map wd).foldl (wf t.un.1) (w0 t.un.1))
        (fun o i hi ho => by
          have hb := Pj (k := t.un.1) _ (w0 t.un.1) (ZL _) (bd i)
          rw [← ho] at hb
          have hm := pI t.un.2.2.2.2[i]
          refine ⟨_, ?_,rfl⟩
          rw [CI,if_pos (by omega),A5 (List.getElem?_eq_getElem hi),Option.bind_some,w36,w39,hx _ (List.getElem_mem hi),Option.bind_some,Ad (by omega),Ad (by omega),List.take_succ_eq_append_getElem hi,List.map_append,List.map_cons,List.map_nil,Np, ← ho]
          unfold wf
          rw [if_neg c3,if_pos c4]; rfl)
        (fun o _ => by rw [CI,if_neg (by omega)]; rfl) 0 (by unfold w0; rw [if_neg c3]; rfl)
      rw [List.take_length] at h1
      have h2' : Ah (CI (B0 n) t) (0,0) = some o := h2
      rw [h2',h1]; rfl
    rw [if_neg c4]
    by_cases c5 : t.un.1 = 5
    · rw [if_pos c5,if_pos (by omega)]
      obtain ⟨o,h1,h2⟩ := Dk t.un.2.2.2.2.length (fun (o : Int) (i : Nat) => (o,(i : Int))) (CO (B0 n) t) id (fun o i => o = ((t.un.2.2.2.2.take i).map wd).foldl (wf t.un.1) (w0 t.un.1))
        (fun o i hi ho => by
          refine ⟨_, ?_,rfl⟩
          rw [CO,if_pos (by omega),A5 (List.getElem?_eq_getElem hi),Option.bind_some,w36,w39,hx _ (List.getElem_mem hi),Option.bind_some,Ad (by omega),List.take_succ_eq_append_getElem hi,List.map_append,List.map_cons,List.map_nil,Np, ← ho]
          unfold wf
          rw [if_neg c3,if_neg c4]; rfl)
        (fun o _ => by rw [CO,if_neg (by omega)]; rfl) 0 (by unfold w0; rw [if_neg c3]; rfl)
      rw [List.take_length] at h1
      have h2' : Ah (CO (B0 n) t) (0,0) = some o := h2
      rw [h2',h1]; rfl
    rw [if_neg c5,if_neg (by omega)]; rfl
theorem iQ {t : Tr41} (hc : t.cnt ≤ 1048576) : Km t = some (wd t) := B4 (g := fun n => B0 n t) (fun n r h => Ix n t r h) (Yr (SizeOf.sizeOf t + 1) t (by omega) hc)
theorem tY (t : Tr27) : wd (pm t) = if 3 ≤ t.un.1 ∧ t.un.1 ≤ 5 then (t.un.2.2.2.2.map fun x => wd (pm x)).foldl (wf t.un.1) (w0 t.un.1) else 1 := by rw [Sk,UA]; show (if _ then ((t.un.2.2.2.2.map pm).map wd).foldl _ _ else _) = _; rw [List.map_map]; rfl
theorem gF (n : Int) : J6 n = min n 1000 := by unfold J6; split <;> omega
theorem Y0 : ∀ (n : Nat) (t : Tr27),SizeOf.sizeOf t < n → t.cnt ≤ 1048576 → EH n t = some (wd (pm t))
  | 0,t,h,_ => absurd h (Nat.not_lt_zero _)
  | n + 1, t, h, hc => by
    have hl := lD t
    have hx : ∀ x ∈ t.un.2.2.2.2,EH n x = some (wd (pm x)) := fun x hm => Y0 n x (by have := oB hm; omega) (Nat.le_trans (cD hm) hc)
    have bd : ∀ i, ∀ w ∈ ((t.un.2.2.2.2.take i).map fun x => wd (pm x)),0 ≤ w ∧ w ≤ 1000 := fun i w hw => by
      obtain ⟨x,_,rfl⟩ := List.mem_map.1 hw
      exact pI (pm x)
    show Gv (EH n) t = _
    rw [tY]
    unfold Gv
    by_cases c : 3 ≤ t.un.1 ∧ t.un.1 ≤ 5
    case neg => rw [if_pos (by simp only [Bool.or_eq_true,decide_eq_true_eq]; omega),if_neg c]
    case pos =>
      have e0 : (if t.un.1 = 3 then some 1 else some 0 : Option Int) = some (w0 t.un.1) := by unfold w0; split <;> rfl
      rw [if_neg (by simp only [Bool.or_eq_true,decide_eq_true_eq]; omega),if_pos c,e0,Option.bind_some]
      obtain ⟨o,h1,h2⟩ := Dk t.un.2.2.2.2.length (fun (o : Int) (i : Nat) => (o,(i : Int))) (Eu (EH n) t) id (fun o i => o = ((t.un.2.2.2.2.take i).map fun x => wd (pm x)).foldl (wf t.un.1) (w0 t.un.1))
        (fun o i hi ho => by
          have hb := Pj (k := t.un.1) _ (w0 t.un.1) (ZL _) (bd i)
          rw [← ho] at hb
          have hw := pI (pm t.un.2.2.2.2[i])
          have hm := c9 hb hw
          refine ⟨_, ?_,rfl⟩
          rw [Eu,if_pos (by omega),A5 (List.getElem?_eq_getElem hi),Option.bind_some,w28,w31,hx _ (List.getElem_mem hi),Option.bind_some,Ad (by omega),Ad (by omega),List.take_succ_eq_append_getElem hi,List.map_append,List.map_cons,List.map_nil,Np, ← ho,gF]
          unfold wf
          by_cases c3 : t.un.1 = 3
          · rw [if_pos c3,if_pos c3,Option.bind_some,if_neg (by omega),Option.bind_some,decide_eq_false (show ¬ t.un.1 = 5 by omega),if_neg (by simp)]; rfl
          rw [if_neg c3,if_neg c3,Option.bind_some,Ad (by omega)]
          by_cases c4 : t.un.1 = 4
          · rw [if_pos c4,if_pos c4,Option.bind_some,gF,decide_eq_false (show ¬ t.un.1 = 5 by omega),if_neg (by simp)]; rfl
          rw [if_neg c4,if_neg c4,Option.bind_some,decide_eq_true (show t.un.1 = 5 by omega)]
          by_cases cw : o < wd (pm t.un.2.2.2.2[i])
          · rw [decide_eq_true cw,if_pos (by rfl),show max o (wd (pm t.un.2.2.2.2[i])) = wd (pm t.un.2.2.2.2[i]) by omega]; rfl
          · rw [decide_eq_false cw,if_neg (by decide),show max o (wd (pm t.un.2.2.2.2[i])) = o by omega]; rfl)
        (fun o _ => by rw [Eu,if_neg (by omega)]; rfl) (w0 t.un.1) rfl
      rw [List.take_length] at h1
      have h2' : Ah (Eu (EH n) t) (w0 t.un.1,0) = some o := h2
      rw [h2',h1]; rfl
theorem bY {t : Tr27} (hc : t.cnt ≤ 1048576) : SG t = some (wd (pm t)) := B4 (g := fun n => EH n t) (fun n r h => N9 n t r h) (Y0 (SizeOf.sizeOf t + 1) t (by omega) hc)
end Go.Proofs.YtkhiflmalgkjiaaGreat
