/- Layer 30: what a condition is at a switch. Conditions: none. -/
import Derived.Test.YtgoifghhcekahaaGreatDooreN26
namespace Go.Proofs.YtgoifghhcekahaaGreatDoor
set_option linter.unusedVariables false
set_option linter.unusedSimpArgs false
open Go Go.RowKit
def Yu (k : Int) (L : List Tr36) (a d : Int) : Tr36 :=
  if L.any (fun x => decide (x.un.1 = d)) = true then .mk d 0 0 [] else match L.filter (fun x => decide (x.un.1 ≠ a)) with | [] => .mk a 0 0 [] | [x] => x | x :: y :: R => .mk k 0 0 (x :: y :: R)
def vZ (k f v : Int) (L : List Tr36) : Tr36 :=
  match L with | [c] => if c.un.1 = 1 then .mk 2 0 0 [] else if c.un.1 = 2 then .mk 1 0 0 [] else .mk k f v [c] | L => .mk k f v L
def pF (sw k f v : Int) (L : List Tr36) : Tr36 :=
  if k = 3 then (if f = 5 then (if v = sw then .mk 1 0 0 [] else .mk 2 0 0 []) else .mk k f v L) else if k = 4 then vZ k f v L else if k = 5 then Yu k L 1 2 else if k = 6 then Yu k L 2 1 else .mk k f v L
def ct (sw : Int) : Tr36 → Tr36
  | .mk k f v l => pF sw k f v (l.map (ct sw))
theorem Y7 (sw : Int) (t : Tr36) : ct sw t = pF sw t.un.1 t.un.2.1 t.un.2.2.1 (t.un.2.2.2.map (ct sw)) := by cases t; rw [ct]; rfl
theorem g8 (a : Int) (x : Tr36) : [x].filter (fun x => decide (x.un.1 ≠ a)) = if x.un.1 ≠ a then [x] else [] := by
  by_cases h : x.un.1 ≠ a
  · rw [if_pos h]; simp [h]
  · rw [if_neg h]; simp at h; simp [h]
theorem T7 (l : List Tr36) (hl : l.length ≤ 1048576) (a : Int) : DF l a = some (l.filter fun x => decide (x.un.1 ≠ a)) := by
  unfold DF
  obtain ⟨o,h1,h2⟩ := DW l.length (fun (o : List Tr36) (i : Nat) => (o,(i : Int))) (CW l a) id (fun o i => o = (l.take i).filter fun x => decide (x.un.1 ≠ a))
    (fun o i hi ho => by
      have hol : o.length ≤ i := by
        rw [ho]
        have := List.length_filter_le (fun x : Tr36 => decide (x.un.1 ≠ a)) (l.take i)
        rw [List.length_take] at this; omega
      refine ⟨_, ?_,rfl⟩
      rw [CW,if_pos (by omega),Bh (List.getElem?_eq_getElem hi),Option.bind_some,Ab (by omega),List.take_succ_eq_append_getElem hi,List.filter_append, ← ho]
      unfold D4
      by_cases c : l[i].un.1 ≠ a
      · rw [if_pos (by exact @decide_eq_true _ (_) c),IA (by simp; omega),g8,if_pos c]; rfl
      · rw [if_neg (by simpa using c),g8,if_neg c,List.append_nil]; rfl)
    (fun o _ => by rw [CW,if_neg (by omega)]; rfl) [] rfl
  rw [List.take_length] at h1
  have h2' : Ac (CW l a) ([],0) = some o := h2
  rw [h2',h1]; rfl
theorem Ms (k : Int) (l : List Tr36) (hl : l.length ≤ 1048576) (a d : Int) : Cn k l a d = some (Yu k l a d) := by
  obtain ⟨i,i1,i2⟩ := Ki l (fun x => decide (x.un.1 = d)) (AJ l d) (fun j hj => by
    rw [AJ,if_pos (by omega),Bh (List.getElem?_eq_getElem hj),Option.bind_some,Ab (by omega)]; rfl) (by rw [AJ,if_neg (by omega)])
  unfold Cn A6 A3 Yu
  rw [i1,Option.bind_some,Option.bind_some,i2]
  by_cases c : (l.any fun x => decide (x.un.1 = d)) = true
  · rw [if_pos c,if_pos c]
  · rw [if_neg c,if_neg c,T7 l hl,Option.bind_some]
    cases l.filter fun x => decide (x.un.1 ≠ a) with
    | nil => rfl
    | cons x R =>
      cases R with
      | nil => rfl
      | cons y R =>
        rw [if_neg (by simp only [List.length_cons]; omega),if_neg (by simp only [List.length_cons]; omega)]
theorem QB (b : Bool) : Tr36.of ((Ao b).un.1,(Ao b).un.2.1,(Ao b).un.2.2.1,(Ao b).un.2.2.2) = if b = true then .mk 1 0 0 [] else .mk 2 0 0 [] := by cases b <;> first | rfl | simp
theorem bD (sw : Int) : ∀ (n : Nat) (t : Tr36),SizeOf.sizeOf t < n → t.cnt ≤ 1048576 → Dv n t sw = some (ct sw t)
  | 0,t,h,_ => absurd h (Nat.not_lt_zero _)
  | n + 1, t, h, hc => by
    have hl := nH t
    have hx : ∀ x ∈ t.un.2.2.2,Dv n x sw = some (ct sw x) := fun x hm => bD sw n x (by have := OO hm; omega) (Nat.le_trans (j6 hm) hc)
    have hall : Do (Dv n) t.un.2.2.2 sw = some (t.un.2.2.2.map (ct sw)) := by
      unfold Do
      rw [R8 t.un.2.2.2 (by omega) (ct sw) (B8 (Dv n) t.un.2.2.2 sw) (fun k hk out ho => by
        rw [B8,if_pos (by omega),Bh (List.getElem?_eq_getElem hk),Option.bind_some,hx _ (List.getElem_mem hk)]; rfl) (fun out => by rw [B8,if_neg (by omega)])]; rfl
    show DE (Dv n) t sw = _
    unfold DE
    rw [hall,Option.bind_some,QB,QB,QB,Ms t.un.1 (t.un.2.2.2.map (ct sw)) (by rw [List.length_map]; omega) 1 2,Ms t.un.1 (t.un.2.2.2.map (ct sw)) (by rw [List.length_map]; omega) 2 1,Y7]
    unfold pF
    by_cases c3 : t.un.1 = 3
    · rw [if_pos c3,if_pos c3]
      by_cases c5 : t.un.2.1 = 5
      · rw [if_pos c5,if_pos c5]
        by_cases cv : t.un.2.2.1 = sw
        · rw [if_pos (decide_eq_true cv),if_pos cv]; rfl
        · rw [if_neg (by simpa using cv),if_neg cv]; rfl
      · rw [if_neg c5,if_neg c5]; rfl
    rw [if_neg c3,if_neg c3]
    by_cases c4 : t.un.1 = 4
    · rw [if_pos c4,if_pos c4]
      unfold vZ
      rcases t.un.2.2.2.map (ct sw) with _ | ⟨c,_ | ⟨y,R⟩⟩
      · rfl
      · rw [if_pos (by rfl),show ix [c] 0 = some c from Bh (k := 0) rfl]
        simp only [Option.bind_some]
        by_cases g1 : c.un.1 = 1
        · rw [decide_eq_true g1,if_pos rfl,if_pos g1]; rfl
        · rw [decide_eq_false g1,if_neg (by decide),if_neg g1,if_pos (by rfl)]
          simp only [Option.bind_some]
          by_cases g2 : c.un.1 = 2
          · rw [decide_eq_true g2,if_pos rfl,if_pos g2]; rfl
          · rw [decide_eq_false g2,if_neg (by decide),if_neg g2]; rfl
      · rw [if_neg (by simp only [List.length_cons]; omega),Option.bind_some,if_neg (by decide),if_neg (by simp only [List.length_cons]; omega),Option.bind_some,if_neg (by decide)]; rfl
    rw [if_neg c4,if_neg c4]
    by_cases c5 : t.un.1 = 5
    · rw [if_pos c5,if_pos c5]; rfl
    rw [if_neg c5,if_neg c5]
    by_cases c6 : t.un.1 = 6
    · rw [if_pos c6,if_pos c6]; rfl
    rw [if_neg c6,if_neg c6]; rfl
theorem fA {t : Tr36} (hc : t.cnt ≤ 1048576) (sw : Int) : J3 t sw = some (ct sw t) := C7 (g := fun n => Dv n t sw) (fun n r h => IG n t sw r h) (bD sw (SizeOf.sizeOf t + 1) t (by omega) hc)
abbrev yH := Int × Int × PK
structure Gd (q : Int) (p : PK) (sw : Int) (x t : Tr36) : Prop where
  fit : Hu x = true
  deep : dp x ≤ dp t
  size : x.cnt ≤ t.cnt
  none : E9 5 x = []
  same : HR (-1,q,p) x = HR (sw,q,p) t
theorem pB (k f v : Int) (l : List Tr36) : (Tr36.mk k f v l).cnt = 1 + (l.map Tr36.cnt).sum := Ja (.mk k f v l)
theorem qR (k f v : Int) (l : List Tr36) : dp (Tr36.mk k f v l) = 1 + mx (l.map dp) := Q3 (.mk k f v l)
theorem Wf (k f v : Int) (l : List Tr36) : Hu (Tr36.mk k f v l) = true ↔ Ge k f v l.length ∧ ∀ x ∈ l,Hu x = true := Gn (.mk k f v l)
theorem SS (a : yH) (k f v : Int) (l : List Tr36) : HR a (Tr36.mk k f v l) = Re a k f v (l.map (HR a)) := Kl a (.mk k f v l)
theorem Qg {k : Int} (h : k = 1 ∨ k = 2) : Hu (Tr36.mk k 0 0 []) = true := (Wf ..).2 ⟨by unfold Ge; rcases h with rfl | rfl <;> simp,fun x hx => absurd hx (List.not_mem_nil)⟩
theorem Km {x : Tr36} (hf : Hu x = true) {d : Int} (hd : d = 1 ∨ d = 2) (hk : x.un.1 = d) : x = .mk d 0 0 [] := by
  have h := ((Gn x).1 hf).1
  have h1 := h.2.2.1 (by omega)
  have h2 : x.un.2.2.2 = [] := List.length_eq_zero_iff.1 (h.2.2.2.2.1 (by omega))
  rw [← eC x]
  show Tr36.of (x.un.1,x.un.2.1,x.un.2.2.1,x.un.2.2.2) = _
  rw [hk,h1.1,h1.2,h2]; try rfl
theorem n9 (t : Tr36) : 1 ≤ t.cnt := by rw [Ja]; omega
theorem zH (t : Tr36) : 1 ≤ dp t := by rw [Q3]; omega
theorem QS {g : Tr36 → Nat} (q : Tr36 → Bool) : ∀ l : List Tr36,((l.filter q).map g).sum ≤ (l.map g).sum
  | [] => Nat.le_refl _
  | x :: l => by
    have := QS (g := g) q l
    by_cases c : q x = true
    · rw [List.filter_cons_of_pos c,List.map_cons,List.sum_cons,List.map_cons,List.sum_cons]; omega
    · rw [List.filter_cons_of_neg c,List.map_cons,List.sum_cons]; omega
theorem UW {g h : Tr36 → Nat} : ∀ l : List Tr36,(∀ x ∈ l,g x ≤ h x) → (l.map g).sum ≤ (l.map h).sum
  | [],_ => Nat.le_refl _
  | x :: l,hx => by
    have h1 := hx x (List.mem_cons_self ..)
    have h2 := UW (g := g) (h := h) l fun y hy => hx y (List.mem_cons_of_mem _ hy)
    rw [List.map_cons,List.sum_cons,List.map_cons,List.sum_cons]; omega
theorem KZ {k : Int} (hk : k ≠ 3) {l : List Tr36} (h : ∀ x ∈ l,E9 5 x = []) : E9 5 (Tr36.mk k 0 0 l) = [] := by
  rw [H2]
  show (if k = 3 ∧ (0 : Int) = 5 then _ else _) ++ (l.map (E9 5)).flatten = []
  rw [if_neg (fun hh => hk hh.1),List.nil_append]
  refine List.flatten_eq_nil_iff.2 fun y hy => ?_
  obtain ⟨x,hx,rfl⟩ := List.mem_map.1 hy
  exact h x hx
theorem Ym (k : Int) (L : List Tr36) (a d : Int) : (∃ x ∈ L,x.un.1 = d) ∧ Yu k L a d = .mk d 0 0 [] ∨ (∀ x ∈ L,x.un.1 ≠ d) ∧ (L.filter (fun x => decide (x.un.1 ≠ a)) = [] ∧ Yu k L a d = .mk a 0 0 [] ∨ (∃ x,L.filter (fun x => decide (x.un.1 ≠ a)) = [x] ∧ Yu k L a d = x) ∨ 2 ≤ (L.filter (fun x => decide (x.un.1 ≠ a))).length ∧ Yu k L a d = .mk k 0 0 (L.filter fun x => decide (x.un.1 ≠ a))) := by
  unfold Yu
  by_cases c : (L.any fun x => decide (x.un.1 = d)) = true
  · rw [if_pos c]
    obtain ⟨x,hx,h⟩ := List.any_eq_true.1 c
    exact .inl ⟨⟨x,hx,of_decide_eq_true h⟩,rfl⟩
  · rw [if_neg c]
    refine .inr ⟨fun x hx he => c (List.any_eq_true.2 ⟨x,hx,decide_eq_true he⟩), ?_⟩
    generalize (L.filter fun x => decide (x.un.1 ≠ a)) = R
    rcases R with _ | ⟨x,_ | ⟨y,R⟩⟩
    · exact .inl ⟨rfl,rfl⟩
    · exact .inr (.inl ⟨x,rfl,rfl⟩)
    · exact .inr (.inr ⟨by simp,rfl⟩)
theorem Ol (a : yH) : HR a (.mk 1 0 0 []) = true := by rw [SS]; rfl
theorem Oy (a : yH) : HR a (.mk 2 0 0 []) = false := by rw [SS]; rfl
theorem U6 {q : Int} {p : PK} {sw : Int} {t : Tr36} {L : List Tr36} (hlen : L.length ≤ 8) (hk : t.un.1 = 5 ∨ t.un.1 = 6) (hL : L = t.un.2.2.2.map (ct sw)) (hx : ∀ x ∈ t.un.2.2.2,Gd q p sw (ct sw x) x) (a d : Int) (had : t.un.1 = 5 ∧ a = 1 ∧ d = 2 ∨ t.un.1 = 6 ∧ a = 2 ∧ d = 1) : Gd q p sw (Yu t.un.1 L a d) t := by
  have hc1 := n9 t
  have hd1 := zH t
  have hF : ∀ x ∈ L,Hu x = true := fun x hm => by
    rw [hL] at hm
    obtain ⟨y,hy,rfl⟩ := List.mem_map.1 hm
    exact (hx y hy).fit
  have hN : ∀ x ∈ L,E9 5 x = [] := fun x hm => by
    rw [hL] at hm
    obtain ⟨y,hy,rfl⟩ := List.mem_map.1 hm
    exact (hx y hy).none
  have hD : ∀ x ∈ L,dp x + 1 ≤ dp t := fun x hm => by
    rw [hL] at hm
    obtain ⟨y,hy,rfl⟩ := List.mem_map.1 hm
    have h1 := (hx y hy).deep
    have h2 := RM (List.mem_map.2 ⟨y,hy,rfl⟩ : dp y ∈ t.un.2.2.2.map dp)
    rw [Q3 t]; omega
  have hS : (L.map Tr36.cnt).sum + 1 ≤ t.cnt := by
    rw [hL,List.map_map,Ja t]
    have := UW (g := Tr36.cnt ∘ ct sw) (h := Tr36.cnt) t.un.2.2.2 fun x hm => (hx x hm).size
    omega
  have hH : HR (sw,q,p) t = if t.un.1 = 5 then L.all (HR (-1,q,p)) else L.any (HR (-1,q,p)) := by
    have e : t.un.2.2.2.map (HR (sw,q,p)) = L.map (HR (-1,q,p)) := by
      rw [hL,List.map_map]
      exact List.map_congr_left fun x hm => (hx x hm).same.symm
    rw [Kl,e]
    unfold Re
    rcases hk with h | h
    · rw [h,if_neg (by decide),if_neg (by decide),if_neg (by decide),if_pos rfl,if_pos rfl,List.all_map]; rfl
    · rw [h,if_neg (by decide),if_neg (by decide),if_neg (by decide),if_neg (by decide),if_pos rfl,if_neg (by decide),List.any_map]; rfl
  have ha : a = 1 ∨ a = 2 := by omega
  have hd : d = 1 ∨ d = 2 := by omega
  have m0 : mx [] = 0 := rfl
  rcases Ym t.un.1 L a d with ⟨⟨x,hxm,hxd⟩,e⟩ | ⟨hno,⟨e0,e⟩ | ⟨x,e0,e⟩ | ⟨e0,e⟩⟩
  · rw [e]
    have hxe := Km (hF x hxm) hd hxd
    refine ⟨Qg hd,by rw [qR]; show 1 + mx [] ≤ _; omega,by rw [pB]; simp; omega,KZ (by omega) (fun y hy => absurd hy (List.not_mem_nil)), ?_⟩
    rw [hH]
    rcases had with ⟨h,rfl,rfl⟩ | ⟨h,rfl,rfl⟩
    · rw [if_pos h,Oy]
      exact (List.all_eq_false.2 ⟨x,hxm,by rw [hxe,Oy]; simp⟩).symm
    · rw [if_neg (by omega),Ol]
      exact (List.any_eq_true.2 ⟨x,hxm,by rw [hxe,Ol]⟩).symm
  all_goals
    have hHf : HR (sw,q,p) t = if t.un.1 = 5 then (L.filter fun x => decide (x.un.1 ≠ a)).all (HR (-1,q,p)) else (L.filter fun x => decide (x.un.1 ≠ a)).any (HR (-1,q,p)) := by
      rw [hH,List.all_filter,List.any_filter]
      rcases had with ⟨h,rfl,rfl⟩ | ⟨h,rfl,rfl⟩
      · rw [if_pos h,if_pos h]
        rw [Bool.eq_iff_iff,List.all_eq_true,List.all_eq_true]
        refine ⟨fun h x hxm => by rw [h x hxm]; simp,fun h x hxm => ?_⟩
        have h3 := h x hxm
        by_cases c : x.un.1 = 1
        · rw [Km (hF x hxm) (.inl rfl) c,Ol]
        · simpa [c] using h3
      · rw [if_neg (by omega),if_neg (by omega)]
        rw [Bool.eq_iff_iff,List.any_eq_true,List.any_eq_true]
        refine ⟨fun ⟨x,hxm,h3⟩ => ⟨x,hxm, ?_⟩,fun ⟨x,hxm,h3⟩ => ⟨x,hxm,by simp at h3; exact h3.2⟩⟩
        by_cases c : x.un.1 = 2
        · rw [Km (hF x hxm) (.inr rfl) c,Oy] at h3; cases h3
        · simp [c,h3]
  · rw [e]
    refine ⟨Qg ha,by rw [qR]; show 1 + mx [] ≤ _; omega,by rw [pB]; simp; omega,KZ (by omega) (fun y hy => absurd hy (List.not_mem_nil)), ?_⟩
    rw [hHf,e0]
    rcases had with ⟨h,rfl,rfl⟩ | ⟨h,rfl,rfl⟩
    · rw [if_pos h,Ol]; rfl
    · rw [if_neg (by omega),Oy]; rfl
  · have hxm : x ∈ L := (List.mem_filter.1 (by rw [e0]; exact List.mem_singleton.2 rfl : x ∈ L.filter fun x => decide (x.un.1 ≠ a))).1
    rw [e]
    have h2 := hD x hxm
    have h3 := Kh (g := Tr36.cnt) hxm
    refine ⟨hF x hxm,by omega,by omega,hN x hxm, ?_⟩
    rw [hHf,e0]
    split <;> simp
  · have hfl := List.length_filter_le (fun x : Tr36 => decide (x.un.1 ≠ a)) L
    have hsf := QS (g := Tr36.cnt) (fun x => decide (x.un.1 ≠ a)) L
    have hmem : ∀ x ∈ L.filter (fun x => decide (x.un.1 ≠ a)),x ∈ L := fun x hm => (List.mem_filter.1 hm).1
    rw [e]
    refine ⟨(Wf ..).2 ⟨by unfold Ge; omega,fun x hm => hF x (hmem x hm)⟩, ?_,by rw [pB]; omega,KZ (by omega) fun x hm => hN x (hmem x hm), ?_⟩
    · have : mx ((L.filter fun x => decide (x.un.1 ≠ a)).map dp) ≤ dp t - 1 := PO fun b hb => by
        obtain ⟨x,hm,rfl⟩ := List.mem_map.1 hb
        have := hD x (hmem x hm); omega
      rw [qR]; omega
    · rw [hHf,SS]
      unfold Re
      rcases hk with h | h
      · rw [h,if_neg (by decide),if_neg (by decide),if_neg (by decide),if_pos rfl,if_pos rfl,List.all_map]; rfl
      · rw [h,if_neg (by decide),if_neg (by decide),if_neg (by decide),if_neg (by decide),if_pos rfl,if_neg (by decide),List.any_map]; rfl
theorem Po (q : Int) (p : PK) (sw : Int) : ∀ (n : Nat) (t : Tr36),SizeOf.sizeOf t < n → Hu t = true → Gd q p sw (ct sw t) t
  | 0,t,h,_ => absurd h (Nat.not_lt_zero _)
  | n + 1, t, h, hf => by
    obtain ⟨h1,h2⟩ := (Gn t).1 hf
    have hc1 := n9 t
    have hd1 := zH t
    have hx : ∀ x ∈ t.un.2.2.2,Gd q p sw (ct sw x) x := fun x hm => Po q p sw n x (by have := OO hm; omega) (h2 x hm)
    have m0 : mx [] = 0 := rfl
    have leaf : ∀ k : Int,k = 1 ∨ k = 2 → HR (-1,q,p) (.mk k 0 0 []) = HR (sw,q,p) t → Gd q p sw (.mk k 0 0 []) t := fun k hk hh =>
      ⟨Qg hk,by rw [qR]; show 1 + mx [] ≤ _; omega,by rw [pB]; simp; omega,KZ (by omega) (fun y hy => absurd hy (List.not_mem_nil)),hh⟩
    have self : t.un.2.2.2 = [] → (t.un.1 = 3 → t.un.2.1 ≠ 5) → Gd q p sw (.mk t.un.1 t.un.2.1 t.un.2.2.1 (t.un.2.2.2.map (ct sw))) t := fun he h5 => by
      have e : Tr36.mk t.un.1 t.un.2.1 t.un.2.2.1 (t.un.2.2.2.map (ct sw)) = t := by
        rw [he]
        conv => rhs; rw [← eC t]
        show Tr36.mk t.un.1 t.un.2.1 t.un.2.2.1 [] = Tr36.of (t.un.1,t.un.2.1,t.un.2.2.1,t.un.2.2.2)
        rw [he]
      rw [e]
      refine ⟨hf,Nat.le_refl _,Nat.le_refl _, ?_, ?_⟩
      · rw [H2,he,if_neg (fun hh => h5 hh.1 hh.2)]; rfl
      · rw [Kl,Kl,he]
        unfold Re
        by_cases c3 : t.un.1 = 3
        · have hg : gt (-1,q,p) t.un.2.1 = gt (sw,q,p) t.un.2.1 := by
            unfold gt
            simp only [if_neg (h5 c3)]
          rw [hg]; rfl
        · rw [if_neg c3,if_neg c3]; rfl
    rw [Y7]
    unfold pF
    by_cases c3 : t.un.1 = 3
    · have he : t.un.2.2.2 = [] := List.length_eq_zero_iff.1 (h1.2.2.2.2.1 (by omega))
      rw [if_pos c3]
      by_cases c5 : t.un.2.1 = 5
      · have hh : HR (sw,q,p) t = decide (sw = t.un.2.2.1) := by
          rw [Kl]; unfold Re
          rw [if_neg (by omega),if_pos c3,c5]
          exact decide_eq_decide.2 ⟨fun h => h.2,fun h => ⟨by omega,h⟩⟩
        rw [if_pos c5]
        by_cases cv : t.un.2.2.1 = sw
        · rw [if_pos cv]
          exact leaf 1 (.inl rfl) (by rw [Ol,hh,decide_eq_true cv.symm])
        · rw [if_neg cv]
          exact leaf 2 (.inr rfl) (by rw [Oy,hh,decide_eq_false (fun h => cv h.symm)])
      · rw [if_neg c5]
        exact self he fun _ => c5
    rw [if_neg c3]
    by_cases c4 : t.un.1 = 4
    · obtain ⟨y,hy⟩ : ∃ y,t.un.2.2.2 = [y] := List.length_eq_one_iff.1 (h1.2.2.2.2.2.1 c4)
      have hym : y ∈ t.un.2.2.2 := by rw [hy]; exact List.mem_cons_self ..
      have gy := hx y hym
      have hh : HR (sw,q,p) t = !HR (-1,q,p) (ct sw y) := by
        rw [Kl,gy.same]; unfold Re
        rw [if_neg (by omega),if_neg c3,if_pos c4,hy]; rfl
      have hfv := h1.2.2.1 c3
      rw [if_pos c4,hy]
      show Gd q p sw (if (ct sw y).un.1 = 1 then .mk 2 0 0 [] else if (ct sw y).un.1 = 2 then .mk 1 0 0 [] else .mk t.un.1 t.un.2.1 t.un.2.2.1 [ct sw y]) t
      by_cases g1 : (ct sw y).un.1 = 1
      · rw [if_pos g1]
        exact leaf 2 (.inr rfl) (by rw [hh,Km gy.fit (.inl rfl) g1,Ol,Oy]; rfl)
      rw [if_neg g1]
      by_cases g2 : (ct sw y).un.1 = 2
      · rw [if_pos g2]
        exact leaf 1 (.inl rfl) (by rw [hh,Km gy.fit (.inr rfl) g2,Ol,Oy]; rfl)
      rw [if_neg g2,c4,hfv.1,hfv.2]
      have hcy : t.cnt = 1 + y.cnt := by rw [Ja,hy]; simp
      have hdy : dp t = 1 + mx [dp y] := by rw [Q3,hy]; rfl
      have hmy := RM (List.mem_singleton.2 rfl : dp y ∈ [dp y])
      have hmc : mx [dp (ct sw y)] ≤ dp (ct sw y) := PO fun a ha => by rw [List.mem_singleton.1 ha]; omega
      have gd := gy.deep
      have gs := gy.size
      refine ⟨(Wf ..).2 ⟨by unfold Ge; simp,fun x hm => by rw [List.mem_singleton.1 hm]; exact gy.fit⟩,by rw [qR]; show 1 + mx [dp (ct sw y)] ≤ _; omega,by rw [pB]; simp; omega,KZ (by decide) fun x hm => by rw [List.mem_singleton.1 hm]; exact gy.none, ?_⟩
      rw [hh,SS]; rfl
    rw [if_neg c4]
    have hlen : (t.un.2.2.2.map (ct sw)).length = t.un.2.2.2.length := List.length_map ..
    by_cases c5 : t.un.1 = 5
    · rw [if_pos c5]
      exact U6 (by have := h1.2.2.2.2.2.2 (by omega); omega) (.inl c5) rfl hx 1 2 (.inl ⟨c5,rfl,rfl⟩)
    rw [if_neg c5]
    by_cases c6 : t.un.1 = 6
    · rw [if_pos c6]
      exact U6 (by have := h1.2.2.2.2.2.2 (by omega); omega) (.inr c6) rfl hx 2 1 (.inr ⟨c6,rfl,rfl⟩)
    rw [if_neg c6]
    exact self (List.length_eq_zero_iff.1 (h1.2.2.2.2.1 (by have := h1.1; have := h1.2.1; omega))) fun h => absurd h c3
end Go.Proofs.YtgoifghhcekahaaGreatDoor
namespace Go.Proofs.YtgoifghhcekahaaGreatDoor
set_option linter.unusedVariables false
set_option linter.unusedSimpArgs false
open Go Go.RowKit
theorem Zi (t : Tr28) : f28 t = t := by cases t; rfl
theorem Lt (t : Tr36) : f36 t = t := by cases t; rfl
theorem jH (t : Tr31) : Tr31.of (t.un.1,t.un.2.1,t.un.2.2.1,t.un.2.2.2.1,t.un.2.2.2.2) = t := by cases t; rfl
theorem M4 (t : Tr39) : Tr39.of (t.un.1,t.un.2.1,t.un.2.2.1,t.un.2.2.2.1,t.un.2.2.2.2) = t := by cases t; rfl
theorem nI {t x : Tr31} (h : x ∈ t.un.2.2.2.2) : SizeOf.sizeOf x < SizeOf.sizeOf t := by
  cases t with
  | mk k p f v l =>
    have h' : x ∈ l := h
    have := List.sizeOf_lt_of_mem h'
    simp only [Tr31.mk.sizeOf_spec]; omega
theorem Vy {t x : Tr39} (h : x ∈ t.un.2.2.2.2) : SizeOf.sizeOf x < SizeOf.sizeOf t := by
  cases t with
  | mk k p f v l =>
    have h' : x ∈ l := h
    have := List.sizeOf_lt_of_mem h'
    simp only [Tr39.mk.sizeOf_spec]; omega
theorem bB (t : Tr31) : t.cnt = 1 + (t.un.2.1.cnt + (t.un.2.2.2.2.map Tr31.cnt).sum) := by cases t; rw [Tr31.cnt]; rfl
theorem Qj (t : Tr39) : t.cnt = 1 + (t.un.2.1.cnt + (t.un.2.2.2.2.map Tr39.cnt).sum) := by cases t; rw [Tr39.cnt]; rfl
theorem cD {t x : Tr31} (h : x ∈ t.un.2.2.2.2) : x.cnt ≤ t.cnt := by rw [bB t]; have := Kh (g := Tr31.cnt) h; omega
theorem cP {t x : Tr39} (h : x ∈ t.un.2.2.2.2) : x.cnt ≤ t.cnt := by rw [Qj t]; have := Kh (g := Tr39.cnt) h; omega
theorem qD (t : Tr31) : t.un.2.1.cnt + 1 ≤ t.cnt := by rw [bB t]; omega
theorem qP (t : Tr39) : t.un.2.1.cnt + 1 ≤ t.cnt := by rw [Qj t]; omega
theorem lD (t : Tr31) : t.un.2.2.2.2.length + 1 ≤ t.cnt := by rw [bB t]; have := Nn (g := Tr31.cnt) (fun x => by rw [bB x]; omega) t.un.2.2.2.2; omega
theorem lP (t : Tr39) : t.un.2.2.2.2.length + 1 ≤ t.cnt := by rw [Qj t]; have := Nn (g := Tr39.cnt) (fun x => by rw [Qj x]; omega) t.un.2.2.2.2; omega
def pm : Tr31 → Tr39
  | .mk k p f v l => .mk k (mi p) f v (l.map pm)
theorem Vo (t : Tr31) : (pm t).un = (t.un.1,mi t.un.2.1,t.un.2.2.1,t.un.2.2.2.1,t.un.2.2.2.2.map pm) := by cases t; rw [pm]; rfl
theorem pC (t : Tr31) : pm t = Tr39.of (t.un.1,mi t.un.2.1,t.un.2.2.1,t.un.2.2.2.1,t.un.2.2.2.2.map pm) := by cases t; rw [pm]; rfl
def pt : Tr39 → Tr31
  | .mk k p f v l => .mk k (th p) f v (l.map pt)
theorem YN : ∀ (n : Nat) (t : Tr31),SizeOf.sizeOf t < n → (pm t).cnt = t.cnt
  | 0,t,h => absurd h (Nat.not_lt_zero _)
  | n + 1,t,h => by
    rw [Qj,bB,Vo]
    show 1 + ((mi t.un.2.1).cnt + ((t.un.2.2.2.2.map pm).map Tr39.cnt).sum) = _
    rw [List.map_map,dV]
    congr 3
    exact List.map_congr_left fun x hx => YN n x (by have := nI hx; omega)
theorem s8 (t : Tr31) : (pm t).cnt = t.cnt := YN (SizeOf.sizeOf t + 1) t (by omega)
theorem loop_copy' {α β : Type} (l : List α) (hl : l.length ≤ 1000000000) (f : α → β) (step : Int × List β → Option ((Int × List β) ⊕ List β))
    (hs : ∀ (k : Nat) (hk : k < l.length) (out : List β),out.length = k → step ((k : Int),out) = (Fy out [f l[k]]).bind fun x => some (.inl (Ae ((k : Int) + 1),x)))
    (he : ∀ out,step ((l.length : Int),out) = some (.inr out)) : Ac step (0,[]) = some (l.map f) := by
  obtain ⟨s,h1,h2⟩ := DW l.length (fun (out : List β) (k : Nat) => ((k : Int),out)) step id (fun out k => out = (l.take k).map f)
    (fun out k hk hI => ⟨out ++ [f l[k]],by
      rw [hs k hk out (by rw [hI]; simp; omega),IA (by rw [hI]; simp; omega),Option.bind_some,Ab (by omega)]; rfl,by
      show out ++ [f l[k]] = (l.take (k + 1)).map f
      rw [hI,List.take_succ_eq_append_getElem hk,List.map_append]; rfl⟩) (fun out _ => he out) [] (by simp)
  have h3 : Ac step (0,[]) = some (id s) := h2
  rw [h3,h1,List.take_length]; rfl
theorem Wo : ∀ (n : Nat) (t : Tr31),SizeOf.sizeOf t < n → t.cnt ≤ 1048576 → Fd n t = some (pm t)
  | 0,t,h,_ => absurd h (Nat.not_lt_zero _)
  | n + 1,t,h,hc => by
    have hl := lD t
    have hq := qD t
    show FH (Fd n) t = _
    unfold FH
    rw [Zi,gO (by omega),Option.bind_some,loop_copy' t.un.2.2.2.2 (by omega) pm (Ev (Fd n) t) (fun k hk out ho => by
      have hm := List.getElem_mem hk
      rw [Ev,if_pos (by omega),Bh (List.getElem?_eq_getElem hk),Option.bind_some,Zi,jH,Wo n _ (by have := nI hm; omega) (Nat.le_trans (cD hm) hc),Option.bind_some,Lt,M4]) (fun out => by rw [Ev,if_neg (by omega)]),Option.bind_some,pC]
theorem cO {t : Tr31} (hc : t.cnt ≤ 1048576) : Nt t = some (pm t) := C7 (g := fun n => Fd n t) (fun n r h => Mg n t r h) (Wo (SizeOf.sizeOf t + 1) t (by omega) hc)
def sz : Tr39 → Nat
  | .mk k p _ _ l => 1 + (if k < 2 ∨ 4 < k then p.cnt else 0) + (l.map sz).sum
theorem Ox (t : Tr39) : sz t = 1 + (if t.un.1 < 2 ∨ 4 < t.un.1 then t.un.2.1.cnt else 0) + (t.un.2.2.2.2.map sz).sum := by cases t; rw [sz]; rfl
theorem sum_mono' {α : Type} {g h : α → Nat} : ∀ l : List α,(∀ x ∈ l,g x ≤ h x) → (l.map g).sum ≤ (l.map h).sum
  | [],_ => Nat.le_refl _
  | x :: l,hx => by
    have h1 := hx x (List.mem_cons_self ..)
    have h2 := sum_mono' (g := g) (h := h) l fun y hy => hx y (List.mem_cons_of_mem _ hy)
    rw [List.map_cons,List.sum_cons,List.map_cons,List.sum_cons]; omega
theorem Y2 : ∀ (n : Nat) (t : Tr39),SizeOf.sizeOf t < n → sz t ≤ t.cnt
  | 0,t,h => absurd h (Nat.not_lt_zero _)
  | n + 1,t,h => by
    have := sum_mono' (g := sz) (h := Tr39.cnt) t.un.2.2.2.2 fun x hx => Y2 n x (by have := Vy hx; omega)
    rw [Ox,Qj]
    split <;> omega
theorem szc (t : Tr39) : sz t ≤ t.cnt := Y2 (SizeOf.sizeOf t + 1) t (by omega)
theorem sD (t : Tr31) : sz (pm t) = 1 + (if t.un.1 < 2 ∨ 4 < t.un.1 then t.un.2.1.cnt else 0) + (t.un.2.2.2.2.map fun x => sz (pm x)).sum := by rw [Ox,Vo]; show 1 + (if _ then (mi t.un.2.1).cnt else 0) + ((t.un.2.2.2.2.map pm).map sz).sum = _; rw [List.map_map,dV]; rfl
theorem R9 : ∀ (n : Nat) (t : Tr31),SizeOf.sizeOf t < n → t.cnt ≤ 1048576 → E8 n t = some (sz (pm t) : Int)
  | 0,t,h,_ => absurd h (Nat.not_lt_zero _)
  | n + 1, t, h, hc => by
    have hl := lD t
    have hq := qD t
    have hs := szc (pm t)
    rw [s8] at hs
    have hse := sD t
    show Gq (E8 n) t = _
    unfold Gq
    have e1 : (if (decide (t.un.1 < 2) || decide (4 < t.un.1)) = true then (JU (f28 t.un.2.1)).bind fun x2 => some (Ae (1 + x2)) else some 1) = some (1 + ((if t.un.1 < 2 ∨ 4 < t.un.1 then t.un.2.1.cnt else 0 : Nat) : Int)) := by
      rw [Zi,UD (by omega),Option.bind_some,Ab (by omega)]
      by_cases c : t.un.1 < 2 ∨ 4 < t.un.1
      · rw [if_pos (by simpa using c),if_pos c]
      · rw [if_neg (by simpa using c),if_neg c]; rfl
    rw [e1,Option.bind_some]
    obtain ⟨o,h1,h2⟩ := DW t.un.2.2.2.2.length (fun (o : Int) (i : Nat) => (o,(i : Int))) (Eu (E8 n) t) id (fun o i => o = 1 + ((if t.un.1 < 2 ∨ 4 < t.un.1 then t.un.2.1.cnt else 0 : Nat) : Int) + (((t.un.2.2.2.2.take i).map fun x => sz (pm x)).sum : Nat))
      (fun o i hi ho => by
        have hm := List.getElem_mem hi
        have hx := R9 n t.un.2.2.2.2[i] (by have := nI hm; omega) (Nat.le_trans (cD hm) hc)
        have hs2 : ((t.un.2.2.2.2.take (i + 1)).map fun x => sz (pm x)).sum = ((t.un.2.2.2.2.take i).map fun x => sz (pm x)).sum + sz (pm t.un.2.2.2.2[i]) := by
          rw [List.take_succ_eq_append_getElem hi,List.map_append,List.sum_append]; simp
        have hle := Iw (g := fun x => sz (pm x)) t.un.2.2.2.2 (i + 1)
        refine ⟨o + (sz (pm t.un.2.2.2.2[i]) : Int), ?_,by rw [ho,hs2]; omega⟩
        rw [Eu,if_pos (by omega),Bh (List.getElem?_eq_getElem hi),Option.bind_some,Zi,jH,hx,Option.bind_some,Ab (by rw [ho]; omega),Ab (by omega)]; rfl)
      (fun o _ => by rw [Eu,if_neg (by omega)]; rfl) (1 + ((if t.un.1 < 2 ∨ 4 < t.un.1 then t.un.2.1.cnt else 0 : Nat) : Int)) (by simp)
    rw [List.take_length] at h1
    have h2' : Ac (Eu (E8 n) t) (1 + ((if t.un.1 < 2 ∨ 4 < t.un.1 then t.un.2.1.cnt else 0 : Nat) : Int),0) = some o := h2
    rw [h2',h1,Option.bind_some,hse]
    exact congrArg some (by omega)
theorem Wb {t : Tr31} (hc : t.cnt ≤ 1048576) : Qi t = some (sz (pm t) : Int) := C7 (g := fun n => E8 n t) (fun n r h => Mj n t r h) (R9 (SizeOf.sizeOf t + 1) t (by omega) hc)
def dq : Tr39 → Nat
  | .mk _ _ _ _ l => 1 + mx (l.map dq)
theorem RV (t : Tr39) : dq t = 1 + mx (t.un.2.2.2.2.map dq) := by cases t; rw [dq]; rfl
theorem ZM : ∀ (n : Nat) (t : Tr39),SizeOf.sizeOf t < n → dq t ≤ t.cnt
  | 0,t,h => absurd h (Nat.not_lt_zero _)
  | n + 1,t,h => by
    have : mx (t.un.2.2.2.2.map dq) ≤ (t.un.2.2.2.2.map Tr39.cnt).sum := PO fun a ha => by
      obtain ⟨x,hx,rfl⟩ := List.mem_map.1 ha
      exact Nat.le_trans (ZM n x (by have := Vy hx; omega)) (Kh (g := Tr39.cnt) hx)
    rw [RV,Qj]; omega
theorem dqc (t : Tr39) : dq t ≤ t.cnt := ZM (SizeOf.sizeOf t + 1) t (by omega)
theorem oU (t : Tr31) : dq (pm t) = 1 + mx (t.un.2.2.2.2.map fun x => dq (pm x)) := by rw [RV,Vo]; show 1 + mx ((t.un.2.2.2.2.map pm).map dq) = _; rw [List.map_map]; rfl
theorem RP : ∀ (n : Nat) (t : Tr31),SizeOf.sizeOf t < n → t.cnt ≤ 1048576 → E5 n t = some (dq (pm t) : Int)
  | 0,t,h,_ => absurd h (Nat.not_lt_zero _)
  | n + 1, t, h, hc => by
    have hl := lD t
    show Gu (E5 n) t = _
    unfold Gu
    obtain ⟨o,h1,h2⟩ := DW t.un.2.2.2.2.length (fun (o : Int) (i : Nat) => (o,(i : Int))) (Ez (E5 n) t) id (fun o i => o = 1 + (mx ((t.un.2.2.2.2.take i).map fun x => dq (pm x)) : Nat))
      (fun o i hi ho => by
        have hm := List.getElem_mem hi
        have hx := RP n t.un.2.2.2.2[i] (by have := nI hm; omega) (Nat.le_trans (cD hm) hc)
        have hd := dqc (pm t.un.2.2.2.2[i])
        rw [s8] at hd
        have hcl := cD hm
        refine ⟨max o (dq (pm t.un.2.2.2.2[i]) + 1 : Int), ?_,by rw [ho,List.take_succ_eq_append_getElem hi,List.map_append,List.map_cons,List.map_nil,Xy]; omega⟩
        rw [Ez,if_pos (by omega),Bh (List.getElem?_eq_getElem hi),Option.bind_some,Zi,jH,hx,Option.bind_some,Option.bind_some]
        by_cases q : o ≤ (dq (pm t.un.2.2.2.2[i]) : Int)
        · rw [if_pos q,Zi,jH,hx,Option.bind_some,Ab (by omega),Option.bind_some,Ab (by omega)]
          rw [show max o ((dq (pm t.un.2.2.2.2[i]) : Int) + 1) = (dq (pm t.un.2.2.2.2[i]) : Int) + 1 by omega]; rfl
        · rw [if_neg q,Option.bind_some,Ab (by omega)]
          rw [show max o ((dq (pm t.un.2.2.2.2[i]) : Int) + 1) = o by omega]; rfl)
      (fun o _ => by rw [Ez,if_neg (by omega)]; rfl) 1 (by simp [mx])
    rw [List.take_length] at h1
    have h2' : Ac (Ez (E5 n) t) (1,0) = some o := h2
    rw [h2',h1,Option.bind_some,oU]
    exact congrArg some (by omega)
theorem VD {t : Tr31} (hc : t.cnt ≤ 1048576) : Q2 t = some (dq (pm t) : Int) := C7 (g := fun n => E5 n t) (fun n r h => Mm n t r h) (RP (SizeOf.sizeOf t + 1) t (by omega) hc)
def wf (k n w : Int) : Int := if k = 3 then min (n * w) 1000 else if k = 4 then min (n + w) 1000 else max n w
def w0 (k : Int) : Int := if k = 3 then 1 else 0
def wd : Tr39 → Int
  | .mk k _ _ _ l => if 3 ≤ k ∧ k ≤ 5 then (l.map wd).foldl (wf k) (w0 k) else 1
theorem OD (t : Tr39) : wd t = if 3 ≤ t.un.1 ∧ t.un.1 ≤ 5 then (t.un.2.2.2.2.map wd).foldl (wf t.un.1) (w0 t.un.1) else 1 := by cases t; rw [wd]; rfl
theorem rT {k n w : Int} (hn : 0 ≤ n ∧ n ≤ 1000) (hw : 0 ≤ w ∧ w ≤ 1000) : 0 ≤ wf k n w ∧ wf k n w ≤ 1000 := by
  unfold wf
  have h := Int.mul_nonneg hn.1 hw.1
  by_cases c3 : k = 3
  · rw [if_pos c3]; omega
  · rw [if_neg c3]
    by_cases c4 : k = 4
    · rw [if_pos c4]; omega
    · rw [if_neg c4]; omega
theorem Np {k : Int} : ∀ (l : List Int) (n : Int),0 ≤ n ∧ n ≤ 1000 → (∀ w ∈ l,0 ≤ w ∧ w ≤ 1000) → 0 ≤ l.foldl (wf k) n ∧ l.foldl (wf k) n ≤ 1000
  | [],n,hn,_ => hn
  | w :: l,n,hn,h => Np l (wf k n w) (rT hn (h w (List.mem_cons_self ..))) fun x hx => h x (List.mem_cons_of_mem _ hx)
theorem WZ (k : Int) : 0 ≤ w0 k ∧ w0 k ≤ 1000 := by unfold w0; split <;> omega
theorem iX : ∀ (n : Nat) (t : Tr39),SizeOf.sizeOf t < n → 0 ≤ wd t ∧ wd t ≤ 1000
  | 0,t,h => absurd h (Nat.not_lt_zero _)
  | n + 1,t,h => by
    rw [OD]
    split
    · exact Np _ _ (WZ _) fun w hw => by
        obtain ⟨x,hx,rfl⟩ := List.mem_map.1 hw
        exact iX n x (by have := Vy hx; omega)
    · omega
theorem m9 (t : Tr39) : 0 ≤ wd t ∧ wd t ≤ 1000 := iX (SizeOf.sizeOf t + 1) t (by omega)
theorem bC {a b : Int} (ha : 0 ≤ a ∧ a ≤ 1000) (hb : 0 ≤ b ∧ b ≤ 1000) : 0 ≤ a * b ∧ a * b ≤ 1000000 := by
  refine ⟨Int.mul_nonneg ha.1 hb.1, ?_⟩
  have h1 : a * b ≤ 1000 * b := Int.mul_le_mul_of_nonneg_right ha.2 hb.1
  omega
theorem LN (k n : Int) (l : List Int) (w : Int) : (l ++ [w]).foldl (wf k) n = wf k (l.foldl (wf k) n) w := by rw [List.foldl_append]; rfl
theorem WQ : ∀ (n : Nat) (t : Tr39),SizeOf.sizeOf t < n → t.cnt ≤ 1048576 → Ce n t = some (wd t)
  | 0,t,h,_ => absurd h (Nat.not_lt_zero _)
  | n + 1, t, h, hc => by
    have hl := lP t
    have hx : ∀ x ∈ t.un.2.2.2.2,Ce n x = some (wd x) := fun x hm => WQ n x (by have := Vy hm; omega) (Nat.le_trans (cP hm) hc)
    have bd : ∀ i, ∀ w ∈ ((t.un.2.2.2.2.take i).map wd),0 ≤ w ∧ w ≤ 1000 := fun i w hw => by
      obtain ⟨x,_,rfl⟩ := List.mem_map.1 hw
      exact m9 x
    show EJ (Ce n) t = _
    rw [OD]
    unfold EJ
    by_cases c3 : t.un.1 = 3
    · rw [if_pos c3,if_pos (by omega)]
      obtain ⟨o,h1,h2⟩ := DW t.un.2.2.2.2.length (fun (o : Int) (i : Nat) => (o,(i : Int))) (Dj (Ce n) t) id (fun o i => o = ((t.un.2.2.2.2.take i).map wd).foldl (wf t.un.1) (w0 t.un.1))
        (fun o i hi ho => by
          have hb := Np (k := t.un.1) _ (w0 t.un.1) (WZ _) (bd i)
          rw [← ho] at hb
          have hm := bC hb (m9 t.un.2.2.2.2[i])
          refine ⟨_, ?_,rfl⟩
          rw [Dj,if_pos (by omega),Bh (List.getElem?_eq_getElem hi),Option.bind_some,Lt,M4,hx _ (List.getElem_mem hi),Option.bind_some,Ab (by omega),Ab (by omega),List.take_succ_eq_append_getElem hi,List.map_append,List.map_cons,List.map_nil,LN, ← ho]
          unfold wf
          rw [if_pos c3]; rfl)
        (fun o _ => by rw [Dj,if_neg (by omega)]; rfl) 1 (by unfold w0; rw [if_pos c3]; rfl)
      rw [List.take_length] at h1
      have h2' : Ac (Dj (Ce n) t) (1,0) = some o := h2
      rw [h2',h1]; rfl
    rw [if_neg c3]
    by_cases c4 : t.un.1 = 4
    · rw [if_pos c4,if_pos (by omega)]
      obtain ⟨o,h1,h2⟩ := DW t.un.2.2.2.2.length (fun (o : Int) (i : Nat) => (o,(i : Int))) (Dh (Ce n) t) id (fun o i => o = ((t.un.2.2.2.2.take i).map wd).foldl (wf t.un.1) (w0 t.un.1))
        (fun o i hi ho => by
          have hb := Np (k := t.un.1) _ (w0 t.un.1) (WZ _) (bd i)
          rw [← ho] at hb
          have hm := m9 t.un.2.2.2.2[i]
          refine ⟨_, ?_,rfl⟩
          rw [Dh,if_pos (by omega),Bh (List.getElem?_eq_getElem hi),Option.bind_some,Lt,M4,hx _ (List.getElem_mem hi),Option.bind_some,Ab (by omega),Ab (by omega),List.take_succ_eq_append_getElem hi,List.map_append,List.map_cons,List.map_nil,LN, ← ho]
          unfold wf
          rw [if_neg c3,if_pos c4]; rfl)
        (fun o _ => by rw [Dh,if_neg (by omega)]; rfl) 0 (by unfold w0; rw [if_neg c3]; rfl)
      rw [List.take_length] at h1
      have h2' : Ac (Dh (Ce n) t) (0,0) = some o := h2
      rw [h2',h1]; rfl
    rw [if_neg c4]
    by_cases c5 : t.un.1 = 5
    · rw [if_pos c5,if_pos (by omega)]
      obtain ⟨o,h1,h2⟩ := DW t.un.2.2.2.2.length (fun (o : Int) (i : Nat) => (o,(i : Int))) (Dk (Ce n) t) id (fun o i => o = ((t.un.2.2.2.2.take i).map wd).foldl (wf t.un.1) (w0 t.un.1))
        (fun o i hi ho => by
          refine ⟨_, ?_,rfl⟩
          rw [Dk,if_pos (by omega),Bh (List.getElem?_eq_getElem hi),Option.bind_some,Lt,M4,hx _ (List.getElem_mem hi),Option.bind_some,Ab (by omega),List.take_succ_eq_append_getElem hi,List.map_append,List.map_cons,List.map_nil,LN, ← ho]
          unfold wf
          rw [if_neg c3,if_neg c4]; rfl)
        (fun o _ => by rw [Dk,if_neg (by omega)]; rfl) 0 (by unfold w0; rw [if_neg c3]; rfl)
      rw [List.take_length] at h1
      have h2' : Ac (Dk (Ce n) t) (0,0) = some o := h2
      rw [h2',h1]; rfl
    rw [if_neg c5,if_neg (by omega)]; rfl
theorem YM {t : Tr39} (hc : t.cnt ≤ 1048576) : KK t = some (wd t) := C7 (g := fun n => Ce n t) (fun n r h => JG n t r h) (WQ (SizeOf.sizeOf t + 1) t (by omega) hc)
theorem qA (t : Tr31) : wd (pm t) = if 3 ≤ t.un.1 ∧ t.un.1 ≤ 5 then (t.un.2.2.2.2.map fun x => wd (pm x)).foldl (wf t.un.1) (w0 t.un.1) else 1 := by rw [OD,Vo]; show (if _ then ((t.un.2.2.2.2.map pm).map wd).foldl _ _ else _) = _; rw [List.map_map]; rfl
theorem Zm (n : Int) : I8 n = min n 1000 := by unfold I8; split <;> omega
theorem Wt : ∀ (n : Nat) (t : Tr31),SizeOf.sizeOf t < n → t.cnt ≤ 1048576 → EG n t = some (wd (pm t))
  | 0,t,h,_ => absurd h (Nat.not_lt_zero _)
  | n + 1, t, h, hc => by
    have hl := lD t
    have hx : ∀ x ∈ t.un.2.2.2.2,EG n x = some (wd (pm x)) := fun x hm => Wt n x (by have := nI hm; omega) (Nat.le_trans (cD hm) hc)
    have bd : ∀ i, ∀ w ∈ ((t.un.2.2.2.2.take i).map fun x => wd (pm x)),0 ≤ w ∧ w ≤ 1000 := fun i w hw => by
      obtain ⟨x,_,rfl⟩ := List.mem_map.1 hw
      exact m9 (pm x)
    show Gg (EG n) t = _
    rw [qA]
    unfold Gg
    by_cases c : 3 ≤ t.un.1 ∧ t.un.1 ≤ 5
    case neg => rw [if_pos (by simp only [Bool.or_eq_true,decide_eq_true_eq]; omega),if_neg c]
    case pos =>
      have e0 : (if t.un.1 = 3 then some 1 else some 0 : Option Int) = some (w0 t.un.1) := by unfold w0; split <;> rfl
      rw [if_neg (by simp only [Bool.or_eq_true,decide_eq_true_eq]; omega),if_pos c,e0,Option.bind_some]
      obtain ⟨o,h1,h2⟩ := DW t.un.2.2.2.2.length (fun (o : Int) (i : Nat) => (o,(i : Int))) (Es (EG n) t) id (fun o i => o = ((t.un.2.2.2.2.take i).map fun x => wd (pm x)).foldl (wf t.un.1) (w0 t.un.1))
        (fun o i hi ho => by
          have hb := Np (k := t.un.1) _ (w0 t.un.1) (WZ _) (bd i)
          rw [← ho] at hb
          have hw := m9 (pm t.un.2.2.2.2[i])
          have hm := bC hb hw
          refine ⟨_, ?_,rfl⟩
          rw [Es,if_pos (by omega),Bh (List.getElem?_eq_getElem hi),Option.bind_some,Zi,jH,hx _ (List.getElem_mem hi),Option.bind_some,Ab (by omega),Ab (by omega),List.take_succ_eq_append_getElem hi,List.map_append,List.map_cons,List.map_nil,LN, ← ho,Zm]
          unfold wf
          by_cases c3 : t.un.1 = 3
          · rw [if_pos c3,if_pos c3,Option.bind_some,if_neg (by omega),Option.bind_some,decide_eq_false (show ¬ t.un.1 = 5 by omega),if_neg (by simp)]; rfl
          rw [if_neg c3,if_neg c3,Option.bind_some,Ab (by omega)]
          by_cases c4 : t.un.1 = 4
          · rw [if_pos c4,if_pos c4,Option.bind_some,Zm,decide_eq_false (show ¬ t.un.1 = 5 by omega),if_neg (by simp)]; rfl
          rw [if_neg c4,if_neg c4,Option.bind_some,decide_eq_true (show t.un.1 = 5 by omega)]
          by_cases cw : o < wd (pm t.un.2.2.2.2[i])
          · rw [decide_eq_true cw,if_pos (by rfl),show max o (wd (pm t.un.2.2.2.2[i])) = wd (pm t.un.2.2.2.2[i]) by omega]; rfl
          · rw [decide_eq_false cw,if_neg (by decide),show max o (wd (pm t.un.2.2.2.2[i])) = o by omega]; rfl)
        (fun o _ => by rw [Es,if_neg (by omega)]; rfl) (w0 t.un.1) rfl
      rw [List.take_length] at h1
      have h2' : Ac (Es (EG n) t) (w0 t.un.1,0) = some o := h2
      rw [h2',h1]; rfl
theorem Zd {t : Tr31} (hc : t.cnt ≤ 1048576) : P7 t = some (wd (pm t)) := C7 (g := fun n => EG n t) (fun n r h => Me n t r h) (Wt (SizeOf.sizeOf t + 1) t (by omega) hc)
end Go.Proofs.YtgoifghhcekahaaGreatDoor
