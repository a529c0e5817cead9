/- Layer 31: what a condition is at a switch. Conditions: none. -/
import Derived.Test.YtkhiflmalgkjiaaGreatfN26
set_option linter.unusedVariables false
set_option linter.unusedSimpArgs false
open Go Go.RowKit
namespace Go.Proofs.YtkhiflmalgkjiaaGreat
def bY (k : Int) (L : List Tr38) (a d : Int) : Tr38 :=
  if L.any (fun x => decide (x.un.1 = d)) = true then .mk d 0 0 [] else match L.filter (fun x => decide (x.un.1 ≠ a)) with | [] => .mk a 0 0 [] | [x] => x | x :: y :: R => .mk k 0 0 (x :: y :: R)
def ctN (k f v : Int) (L : List Tr38) : Tr38 :=
  match L with | [c] => if c.un.1 = 1 then .mk 2 0 0 [] else if c.un.1 = 2 then .mk 1 0 0 [] else .mk k f v [c] | L => .mk k f v L
def tT (sw k f v : Int) (L : List Tr38) : Tr38 :=
  if k = 3 then (if f = 5 then (if v = sw then .mk 1 0 0 [] else .mk 2 0 0 []) else .mk k f v L) else if k = 4 then ctN k f v L else if k = 5 then bY k L 1 2 else if k = 6 then bY k L 2 1 else .mk k f v L
def ct (sw : Int) : Tr38 → Tr38
  | .mk k f v l => tT sw k f v (l.map (ct sw))
theorem cO (sw : Int) (t : Tr38) : ct sw t = tT sw t.un.1 t.un.2.1 t.un.2.2.1 (t.un.2.2.2.map (ct sw)) := by cases t; rw [ct]; rfl
theorem nW (a : Int) (x : Tr38) : [x].filter (fun x => decide (x.un.1 ≠ a)) = if x.un.1 ≠ a then [x] else [] := by
  by_cases h : x.un.1 ≠ a
  · rw [if_pos h]; simp [h]
  · rw [if_neg h]; simp at h; simp [h]
theorem Xp (l : List Tr38) (hl : l.length ≤ 1048576) (a : Int) : Dt l a = some (l.filter fun x => decide (x.un.1 ≠ a)) := by
  unfold Dt
  obtain ⟨o,h1,h2⟩ := DU l.length (fun (o : List Tr38) (i : Nat) => (o,(i : Int))) (C2 l a) id (fun o i => o = (l.take i).filter fun x => decide (x.un.1 ≠ a))
    (fun o i hi ho => by
      have hol : o.length ≤ i := by
        rw [ho]
        have := List.length_filter_le (fun x : Tr38 => decide (x.un.1 ≠ a)) (l.take i)
        rw [List.length_take] at this; omega
      refine ⟨_, ?_,rfl⟩
      rw [C2,if_pos (by omega),A9 (zb hi),za,Ah (by omega),List.take_succ_eq_append_getElem hi,List.filter_append, ← ho]
      unfold DZ
      by_cases c : l[i].un.1 ≠ a
      · rw [if_pos (by exact @decide_eq_true _ (_) c),I5 (by simp; omega),nW,if_pos c]; rfl
      · rw [if_neg (by simpa using c),nW,if_neg c,List.append_nil]; rfl)
    (fun o _ => by rw [C2,if_neg (by omega)]; rfl) [] rfl
  rw [List.take_length] at h1
  have h2' : Aj (C2 l a) ([],0) = some o := h2
  rw [h2',h1]; rfl
theorem NQ (k : Int) (l : List Tr38) (hl : l.length ≤ 1048576) (a d : Int) : Co k l a d = some (bY k l a d) := by
  obtain ⟨i,i1,i2⟩ := VE l (fun x => decide (x.un.1 = d)) (AR l d) (fun j hj => by
    rw [AR,if_pos (by omega),A9 (zb hj),za,Ah (by omega)]; rfl) (by rw [AR,if_neg (by omega)])
  unfold Co Be A5 bY
  rw [i1,za,za,i2]
  by_cases c : (l.any fun x => decide (x.un.1 = d)) = true
  · rw [if_pos c,if_pos c]
  · rw [if_neg c,if_neg c,Xp l hl,za]
    cases l.filter fun x => decide (x.un.1 ≠ a) with
    | nil => rfl
    | cons x R =>
      cases R with
      | nil => rfl
      | cons y R =>
        rw [if_neg (by simp only [List.length_cons]; omega),if_neg (by simp only [List.length_cons]; omega)]
theorem SF (b : Bool) : Tr38.of ((As b).un.1,(As b).un.2.1,(As b).un.2.2.1,(As b).un.2.2.2) = if b = true then .mk 1 0 0 [] else .mk 2 0 0 [] := by cases b <;> first | rfl | simp
theorem eT (sw : Int) : ∀ (n : Nat) (t : Tr38),SizeOf.sizeOf t < n → t.cnt ≤ 1048576 → Di n t sw = some (ct sw t)
  | 0,t,h,_ => absurd h (Nat.not_lt_zero _)
  | n + 1, t, h, hc => by
    have hl := tK t
    have hx : ∀ x ∈ t.un.2.2.2,Di n x sw = some (ct sw x) := fun x hm => eT sw n x (by have := QK hm; omega) (Nat.le_trans (qB hm) hc)
    have hall : De (Di n) t.un.2.2.2 sw = some (t.un.2.2.2.map (ct sw)) := by
      unfold De
      rw [PZ t.un.2.2.2 (by omega) (ct sw) (Cf (Di n) t.un.2.2.2 sw) (fun k hk out ho => by
        rw [Cf,if_pos (by omega),A9 (zb hk),za,hx _ (List.getElem_mem hk)]; rfl) (fun out => by rw [Cf,if_neg (by omega)])]; rfl
    show Dw (Di n) t sw = _
    unfold Dw
    rw [hall,za,SF,SF,SF,NQ t.un.1 (t.un.2.2.2.map (ct sw)) (by rw [zh]; omega) 1 2,NQ t.un.1 (t.un.2.2.2.map (ct sw)) (by rw [zh]; omega) 2 1,cO]
    unfold tT
    by_cases c3 : t.un.1 = 3
    · rw [if_pos c3,if_pos c3]
      by_cases c5 : t.un.2.1 = 5
      · rw [if_pos c5,if_pos c5]
        by_cases cv : t.un.2.2.1 = sw
        · rw [if_pos (decide_eq_true cv),if_pos cv]; rfl
        · rw [if_neg (by simpa using cv),if_neg cv]; rfl
      · rw [if_neg c5,if_neg c5]; rfl
    rw [if_neg c3,if_neg c3]
    by_cases c4 : t.un.1 = 4
    · rw [if_pos c4,if_pos c4]
      unfold ctN
      rcases t.un.2.2.2.map (ct sw) with _ | ⟨c,_ | ⟨y,R⟩⟩
      · rfl
      · rw [if_pos (by rfl),show ix [c] 0 = some c from A9 (k := 0) rfl]
        simp only [za]
        by_cases g1 : c.un.1 = 1
        · rw [decide_eq_true g1,if_pos rfl,if_pos g1]; rfl
        · rw [decide_eq_false g1,if_neg (by decide),if_neg g1,if_pos (by rfl)]
          simp only [za]
          by_cases g2 : c.un.1 = 2
          · rw [decide_eq_true g2,if_pos rfl,if_pos g2]; rfl
          · rw [decide_eq_false g2,if_neg (by decide),if_neg g2]; rfl
      · rw [if_neg (by simp only [List.length_cons]; omega),za,if_neg (by decide),if_neg (by simp only [List.length_cons]; omega),za,if_neg (by decide)]; rfl
    rw [if_neg c4,if_neg c4]
    by_cases c5 : t.un.1 = 5
    · rw [if_pos c5,if_pos c5]; rfl
    rw [if_neg c5,if_neg c5]
    by_cases c6 : t.un.1 = 6
    · rw [if_pos c6,if_pos c6]; rfl
    rw [if_neg c6,if_neg c6]; rfl
theorem jM {t : Tr38} (hc : t.cnt ≤ 1048576) (sw : Int) : LA t sw = some (ct sw t) := B6 (g := fun n => Di n t sw) (fun n r h => Jx n t sw r h) (eT sw (SizeOf.sizeOf t + 1) t (by omega) hc)
abbrev Arr := Int × Int × PK
structure Gd (q : Int) (p : PK) (sw : Int) (x t : Tr38) : Prop where
  fit : HM x = true
  deep : dp x ≤ dp t
  size : x.cnt ≤ t.cnt
  none : Dl 5 x = []
  same : H3 (-1,q,p) x = H3 (sw,q,p) t
theorem xN (k f v : Int) (l : List Tr38) : (Tr38.mk k f v l).cnt = 1 + (l.map Tr38.cnt).sum := Kd (.mk k f v l)
theorem xF (k f v : Int) (l : List Tr38) : dp (Tr38.mk k f v l) = 1 + mx (l.map dp) := S6 (.mk k f v l)
theorem XT (k f v : Int) (l : List Tr38) : HM (Tr38.mk k f v l) = true ↔ Gf k f v l.length ∧ ∀ x ∈ l,HM x = true := IW (.mk k f v l)
theorem Vo (a : Arr) (k f v : Int) (l : List Tr38) : H3 a (Tr38.mk k f v l) = TP a k f v (l.map (H3 a)) := L8 a (.mk k f v l)
theorem TA {k : Int} (h : k = 1 ∨ k = 2) : HM (Tr38.mk k 0 0 []) = true := (XT ..).2 ⟨by unfold Gf; rcases h with rfl | rfl <;> simp,fun x hx => absurd hx (List.not_mem_nil)⟩
theorem LM {x : Tr38} (hf : HM x = true) {d : Int} (hd : d = 1 ∨ d = 2) (hk : x.un.1 = d) : x = .mk d 0 0 [] := by
  have h := ((IW x).1 hf).1
  have h1 := h.2.2.1 (by omega)
  have h2 : x.un.2.2.2 = [] := List.length_eq_zero_iff.1 (h.2.2.2.2.1 (by omega))
  rw [← lU x]
  show Tr38.of (x.un.1,x.un.2.1,x.un.2.2.1,x.un.2.2.2) = _
  rw [hk,h1.1,h1.2,h2]; try rfl
theorem uP (t : Tr38) : 1 ≤ t.cnt := by rw [Kd]; omega
theorem dp1 (t : Tr38) : 1 ≤ dp t := by rw [S6]; omega
theorem R7 {g : Tr38 → Nat} (q : Tr38 → Bool) : ∀ l : List Tr38,((l.filter q).map g).sum ≤ (l.map g).sum
  | [] => Nat.le_refl _
  | x :: l => by
    have := R7 (g := g) q l
    by_cases c : q x = true
    · rw [List.filter_cons_of_pos c,zj,List.sum_cons,zj,List.sum_cons]; omega
    · rw [List.filter_cons_of_neg c,zj,List.sum_cons]; omega
theorem Xt {g h : Tr38 → Nat} : ∀ l : List Tr38,(∀ x ∈ l,g x ≤ h x) → (l.map g).sum ≤ (l.map h).sum
  | [],_ => Nat.le_refl _
  | x :: l,hx => by
    have h1 := hx x (List.mem_cons_self ..)
    have h2 := Xt (g := g) (h := h) l fun y hy => hx y (zd _ hy)
    rw [zj,List.sum_cons,zj,List.sum_cons]; omega
theorem Mu {k : Int} (hk : k ≠ 3) {l : List Tr38} (h : ∀ x ∈ l,Dl 5 x = []) : Dl 5 (Tr38.mk k 0 0 l) = [] := by
  rw [HY]
  show (if k = 3 ∧ (0 : Int) = 5 then _ else _) ++ (l.map (Dl 5)).flatten = []
  rw [if_neg (fun hh => hk hh.1),List.nil_append]
  refine List.flatten_eq_nil_iff.2 fun y hy => ?_
  obtain ⟨x,hx,rfl⟩ := List.mem_map.1 hy
  exact h x hx
theorem aY (k : Int) (L : List Tr38) (a d : Int) : (∃ x ∈ L,x.un.1 = d) ∧ bY k L a d = .mk d 0 0 [] ∨ (∀ x ∈ L,x.un.1 ≠ d) ∧ (L.filter (fun x => decide (x.un.1 ≠ a)) = [] ∧ bY k L a d = .mk a 0 0 [] ∨ (∃ x,L.filter (fun x => decide (x.un.1 ≠ a)) = [x] ∧ bY k L a d = x) ∨ 2 ≤ (L.filter (fun x => decide (x.un.1 ≠ a))).length ∧ bY k L a d = .mk k 0 0 (L.filter fun x => decide (x.un.1 ≠ a))) := by
  unfold bY
  by_cases c : (L.any fun x => decide (x.un.1 = d)) = true
  · rw [if_pos c]
    obtain ⟨x,hx,h⟩ := List.any_eq_true.1 c
    exact .inl ⟨⟨x,hx,of_decide_eq_true h⟩,rfl⟩
  · rw [if_neg c]
    refine .inr ⟨fun x hx he => c (List.any_eq_true.2 ⟨x,hx,decide_eq_true he⟩), ?_⟩
    generalize (L.filter fun x => decide (x.un.1 ≠ a)) = R
    rcases R with _ | ⟨x,_ | ⟨y,R⟩⟩
    · exact .inl ⟨rfl,rfl⟩
    · exact .inr (.inl ⟨x,rfl,rfl⟩)
    · exact .inr (.inr ⟨by simp,rfl⟩)
theorem QA (a : Arr) : H3 a (.mk 1 0 0 []) = true := by rw [Vo]; rfl
theorem Qt (a : Arr) : H3 a (.mk 2 0 0 []) = false := by rw [Vo]; rfl
theorem WO {q : Int} {p : PK} {sw : Int} {t : Tr38} {L : List Tr38} (hlen : L.length ≤ 8) (hk : t.un.1 = 5 ∨ t.un.1 = 6) (hL : L = t.un.2.2.2.map (ct sw)) (hx : ∀ x ∈ t.un.2.2.2,Gd q p sw (ct sw x) x) (a d : Int) (had : t.un.1 = 5 ∧ a = 1 ∧ d = 2 ∨ t.un.1 = 6 ∧ a = 2 ∧ d = 1) : Gd q p sw (bY t.un.1 L a d) t := by
  have hc1 := uP t
  have hd1 := dp1 t
  have hF : ∀ x ∈ L,HM x = true := fun x hm => by
    rw [hL] at hm
    obtain ⟨y,hy,rfl⟩ := List.mem_map.1 hm
    exact (hx y hy).fit
  have hN : ∀ x ∈ L,Dl 5 x = [] := fun x hm => by
    rw [hL] at hm
    obtain ⟨y,hy,rfl⟩ := List.mem_map.1 hm
    exact (hx y hy).none
  have hD : ∀ x ∈ L,dp x + 1 ≤ dp t := fun x hm => by
    rw [hL] at hm
    obtain ⟨y,hy,rfl⟩ := List.mem_map.1 hm
    have h1 := (hx y hy).deep
    have h2 := UN (List.mem_map.2 ⟨y,hy,rfl⟩ : dp y ∈ t.un.2.2.2.map dp)
    rw [S6 t]; omega
  have hS : (L.map Tr38.cnt).sum + 1 ≤ t.cnt := by
    rw [hL,List.map_map,Kd t]
    have := Xt (g := Tr38.cnt ∘ ct sw) (h := Tr38.cnt) t.un.2.2.2 fun x hm => (hx x hm).size
    omega
  have hH : H3 (sw,q,p) t = if t.un.1 = 5 then L.all (H3 (-1,q,p)) else L.any (H3 (-1,q,p)) := by
    have e : t.un.2.2.2.map (H3 (sw,q,p)) = L.map (H3 (-1,q,p)) := by
      rw [hL,List.map_map]
      exact List.map_congr_left fun x hm => (hx x hm).same.symm
    rw [L8,e]
    unfold TP
    rcases hk with h | h
    · rw [h,if_neg (by decide),if_neg (by decide),if_neg (by decide),if_pos rfl,if_pos rfl,List.all_map]; rfl
    · rw [h,if_neg (by decide),if_neg (by decide),if_neg (by decide),if_neg (by decide),if_pos rfl,if_neg (by decide),List.any_map]; rfl
  have ha : a = 1 ∨ a = 2 := by omega
  have hd : d = 1 ∨ d = 2 := by omega
  have m0 : mx [] = 0 := rfl
  rcases aY t.un.1 L a d with ⟨⟨x,hxm,hxd⟩,e⟩ | ⟨hno,⟨e0,e⟩ | ⟨x,e0,e⟩ | ⟨e0,e⟩⟩
  · rw [e]
    have hxe := LM (hF x hxm) hd hxd
    refine ⟨TA hd,by rw [xF]; show 1 + mx [] ≤ _; omega,by rw [xN]; simp; omega,Mu (by omega) (fun y hy => absurd hy (List.not_mem_nil)), ?_⟩
    rw [hH]
    rcases had with ⟨h,rfl,rfl⟩ | ⟨h,rfl,rfl⟩
    · rw [if_pos h,Qt]
      exact (List.all_eq_false.2 ⟨x,hxm,by rw [hxe,Qt]; simp⟩).symm
    · rw [if_neg (by omega),QA]
      exact (List.any_eq_true.2 ⟨x,hxm,by rw [hxe,QA]⟩).symm
  all_goals
    have hHf : H3 (sw,q,p) t = if t.un.1 = 5 then (L.filter fun x => decide (x.un.1 ≠ a)).all (H3 (-1,q,p)) else (L.filter fun x => decide (x.un.1 ≠ a)).any (H3 (-1,q,p)) := by
      rw [hH,List.all_filter,List.any_filter]
      rcases had with ⟨h,rfl,rfl⟩ | ⟨h,rfl,rfl⟩
      · rw [if_pos h,if_pos h]
        rw [Bool.eq_iff_iff,List.all_eq_true,List.all_eq_true]
        refine ⟨fun h x hxm => by rw [h x hxm]; simp,fun h x hxm => ?_⟩
        have h3 := h x hxm
        by_cases c : x.un.1 = 1
        · rw [LM (hF x hxm) (.inl rfl) c,QA]
        · simpa [c] using h3
      · rw [if_neg (by omega),if_neg (by omega)]
        rw [Bool.eq_iff_iff,List.any_eq_true,List.any_eq_true]
        refine ⟨fun ⟨x,hxm,h3⟩ => ⟨x,hxm, ?_⟩,fun ⟨x,hxm,h3⟩ => ⟨x,hxm,by simp at h3; exact h3.2⟩⟩
        by_cases c : x.un.1 = 2
        · rw [LM (hF x hxm) (.inr rfl) c,Qt] at h3; cases h3
        · simp [c,h3]
  · rw [e]
    refine ⟨TA ha,by rw [xF]; show 1 + mx [] ≤ _; omega,by rw [xN]; simp; omega,Mu (by omega) (fun y hy => absurd hy (List.not_mem_nil)), ?_⟩
    rw [hHf,e0]
    rcases had with ⟨h,rfl,rfl⟩ | ⟨h,rfl,rfl⟩
    · rw [if_pos h,QA]; rfl
    · rw [if_neg (by omega),Qt]; rfl
  · have hxm : x ∈ L := (List.mem_filter.1 (by rw [e0]; exact List.mem_singleton.2 rfl : x ∈ L.filter fun x => decide (x.un.1 ≠ a))).1
    rw [e]
    have h2 := hD x hxm
    have h3 := LH (g := Tr38.cnt) hxm
    refine ⟨hF x hxm,by omega,by omega,hN x hxm, ?_⟩
    rw [hHf,e0]
    split <;> simp
  · have hfl := List.length_filter_le (fun x : Tr38 => decide (x.un.1 ≠ a)) L
    have hsf := R7 (g := Tr38.cnt) (fun x => decide (x.un.1 ≠ a)) L
    have hmem : ∀ x ∈ L.filter (fun x => decide (x.un.1 ≠ a)),x ∈ L := fun x hm => (List.mem_filter.1 hm).1
    rw [e]
    refine ⟨(XT ..).2 ⟨by unfold Gf; omega,fun x hm => hF x (hmem x hm)⟩, ?_,by rw [xN]; omega,Mu (by omega) fun x hm => hN x (hmem x hm), ?_⟩
    · have : mx ((L.filter fun x => decide (x.un.1 ≠ a)).map dp) ≤ dp t - 1 := Tf fun b hb => by
        obtain ⟨x,hm,rfl⟩ := List.mem_map.1 hb
        have := hD x (hmem x hm); omega
      rw [xF]; omega
    · rw [hHf,Vo]
      unfold TP
      rcases hk with h | h
      · rw [h,if_neg (by decide),if_neg (by decide),if_neg (by decide),if_pos rfl,if_pos rfl,List.all_map]; rfl
      · rw [h,if_neg (by decide),if_neg (by decide),if_neg (by decide),if_neg (by decide),if_pos rfl,if_neg (by decide),List.any_map]; rfl
theorem Rd (q : Int) (p : PK) (sw : Int) : ∀ (n : Nat) (t : Tr38),SizeOf.sizeOf t < n → HM t = true → Gd q p sw (ct sw t) t
  | 0,t,h,_ => absurd h (Nat.not_lt_zero _)
  | n + 1, t, h, hf => by
    obtain ⟨h1,h2⟩ := (IW t).1 hf
    have hc1 := uP t
    have hd1 := dp1 t
    have hx : ∀ x ∈ t.un.2.2.2,Gd q p sw (ct sw x) x := fun x hm => Rd q p sw n x (by have := QK hm; omega) (h2 x hm)
    have m0 : mx [] = 0 := rfl
    have leaf : ∀ k : Int,k = 1 ∨ k = 2 → H3 (-1,q,p) (.mk k 0 0 []) = H3 (sw,q,p) t → Gd q p sw (.mk k 0 0 []) t := fun k hk hh =>
      ⟨TA hk,by rw [xF]; show 1 + mx [] ≤ _; omega,by rw [xN]; simp; omega,Mu (by omega) (fun y hy => absurd hy (List.not_mem_nil)),hh⟩
    have self : t.un.2.2.2 = [] → (t.un.1 = 3 → t.un.2.1 ≠ 5) → Gd q p sw (.mk t.un.1 t.un.2.1 t.un.2.2.1 (t.un.2.2.2.map (ct sw))) t := fun he h5 => by
      have e : Tr38.mk t.un.1 t.un.2.1 t.un.2.2.1 (t.un.2.2.2.map (ct sw)) = t := by
        rw [he]
        conv => rhs; rw [← lU t]
        show Tr38.mk t.un.1 t.un.2.1 t.un.2.2.1 [] = Tr38.of (t.un.1,t.un.2.1,t.un.2.2.1,t.un.2.2.2)
        rw [he]
      rw [e]
      refine ⟨hf,Nat.le_refl _,Nat.le_refl _, ?_, ?_⟩
      · rw [HY,he,if_neg (fun hh => h5 hh.1 hh.2)]; rfl
      · rw [L8,L8,he]
        unfold TP
        by_cases c3 : t.un.1 = 3
        · have hg : gt (-1,q,p) t.un.2.1 = gt (sw,q,p) t.un.2.1 := by
            unfold gt
            simp only [if_neg (h5 c3)]
          rw [hg]; rfl
        · rw [if_neg c3,if_neg c3]; rfl
    rw [cO]
    unfold tT
    by_cases c3 : t.un.1 = 3
    · have he : t.un.2.2.2 = [] := List.length_eq_zero_iff.1 (h1.2.2.2.2.1 (by omega))
      rw [if_pos c3]
      by_cases c5 : t.un.2.1 = 5
      · have hh : H3 (sw,q,p) t = decide (sw = t.un.2.2.1) := by
          rw [L8]; unfold TP
          rw [if_neg (by omega),if_pos c3,c5]
          exact decide_eq_decide.2 ⟨fun h => h.2,fun h => ⟨by omega,h⟩⟩
        rw [if_pos c5]
        by_cases cv : t.un.2.2.1 = sw
        · rw [if_pos cv]
          exact leaf 1 (.inl rfl) (by rw [QA,hh,decide_eq_true cv.symm])
        · rw [if_neg cv]
          exact leaf 2 (.inr rfl) (by rw [Qt,hh,decide_eq_false (fun h => cv h.symm)])
      · rw [if_neg c5]
        exact self he fun _ => c5
    rw [if_neg c3]
    by_cases c4 : t.un.1 = 4
    · obtain ⟨y,hy⟩ : ∃ y,t.un.2.2.2 = [y] := List.length_eq_one_iff.1 (h1.2.2.2.2.2.1 c4)
      have hym : y ∈ t.un.2.2.2 := by rw [hy]; exact List.mem_cons_self ..
      have gy := hx y hym
      have hh : H3 (sw,q,p) t = !H3 (-1,q,p) (ct sw y) := by
        rw [L8,gy.same]; unfold TP
        rw [if_neg (by omega),if_neg c3,if_pos c4,hy]; rfl
      have hfv := h1.2.2.1 c3
      rw [if_pos c4,hy]
      show Gd q p sw (if (ct sw y).un.1 = 1 then .mk 2 0 0 [] else if (ct sw y).un.1 = 2 then .mk 1 0 0 [] else .mk t.un.1 t.un.2.1 t.un.2.2.1 [ct sw y]) t
      by_cases g1 : (ct sw y).un.1 = 1
      · rw [if_pos g1]
        exact leaf 2 (.inr rfl) (by rw [hh,LM gy.fit (.inl rfl) g1,QA,Qt]; rfl)
      rw [if_neg g1]
      by_cases g2 : (ct sw y).un.1 = 2
      · rw [if_pos g2]
        exact leaf 1 (.inl rfl) (by rw [hh,LM gy.fit (.inr rfl) g2,QA,Qt]; rfl)
      rw [if_neg g2,c4,hfv.1,hfv.2]
      have hcy : t.cnt = 1 + y.cnt := by rw [Kd,hy]; simp
      have hdy : dp t = 1 + mx [dp y] := by rw [S6,hy]; rfl
      have hmy := UN (List.mem_singleton.2 rfl : dp y ∈ [dp y])
      have hmc : mx [dp (ct sw y)] ≤ dp (ct sw y) := Tf fun a ha => by rw [List.mem_singleton.1 ha]; omega
      have gd := gy.deep
      have gs := gy.size
      refine ⟨(XT ..).2 ⟨by unfold Gf; simp,fun x hm => by rw [List.mem_singleton.1 hm]; exact gy.fit⟩,by rw [xF]; show 1 + mx [dp (ct sw y)] ≤ _; omega,by rw [xN]; simp; omega,Mu (by decide) fun x hm => by rw [List.mem_singleton.1 hm]; exact gy.none, ?_⟩
      rw [hh,Vo]; rfl
    rw [if_neg c4]
    have hlen : (t.un.2.2.2.map (ct sw)).length = t.un.2.2.2.length := zh ..
    by_cases c5 : t.un.1 = 5
    · rw [if_pos c5]
      exact WO (by have := h1.2.2.2.2.2.2 (by omega); omega) (.inl c5) rfl hx 1 2 (.inl ⟨c5,rfl,rfl⟩)
    rw [if_neg c5]
    by_cases c6 : t.un.1 = 6
    · rw [if_pos c6]
      exact WO (by have := h1.2.2.2.2.2.2 (by omega); omega) (.inr c6) rfl hx 2 1 (.inr ⟨c6,rfl,rfl⟩)
    rw [if_neg c6]
    exact self (List.length_eq_zero_iff.1 (h1.2.2.2.2.1 (by have := h1.1; have := h1.2.1; omega))) fun h => absurd h c3
end Go.Proofs.YtkhiflmalgkjiaaGreat
namespace Go.Proofs.YtkhiflmalgkjiaaGreat
theorem w28 (t : Tr24) : f24 t = t := by cases t; rfl
theorem w36 (t : Tr38) : f38 t = t := by cases t; rfl
theorem w31 (t : Tr27) : Tr27.of (t.un.1,t.un.2.1,t.un.2.2.1,t.un.2.2.2.1,t.un.2.2.2.2) = t := by cases t; rfl
theorem w39 (t : Tr41) : Tr41.of (t.un.1,t.un.2.1,t.un.2.2.1,t.un.2.2.2.1,t.un.2.2.2.2) = t := by cases t; rfl
theorem p8 {t x : Tr27} (h : x ∈ t.un.2.2.2.2) : SizeOf.sizeOf x < SizeOf.sizeOf t := by
  cases t with
  | mk k p f v l =>
    have h' : x ∈ l := h
    have := List.sizeOf_lt_of_mem h'
    simp only [Tr27.mk.sizeOf_spec]; omega
theorem XI {t x : Tr41} (h : x ∈ t.un.2.2.2.2) : SizeOf.sizeOf x < SizeOf.sizeOf t := by
  cases t with
  | mk k p f v l =>
    have h' : x ∈ l := h
    have := List.sizeOf_lt_of_mem h'
    simp only [Tr41.mk.sizeOf_spec]; omega
theorem dM (t : Tr27) : t.cnt = 1 + (t.un.2.1.cnt + (t.un.2.2.2.2.map Tr27.cnt).sum) := by cases t; rw [Tr27.cnt]; rfl
theorem ST (t : Tr41) : t.cnt = 1 + (t.un.2.1.cnt + (t.un.2.2.2.2.map Tr41.cnt).sum) := by cases t; rw [Tr41.cnt]; rfl
theorem cD {t x : Tr27} (h : x ∈ t.un.2.2.2.2) : x.cnt ≤ t.cnt := by rw [dM t]; have := LH (g := Tr27.cnt) h; omega
theorem cP {t x : Tr41} (h : x ∈ t.un.2.2.2.2) : x.cnt ≤ t.cnt := by rw [ST t]; have := LH (g := Tr41.cnt) h; omega
theorem qD (t : Tr27) : t.un.2.1.cnt + 1 ≤ t.cnt := by rw [dM t]; omega
theorem qP (t : Tr41) : t.un.2.1.cnt + 1 ≤ t.cnt := by rw [ST t]; omega
theorem lD (t : Tr27) : t.un.2.2.2.2.length + 1 ≤ t.cnt := by rw [dM t]; have := OL (g := Tr27.cnt) (fun x => by rw [dM x]; omega) t.un.2.2.2.2; omega
theorem lP (t : Tr41) : t.un.2.2.2.2.length + 1 ≤ t.cnt := by rw [ST t]; have := OL (g := Tr41.cnt) (fun x => by rw [ST x]; omega) t.un.2.2.2.2; omega
def pm : Tr27 → Tr41
  | .mk k p f v l => .mk k (mi p) f v (l.map pm)
theorem UJ (t : Tr27) : (pm t).un = (t.un.1,mi t.un.2.1,t.un.2.2.1,t.un.2.2.2.1,t.un.2.2.2.2.map pm) := by cases t; rw [pm]; rfl
theorem yE (t : Tr27) : pm t = Tr41.of (t.un.1,mi t.un.2.1,t.un.2.2.1,t.un.2.2.2.1,t.un.2.2.2.2.map pm) := by cases t; rw [pm]; rfl
def pt : Tr41 → Tr27
  | .mk k p f v l => .mk k (th p) f v (l.map pt)
theorem eH : ∀ (n : Nat) (t : Tr27),SizeOf.sizeOf t < n → (pm t).cnt = t.cnt
  | 0,t,h => absurd h (Nat.not_lt_zero _)
  | n + 1,t,h => by
    rw [ST,dM,UJ]
    show 1 + ((mi t.un.2.1).cnt + ((t.un.2.2.2.2.map pm).map Tr41.cnt).sum) = _
    rw [List.map_map,l6]
    congr 3
    exact List.map_congr_left fun x hx => eH n x (by have := p8 hx; omega)
theorem pmc (t : Tr27) : (pm t).cnt = t.cnt := eH (SizeOf.sizeOf t + 1) t (by omega)
theorem loop_copy' {α β : Type} (l : List α) (hl : l.length ≤ 1000000000) (f : α → β) (step : Int × List β → Option ((Int × List β) ⊕ List β))
    (hs : ∀ (k : Nat) (hk : k < l.length) (out : List β),out.length = k → step ((k : Int),out) = (HU out [f l[k]]).bind fun x => some (.inl (w64 ((k : Int) + 1),x)))
    (he : ∀ out,step ((l.length : Int),out) = some (.inr out)) : Aj step (0,[]) = some (l.map f) := by
  obtain ⟨s,h1,h2⟩ := DU l.length (fun (out : List β) (k : Nat) => ((k : Int),out)) step id (fun out k => out = (l.take k).map f)
    (fun out k hk hI => ⟨out ++ [f l[k]],by
      rw [hs k hk out (by rw [hI]; simp; omega),I5 (by rw [hI]; simp; omega),za,Ah (by omega)]; rfl,by
      show out ++ [f l[k]] = (l.take (k + 1)).map f
      rw [hI,List.take_succ_eq_append_getElem hk,List.map_append]; rfl⟩) (fun out _ => he out) [] (by simp)
  have h3 : Aj step (0,[]) = some (id s) := h2
  rw [h3,h1,List.take_length]; rfl
theorem YE : ∀ (n : Nat) (t : Tr27),SizeOf.sizeOf t < n → t.cnt ≤ 1048576 → Fb n t = some (pm t)
  | 0,t,h,_ => absurd h (Nat.not_lt_zero _)
  | n + 1,t,h,hc => by
    have hl := lD t
    have hq := qD t
    show FH (Fb n) t = _
    unfold FH
    rw [w28,j4 (by omega),za,loop_copy' t.un.2.2.2.2 (by omega) pm (Es (Fb n) t) (fun k hk out ho => by
      have hm := List.getElem_mem hk
      rw [Es,if_pos (by omega),A9 (zb hk),za,w28,w31,YE n _ (by have := p8 hm; omega) (Nat.le_trans (cD hm) hc),za,w36,w39]) (fun out => by rw [Es,if_neg (by omega)]),za,yE]
theorem gC {t : Tr27} (hc : t.cnt ≤ 1048576) : MR t = some (pm t) := B6 (g := fun n => Fb n t) (fun n r h => NS n t r h) (YE (SizeOf.sizeOf t + 1) t (by omega) hc)
def sz : Tr41 → Nat
  | .mk k p _ _ l => 1 + (if k < 2 ∨ 4 < k then p.cnt else 0) + (l.map sz).sum
theorem SX (t : Tr41) : sz t = 1 + (if t.un.1 < 2 ∨ 4 < t.un.1 then t.un.2.1.cnt else 0) + (t.un.2.2.2.2.map sz).sum := by cases t; rw [sz]; rfl
theorem sum_mono' {α : Type} {g h : α → Nat} : ∀ l : List α,(∀ x ∈ l,g x ≤ h x) → (l.map g).sum ≤ (l.map h).sum
  | [],_ => Nat.le_refl _
  | x :: l,hx => by
    have h1 := hx x (List.mem_cons_self ..)
    have h2 := sum_mono' (g := g) (h := h) l fun y hy => hx y (zd _ hy)
    rw [zj,List.sum_cons,zj,List.sum_cons]; omega
theorem b5 : ∀ (n : Nat) (t : Tr41),SizeOf.sizeOf t < n → sz t ≤ t.cnt
  | 0,t,h => absurd h (Nat.not_lt_zero _)
  | n + 1,t,h => by
    have := sum_mono' (g := sz) (h := Tr41.cnt) t.un.2.2.2.2 fun x hx => b5 n x (by have := XI hx; omega)
    rw [SX,ST]
    split <;> omega
theorem szc (t : Tr41) : sz t ≤ t.cnt := b5 (SizeOf.sizeOf t + 1) t (by omega)
theorem vM (t : Tr27) : sz (pm t) = 1 + (if t.un.1 < 2 ∨ 4 < t.un.1 then t.un.2.1.cnt else 0) + (t.un.2.2.2.2.map fun x => sz (pm x)).sum := by rw [SX,UJ]; show 1 + (if _ then (mi t.un.2.1).cnt else 0) + ((t.un.2.2.2.2.map pm).map sz).sum = _; rw [List.map_map,l6]; rfl
theorem Uv : ∀ (n : Nat) (t : Tr27),SizeOf.sizeOf t < n → t.cnt ≤ 1048576 → Fa n t = some (sz (pm t) : Int)
  | 0,t,h,_ => absurd h (Nat.not_lt_zero _)
  | n + 1, t, h, hc => by
    have hl := lD t
    have hq := qD t
    have hs := szc (pm t)
    rw [pmc] at hs
    have hse := vM t
    show Gp (Fa n) t = _
    unfold Gp
    have e1 : (if (decide (t.un.1 < 2) || decide (4 < t.un.1)) = true then (Lk (f24 t.un.2.1)).bind fun x2 => some (w64 (1 + x2)) else some 1) = some (1 + ((if t.un.1 < 2 ∨ 4 < t.un.1 then t.un.2.1.cnt else 0 : Nat) : Int)) := by
      rw [w28,Xv (by omega),za,Ah (by omega)]
      by_cases c : t.un.1 < 2 ∨ 4 < t.un.1
      · rw [if_pos (by simpa using c),if_pos c]
      · rw [if_neg (by simpa using c),if_neg c]; rfl
    rw [e1,za]
    obtain ⟨o,h1,h2⟩ := DU t.un.2.2.2.2.length (fun (o : Int) (i : Nat) => (o,(i : Int))) (Er (Fa n) t) id (fun o i => o = 1 + ((if t.un.1 < 2 ∨ 4 < t.un.1 then t.un.2.1.cnt else 0 : Nat) : Int) + (((t.un.2.2.2.2.take i).map fun x => sz (pm x)).sum : Nat))
      (fun o i hi ho => by
        have hm := List.getElem_mem hi
        have hx := Uv n t.un.2.2.2.2[i] (by have := p8 hm; omega) (Nat.le_trans (cD hm) hc)
        have hs2 : ((t.un.2.2.2.2.take (i + 1)).map fun x => sz (pm x)).sum = ((t.un.2.2.2.2.take i).map fun x => sz (pm x)).sum + sz (pm t.un.2.2.2.2[i]) := by
          rw [List.take_succ_eq_append_getElem hi,List.map_append,List.sum_append]; simp
        have hle := JE (g := fun x => sz (pm x)) t.un.2.2.2.2 (i + 1)
        refine ⟨o + (sz (pm t.un.2.2.2.2[i]) : Int), ?_,by rw [ho,hs2]; omega⟩
        rw [Er,if_pos (by omega),A9 (zb hi),za,w28,w31,hx,za,Ah (by rw [ho]; omega),Ah (by omega)]; rfl)
      (fun o _ => by rw [Er,if_neg (by omega)]; rfl) (1 + ((if t.un.1 < 2 ∨ 4 < t.un.1 then t.un.2.1.cnt else 0 : Nat) : Int)) (by simp)
    rw [List.take_length] at h1
    have h2' : Aj (Er (Fa n) t) (1 + ((if t.un.1 < 2 ∨ 4 < t.un.1 then t.un.2.1.cnt else 0 : Nat) : Int),0) = some o := h2
    rw [h2',h1,za,hse]
    exact congrArg some (by omega)
theorem Te {t : Tr27} (hc : t.cnt ≤ 1048576) : O5 t = some (sz (pm t) : Int) := B6 (g := fun n => Fa n t) (fun n r h => NU n t r h) (Uv (SizeOf.sizeOf t + 1) t (by omega) hc)
def dq : Tr41 → Nat
  | .mk _ _ _ _ l => 1 + mx (l.map dq)
theorem Uy (t : Tr41) : dq t = 1 + mx (t.un.2.2.2.2.map dq) := by cases t; rw [dq]; rfl
theorem gJ : ∀ (n : Nat) (t : Tr41),SizeOf.sizeOf t < n → dq t ≤ t.cnt
  | 0,t,h => absurd h (Nat.not_lt_zero _)
  | n + 1,t,h => by
    have : mx (t.un.2.2.2.2.map dq) ≤ (t.un.2.2.2.2.map Tr41.cnt).sum := Tf fun a ha => by
      obtain ⟨x,hx,rfl⟩ := List.mem_map.1 ha
      exact Nat.le_trans (gJ n x (by have := XI hx; omega)) (LH (g := Tr41.cnt) hx)
    rw [Uy,ST]; omega
theorem dqc (t : Tr41) : dq t ≤ t.cnt := gJ (SizeOf.sizeOf t + 1) t (by omega)
theorem w9 (t : Tr27) : dq (pm t) = 1 + mx (t.un.2.2.2.2.map fun x => dq (pm x)) := by rw [Uy,UJ]; show 1 + mx ((t.un.2.2.2.2.map pm).map dq) = _; rw [List.map_map]; rfl
theorem UE : ∀ (n : Nat) (t : Tr27),SizeOf.sizeOf t < n → t.cnt ≤ 1048576 → E4 n t = some (dq (pm t) : Int)
  | 0,t,h,_ => absurd h (Nat.not_lt_zero _)
  | n + 1, t, h, hc => by
    have hl := lD t
    show Gh (E4 n) t = _
    unfold Gh
    obtain ⟨o,h1,h2⟩ := DU t.un.2.2.2.2.length (fun (o : Int) (i : Nat) => (o,(i : Int))) (Ew (E4 n) t) id (fun o i => o = 1 + (mx ((t.un.2.2.2.2.take i).map fun x => dq (pm x)) : Nat))
      (fun o i hi ho => by
        have hm := List.getElem_mem hi
        have hx := UE n t.un.2.2.2.2[i] (by have := p8 hm; omega) (Nat.le_trans (cD hm) hc)
        have hd := dqc (pm t.un.2.2.2.2[i])
        rw [pmc] at hd
        have hcl := cD hm
        refine ⟨max o (dq (pm t.un.2.2.2.2[i]) + 1 : Int), ?_,by rw [ho,List.take_succ_eq_append_getElem hi,List.map_append,zj,List.map_nil,YH]; omega⟩
        rw [Ew,if_pos (by omega),A9 (zb hi),za,w28,w31,hx,za,za]
        by_cases q : o ≤ (dq (pm t.un.2.2.2.2[i]) : Int)
        · rw [if_pos q,w28,w31,hx,za,Ah (by omega),za,Ah (by omega)]
          rw [show max o ((dq (pm t.un.2.2.2.2[i]) : Int) + 1) = (dq (pm t.un.2.2.2.2[i]) : Int) + 1 by omega]; rfl
        · rw [if_neg q,za,Ah (by omega)]
          rw [show max o ((dq (pm t.un.2.2.2.2[i]) : Int) + 1) = o by omega]; rfl)
      (fun o _ => by rw [Ew,if_neg (by omega)]; rfl) 1 (by simp [mx])
    rw [List.take_length] at h1
    have h2' : Aj (Ew (E4 n) t) (1,0) = some o := h2
    rw [h2',h1,za,w9]
    exact congrArg some (by omega)
theorem Ya {t : Tr27} (hc : t.cnt ≤ 1048576) : RX t = some (dq (pm t) : Int) := B6 (g := fun n => E4 n t) (fun n r h => NK n t r h) (UE (SizeOf.sizeOf t + 1) t (by omega) hc)
def wf (k n w : Int) : Int := if k = 3 then min (n * w) 1000 else if k = 4 then min (n + w) 1000 else max n w
def w0 (k : Int) : Int := if k = 3 then 1 else 0
def wd : Tr41 → Int
  | .mk k _ _ _ l => if 3 ≤ k ∧ k ≤ 5 then (l.map wd).foldl (wf k) (w0 k) else 1
theorem Sz (t : Tr41) : wd t = if 3 ≤ t.un.1 ∧ t.un.1 ≤ 5 then (t.un.2.2.2.2.map wd).foldl (wf t.un.1) (w0 t.un.1) else 1 := by cases t; rw [wd]; rfl
theorem uW {k n w : Int} (hn : 0 ≤ n ∧ n ≤ 1000) (hw : 0 ≤ w ∧ w ≤ 1000) : 0 ≤ wf k n w ∧ wf k n w ≤ 1000 := by
  unfold wf
  have h := Int.mul_nonneg hn.1 hw.1
  by_cases c3 : k = 3
  · rw [if_pos c3]; omega
  · rw [if_neg c3]
    by_cases c4 : k = 4
    · rw [if_pos c4]; omega
    · rw [if_neg c4]; omega
theorem Ow {k : Int} : ∀ (l : List Int) (n : Int),0 ≤ n ∧ n ≤ 1000 → (∀ w ∈ l,0 ≤ w ∧ w ≤ 1000) → 0 ≤ l.foldl (wf k) n ∧ l.foldl (wf k) n ≤ 1000
  | [],n,hn,_ => hn
  | w :: l,n,hn,h => Ow l (wf k n w) (uW hn (h w (List.mem_cons_self ..))) fun x hx => h x (zd _ hx)
theorem YV (k : Int) : 0 ≤ w0 k ∧ w0 k ≤ 1000 := by unfold w0; split <;> omega
theorem nH : ∀ (n : Nat) (t : Tr41),SizeOf.sizeOf t < n → 0 ≤ wd t ∧ wd t ≤ 1000
  | 0,t,h => absurd h (Nat.not_lt_zero _)
  | n + 1,t,h => by
    rw [Sz]
    split
    · exact Ow _ _ (YV _) fun w hw => by
        obtain ⟨x,hx,rfl⟩ := List.mem_map.1 hw
        exact nH n x (by have := XI hx; omega)
    · omega
theorem sX (t : Tr41) : 0 ≤ wd t ∧ wd t ≤ 1000 := nH (SizeOf.sizeOf t + 1) t (by omega)
theorem gI {a b : Int} (ha : 0 ≤ a ∧ a ≤ 1000) (hb : 0 ≤ b ∧ b ≤ 1000) : 0 ≤ a * b ∧ a * b ≤ 1000000 := by
  refine ⟨Int.mul_nonneg ha.1 hb.1, ?_⟩
  have h1 : a * b ≤ 1000 * b := Int.mul_le_mul_of_nonneg_right ha.2 hb.1
  omega
theorem Nn (k n : Int) (l : List Int) (w : Int) : (l ++ [w]).foldl (wf k) n = wf k (l.foldl (wf k) n) w := by rw [List.foldl_append]; rfl
theorem ZU : ∀ (n : Nat) (t : Tr41),SizeOf.sizeOf t < n → t.cnt ≤ 1048576 → B0 n t = some (wd t)
  | 0,t,h,_ => absurd h (Nat.not_lt_zero _)
  | n + 1, t, h, hc => by
    have hl := lP t
    have hx : ∀ x ∈ t.un.2.2.2.2,B0 n x = some (wd x) := fun x hm => ZU n x (by have := XI hm; omega) (Nat.le_trans (cP hm) hc)
    have bd : ∀ i, ∀ w ∈ ((t.un.2.2.2.2.take i).map wd),0 ≤ w ∧ w ≤ 1000 := fun i w hw => by
      obtain ⟨x,_,rfl⟩ := List.mem_map.1 hw
      exact sX x
    show Dv (B0 n) t = _
    rw [Sz]
    unfold Dv
    by_cases c3 : t.un.1 = 3
    · rw [if_pos c3,if_pos (by omega)]
      obtain ⟨o,h1,h2⟩ := DU t.un.2.2.2.2.length (fun (o : Int) (i : Nat) => (o,(i : Int))) (CS (B0 n) t) id (fun o i => o = ((t.un.2.2.2.2.take i).map wd).foldl (wf t.un.1) (w0 t.un.1))
        (fun o i hi ho => by
          have hb := Ow (k := t.un.1) _ (w0 t.un.1) (YV _) (bd i)
          rw [← ho] at hb
          have hm := gI hb (sX t.un.2.2.2.2[i])
          refine ⟨_, ?_,rfl⟩
          rw [CS,if_pos (by omega),A9 (zb hi),za,w36,w39,hx _ (List.getElem_mem hi),za,Ah (by omega),Ah (by omega),List.take_succ_eq_append_getElem hi,List.map_append,zj,List.map_nil,Nn, ← ho]
          unfold wf
          rw [if_pos c3]; rfl)
        (fun o _ => by rw [CS,if_neg (by omega)]; rfl) 1 (by unfold w0; rw [if_pos c3]; rfl)
      rw [List.take_length] at h1
      have h2' : Aj (CS (B0 n) t) (1,0) = some o := h2
      rw [h2',h1]; rfl
    rw [if_neg c3]
    by_cases c4 : t.un.1 = 4
    · rw [if_pos c4,if_pos (by omega)]
      obtain ⟨o,h1,h2⟩ := DU t.un.2.2.2.2.length (fun (o : Int) (i : Nat) => (o,(i : Int))) (CI (B0 n) t) id (fun o i => o = ((t.un.2.2.2.2.take i).map wd).foldl (wf t.un.1) (w0 t.un.1))
        (fun o i hi ho => by
          have hb := Ow (k := t.un.1) _ (w0 t.un.1) (YV _) (bd i)
          rw [← ho] at hb
          have hm := sX t.un.2.2.2.2[i]
          refine ⟨_, ?_,rfl⟩
          rw [CI,if_pos (by omega),A9 (zb hi),za,w36,w39,hx _ (List.getElem_mem hi),za,Ah (by omega),Ah (by omega),List.take_succ_eq_append_getElem hi,List.map_append,zj,List.map_nil,Nn, ← ho]
          unfold wf
          rw [if_neg c3,if_pos c4]; rfl)
        (fun o _ => by rw [CI,if_neg (by omega)]; rfl) 0 (by unfold w0; rw [if_neg c3]; rfl)
      rw [List.take_length] at h1
      have h2' : Aj (CI (B0 n) t) (0,0) = some o := h2
      rw [h2',h1]; rfl
    rw [if_neg c4]
    by_cases c5 : t.un.1 = 5
    · rw [if_pos c5,if_pos (by omega)]
      obtain ⟨o,h1,h2⟩ := DU t.un.2.2.2.2.length (fun (o : Int) (i : Nat) => (o,(i : Int))) (CO (B0 n) t) id (fun o i => o = ((t.un.2.2.2.2.take i).map wd).foldl (wf t.un.1) (w0 t.un.1))
        (fun o i hi ho => by
          refine ⟨_, ?_,rfl⟩
          rw [CO,if_pos (by omega),A9 (zb hi),za,w36,w39,hx _ (List.getElem_mem hi),za,Ah (by omega),List.take_succ_eq_append_getElem hi,List.map_append,zj,List.map_nil,Nn, ← ho]
          unfold wf
          rw [if_neg c3,if_neg c4]; rfl)
        (fun o _ => by rw [CO,if_neg (by omega)]; rfl) 0 (by unfold w0; rw [if_neg c3]; rfl)
      rw [List.take_length] at h1
      have h2' : Aj (CO (B0 n) t) (0,0) = some o := h2
      rw [h2',h1]; rfl
    rw [if_neg c5,if_neg (by omega)]; rfl
theorem g9 {t : Tr41} (hc : t.cnt ≤ 1048576) : J4 t = some (wd t) := B6 (g := fun n => B0 n t) (fun n r h => Il n t r h) (ZU (SizeOf.sizeOf t + 1) t (by omega) hc)
theorem wQ (t : Tr27) : wd (pm t) = if 3 ≤ t.un.1 ∧ t.un.1 ≤ 5 then (t.un.2.2.2.2.map fun x => wd (pm x)).foldl (wf t.un.1) (w0 t.un.1) else 1 := by rw [Sz,UJ]; show (if _ then ((t.un.2.2.2.2.map pm).map wd).foldl _ _ else _) = _; rw [List.map_map]; rfl
theorem iY (n : Int) : Kb n = min n 1000 := by unfold Kb; split <;> omega
theorem Z0 : ∀ (n : Nat) (t : Tr27),SizeOf.sizeOf t < n → t.cnt ≤ 1048576 → EF n t = some (wd (pm t))
  | 0,t,h,_ => absurd h (Nat.not_lt_zero _)
  | n + 1, t, h, hc => by
    have hl := lD t
    have hx : ∀ x ∈ t.un.2.2.2.2,EF n x = some (wd (pm x)) := fun x hm => Z0 n x (by have := p8 hm; omega) (Nat.le_trans (cD hm) hc)
    have bd : ∀ i, ∀ w ∈ ((t.un.2.2.2.2.take i).map fun x => wd (pm x)),0 ≤ w ∧ w ≤ 1000 := fun i w hw => by
      obtain ⟨x,_,rfl⟩ := List.mem_map.1 hw
      exact sX (pm x)
    show Gm (EF n) t = _
    rw [wQ]
    unfold Gm
    by_cases c : 3 ≤ t.un.1 ∧ t.un.1 ≤ 5
    case neg => rw [if_pos (by simp only [Bool.or_eq_true,decide_eq_true_eq]; omega),if_neg c]
    case pos =>
      have e0 : (if t.un.1 = 3 then some 1 else some 0 : Option Int) = some (w0 t.un.1) := by unfold w0; split <;> rfl
      rw [if_neg (by simp only [Bool.or_eq_true,decide_eq_true_eq]; omega),if_pos c,e0,za]
      obtain ⟨o,h1,h2⟩ := DU t.un.2.2.2.2.length (fun (o : Int) (i : Nat) => (o,(i : Int))) (Eo (EF n) t) id (fun o i => o = ((t.un.2.2.2.2.take i).map fun x => wd (pm x)).foldl (wf t.un.1) (w0 t.un.1))
        (fun o i hi ho => by
          have hb := Ow (k := t.un.1) _ (w0 t.un.1) (YV _) (bd i)
          rw [← ho] at hb
          have hw := sX (pm t.un.2.2.2.2[i])
          have hm := gI hb hw
          refine ⟨_, ?_,rfl⟩
          rw [Eo,if_pos (by omega),A9 (zb hi),za,w28,w31,hx _ (List.getElem_mem hi),za,Ah (by omega),Ah (by omega),List.take_succ_eq_append_getElem hi,List.map_append,zj,List.map_nil,Nn, ← ho,iY]
          unfold wf
          by_cases c3 : t.un.1 = 3
          · rw [if_pos c3,if_pos c3,za,if_neg (by omega),za,decide_eq_false (show ¬ t.un.1 = 5 by omega),if_neg (by simp)]; rfl
          rw [if_neg c3,if_neg c3,za,Ah (by omega)]
          by_cases c4 : t.un.1 = 4
          · rw [if_pos c4,if_pos c4,za,iY,decide_eq_false (show ¬ t.un.1 = 5 by omega),if_neg (by simp)]; rfl
          rw [if_neg c4,if_neg c4,za,decide_eq_true (show t.un.1 = 5 by omega)]
          by_cases cw : o < wd (pm t.un.2.2.2.2[i])
          · rw [decide_eq_true cw,if_pos (by rfl),show max o (wd (pm t.un.2.2.2.2[i])) = wd (pm t.un.2.2.2.2[i]) by omega]; rfl
          · rw [decide_eq_false cw,if_neg (by decide),show max o (wd (pm t.un.2.2.2.2[i])) = o by omega]; rfl)
        (fun o _ => by rw [Eo,if_neg (by omega)]; rfl) (w0 t.un.1) rfl
      rw [List.take_length] at h1
      have h2' : Aj (Eo (EF n) t) (w0 t.un.1,0) = some o := h2
      rw [h2',h1]; rfl
theorem cF {t : Tr27} (hc : t.cnt ≤ 1048576) : SQ t = some (wd (pm t)) := B6 (g := fun n => EF n t) (fun n r h => NO n t r h) (Z0 (SizeOf.sizeOf t + 1) t (by omega) hc)
end Go.Proofs.YtkhiflmalgkjiaaGreat
