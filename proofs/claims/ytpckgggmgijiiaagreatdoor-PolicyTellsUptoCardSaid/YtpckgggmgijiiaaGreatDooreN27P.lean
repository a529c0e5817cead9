/- Layer 27: policies: how great, how deep, how wide. Conditions: none. -/
import Derived.Test.YtpckgggmgijiiaaGreatDooreN26
namespace Go.Proofs.YtpckgggmgijiiaaGreatDoor
set_option linter.unusedVariables false
set_option linter.unusedSimpArgs false
open Go Go.RowKit
theorem S5 (t : Tr24) : f24 t = t := by cases t; rfl
theorem NM (t : Tr34) : f34 t = t := by cases t; rfl
theorem W2 (t : Tr27) : Tr27.of (t.un.1,t.un.2.1,t.un.2.2.1,t.un.2.2.2.1,t.un.2.2.2.2) = t := by cases t; rfl
theorem Qc (t : Tr37) : Tr37.of (t.un.1,t.un.2.1,t.un.2.2.1,t.un.2.2.2.1,t.un.2.2.2.2) = t := by cases t; rfl
theorem aI {t x : Tr27} (h : x ∈ t.un.2.2.2.2) : SizeOf.sizeOf x < SizeOf.sizeOf t := by
  cases t with
  | mk k p f v l =>
    have h' : x ∈ l := h
    have := List.sizeOf_lt_of_mem h'
    simp only [Tr27.mk.sizeOf_spec]; omega
theorem Yr {t x : Tr37} (h : x ∈ t.un.2.2.2.2) : SizeOf.sizeOf x < SizeOf.sizeOf t := by
  cases t with
  | mk k p f v l =>
    have h' : x ∈ l := h
    have := List.sizeOf_lt_of_mem h'
    simp only [Tr37.mk.sizeOf_spec]; omega
theorem ZJ (t : Tr27) : t.cnt = 1 + (t.un.2.1.cnt + (t.un.2.2.2.2.map Tr27.cnt).sum) := by cases t; rw [Tr27.cnt]; rfl
theorem Wd (t : Tr37) : t.cnt = 1 + (t.un.2.1.cnt + (t.un.2.2.2.2.map Tr37.cnt).sum) := by cases t; rw [Tr37.cnt]; rfl
theorem cD {t x : Tr27} (h : x ∈ t.un.2.2.2.2) : x.cnt ≤ t.cnt := by rw [ZJ t]; have := LT (g := Tr27.cnt) h; omega
theorem cP {t x : Tr37} (h : x ∈ t.un.2.2.2.2) : x.cnt ≤ t.cnt := by rw [Wd t]; have := LT (g := Tr37.cnt) h; omega
theorem qD (t : Tr27) : t.un.2.1.cnt + 1 ≤ t.cnt := by rw [ZJ t]; omega
theorem qP (t : Tr37) : t.un.2.1.cnt + 1 ≤ t.cnt := by rw [Wd t]; omega
theorem lD (t : Tr27) : t.un.2.2.2.2.length + 1 ≤ t.cnt := by rw [ZJ t]; have := Mk (g := Tr27.cnt) (fun x => by rw [ZJ x]; omega) t.un.2.2.2.2; omega
theorem lP (t : Tr37) : t.un.2.2.2.2.length + 1 ≤ t.cnt := by rw [Wd t]; have := Mk (g := Tr37.cnt) (fun x => by rw [Wd x]; omega) t.un.2.2.2.2; omega
def pm : Tr27 → Tr37
  | .mk k p f v l => .mk k (mi p) f v (l.map pm)
theorem Li (t : Tr27) : (pm t).un = (t.un.1,mi t.un.2.1,t.un.2.2.1,t.un.2.2.2.1,t.un.2.2.2.2.map pm) := by cases t; rw [pm]; rfl
theorem tM (t : Tr27) : pm t = Tr37.of (t.un.1,mi t.un.2.1,t.un.2.2.1,t.un.2.2.2.1,t.un.2.2.2.2.map pm) := by cases t; rw [pm]; rfl
def pt : Tr37 → Tr27
  | .mk k p f v l => .mk k (th p) f v (l.map pt)
theorem rG (t : Tr37) : pt t = Tr27.of (t.un.1,th t.un.2.1,t.un.2.2.1,t.un.2.2.2.1,t.un.2.2.2.2.map pt) := by cases t; rw [pt]; rfl
theorem aT : ∀ (n : Nat) (t : Tr27),SizeOf.sizeOf t < n → (pm t).cnt = t.cnt
  | 0,t,h => absurd h (Nat.not_lt_zero _)
  | n + 1,t,h => by
    rw [Wd,ZJ,Li]
    show 1 + ((mi t.un.2.1).cnt + ((t.un.2.2.2.2.map pm).map Tr37.cnt).sum) = _
    rw [List.map_map,Wx]
    congr 3
    exact List.map_congr_left fun x hx => aT n x (by have := aI hx; omega)
theorem uF (t : Tr27) : (pm t).cnt = t.cnt := aT (SizeOf.sizeOf t + 1) t (by omega)
theorem loop_copy' {α β : Type} (l : List α) (hl : l.length ≤ 1000000000) (f : α → β) (step : Int × List β → Option ((Int × List β) ⊕ List β))
    (hs : ∀ (k : Nat) (hk : k < l.length) (out : List β),out.length = k → step ((k : Int),out) = (Dg out [f l[k]]).bind fun x => some (.inl (Aq ((k : Int) + 1),x)))
    (he : ∀ out,step ((l.length : Int),out) = some (.inr out)) : Af step (0,[]) = some (l.map f) := by
  obtain ⟨s,h1,h2⟩ := CR l.length (fun (out : List β) (k : Nat) => ((k : Int),out)) step id (fun out k => out = (l.take k).map f)
    (fun out k hk hI => ⟨out ++ [f l[k]],by
      rw [hs k hk out (by rw [hI]; simp; omega),Bv (by rw [hI]; simp; omega),Option.bind_some,Ad (by omega)]; rfl,by
      show out ++ [f l[k]] = (l.take (k + 1)).map f
      rw [hI,List.take_succ_eq_append_getElem hk,List.map_append]; rfl⟩) (fun out _ => he out) [] (by simp)
  have h3 : Af step (0,[]) = some (id s) := h2
  rw [h3,h1,List.take_length]; rfl
theorem X1 : ∀ (n : Nat) (t : Tr27),SizeOf.sizeOf t < n → t.cnt ≤ 1048576 → EY n t = some (pm t)
  | 0,t,h,_ => absurd h (Nat.not_lt_zero _)
  | n + 1,t,h,hc => by
    have hl := lD t
    have hq := qD t
    show Fm (EY n) t = _
    unfold Fm
    rw [S5,iB (by omega),Option.bind_some,loop_copy' t.un.2.2.2.2 (by omega) pm (D4 (EY n) t) (fun k hk out ho => by
      have hm := List.getElem_mem hk
      rw [D4,if_pos (by omega),A7 (List.getElem?_eq_getElem hk),Option.bind_some,S5,W2,X1 n _ (by have := aI hm; omega) (Nat.le_trans (cD hm) hc),Option.bind_some,NM,Qc]) (fun out => by rw [D4,if_neg (by omega)]),Option.bind_some,tM]
theorem Wg {t : Tr27} (hc : t.cnt ≤ 1048576) : LM t = some (pm t) := Bq (g := fun n => EY n t) (fun n r h => MU n t r h) (X1 (SizeOf.sizeOf t + 1) t (by omega) hc)
def sz : Tr37 → Nat
  | .mk k p _ _ l => 1 + (if k < 2 ∨ 4 < k then p.cnt else 0) + (l.map sz).sum
theorem Nz (t : Tr37) : sz t = 1 + (if t.un.1 < 2 ∨ 4 < t.un.1 then t.un.2.1.cnt else 0) + (t.un.2.2.2.2.map sz).sum := by cases t; rw [sz]; rfl
theorem sum_mono' {α : Type} {g h : α → Nat} : ∀ l : List α,(∀ x ∈ l,g x ≤ h x) → (l.map g).sum ≤ (l.map h).sum
  | [],_ => Nat.le_refl _
  | x :: l,hx => by
    have h1 := hx x (List.mem_cons_self ..)
    have h2 := sum_mono' (g := g) (h := h) l fun y hy => hx y (List.mem_cons_of_mem _ hy)
    rw [List.map_cons,List.sum_cons,List.map_cons,List.sum_cons]; omega
theorem cQ : ∀ (n : Nat) (t : Tr37),SizeOf.sizeOf t < n → sz t ≤ t.cnt
  | 0,t,h => absurd h (Nat.not_lt_zero _)
  | n + 1,t,h => by
    have := sum_mono' (g := sz) (h := Tr37.cnt) t.un.2.2.2.2 fun x hx => cQ n x (by have := Yr hx; omega)
    rw [Nz,Wd]
    split <;> omega
theorem zX (t : Tr37) : sz t ≤ t.cnt := cQ (SizeOf.sizeOf t + 1) t (by omega)
theorem rW (t : Tr27) : sz (pm t) = 1 + (if t.un.1 < 2 ∨ 4 < t.un.1 then t.un.2.1.cnt else 0) + (t.un.2.2.2.2.map fun x => sz (pm x)).sum := by rw [Nz,Li]; show 1 + (if _ then (mi t.un.2.1).cnt else 0) + ((t.un.2.2.2.2.map pm).map sz).sum = _; rw [List.map_map,Wx]; rfl
theorem Tn : ∀ (n : Nat) (t : Tr27),SizeOf.sizeOf t < n → t.cnt ≤ 1048576 → ES n t = some (sz (pm t) : Int)
  | 0,t,h,_ => absurd h (Nat.not_lt_zero _)
  | n + 1, t, h, hc => by
    have hl := lD t
    have hq := qD t
    have hs := zX (pm t)
    rw [uF] at hs
    have hse := rW t
    show Gb (ES n) t = _
    unfold Gb
    have e1 : (if (decide (t.un.1 < 2) || decide (4 < t.un.1)) = true then (I4 (f24 t.un.2.1)).bind fun x2 => some (Aq (1 + x2)) else some 1) = some (1 + ((if t.un.1 < 2 ∨ 4 < t.un.1 then t.un.2.1.cnt else 0 : Nat) : Int)) := by
      rw [S5,Ry (by omega),Option.bind_some,Ad (by omega)]
      by_cases c : t.un.1 < 2 ∨ 4 < t.un.1
      · rw [if_pos (by simpa using c),if_pos c]
      · rw [if_neg (by simpa using c),if_neg c]; rfl
    rw [e1,Option.bind_some]
    obtain ⟨o,h1,h2⟩ := CR t.un.2.2.2.2.length (fun (o : Int) (i : Nat) => (o,(i : Int))) (D5 (ES n) t) id (fun o i => o = 1 + ((if t.un.1 < 2 ∨ 4 < t.un.1 then t.un.2.1.cnt else 0 : Nat) : Int) + (((t.un.2.2.2.2.take i).map fun x => sz (pm x)).sum : Nat))
      (fun o i hi ho => by
        have hm := List.getElem_mem hi
        have hx := Tn n t.un.2.2.2.2[i] (by have := aI hm; omega) (Nat.le_trans (cD hm) hc)
        have hs2 : ((t.un.2.2.2.2.take (i + 1)).map fun x => sz (pm x)).sum = ((t.un.2.2.2.2.take i).map fun x => sz (pm x)).sum + sz (pm t.un.2.2.2.2[i]) := by
          rw [List.take_succ_eq_append_getElem hi,List.map_append,List.sum_append]; simp
        have hle := Hu (g := fun x => sz (pm x)) t.un.2.2.2.2 (i + 1)
        refine ⟨o + (sz (pm t.un.2.2.2.2[i]) : Int), ?_,by rw [ho,hs2]; omega⟩
        rw [D5,if_pos (by omega),A7 (List.getElem?_eq_getElem hi),Option.bind_some,S5,W2,hx,Option.bind_some,Ad (by rw [ho]; omega),Ad (by omega)]; rfl)
      (fun o _ => by rw [D5,if_neg (by omega)]; rfl) (1 + ((if t.un.1 < 2 ∨ 4 < t.un.1 then t.un.2.1.cnt else 0 : Nat) : Int)) (by simp)
    rw [List.take_length] at h1
    have h2' : Af (D5 (ES n) t) (1 + ((if t.un.1 < 2 ∨ 4 < t.un.1 then t.un.2.1.cnt else 0 : Nat) : Int),0) = some o := h2
    rw [h2',h1,Option.bind_some,hse]
    exact congrArg some (by omega)
theorem Qx {t : Tr27} (hc : t.cnt ≤ 1048576) : N5 t = some (sz (pm t) : Int) := Bq (g := fun n => ES n t) (fun n r h => M4 n t r h) (Tn (SizeOf.sizeOf t + 1) t (by omega) hc)
def dq : Tr37 → Nat
  | .mk _ _ _ _ l => 1 + mx (l.map dq)
theorem Yz (t : Tr37) : dq t = 1 + mx (t.un.2.2.2.2.map dq) := by cases t; rw [dq]; rfl
theorem bQ : ∀ (n : Nat) (t : Tr37),SizeOf.sizeOf t < n → dq t ≤ t.cnt
  | 0,t,h => absurd h (Nat.not_lt_zero _)
  | n + 1,t,h => by
    have : mx (t.un.2.2.2.2.map dq) ≤ (t.un.2.2.2.2.map Tr37.cnt).sum := YQ fun a ha => by
      obtain ⟨x,hx,rfl⟩ := List.mem_map.1 ha
      exact Nat.le_trans (bQ n x (by have := Yr hx; omega)) (LT (g := Tr37.cnt) hx)
    rw [Yz,Wd]; omega
theorem dqc (t : Tr37) : dq t ≤ t.cnt := bQ (SizeOf.sizeOf t + 1) t (by omega)
theorem rJ (t : Tr27) : dq (pm t) = 1 + mx (t.un.2.2.2.2.map fun x => dq (pm x)) := by rw [Yz,Li]; show 1 + mx ((t.un.2.2.2.2.map pm).map dq) = _; rw [List.map_map]; rfl
theorem TS : ∀ (n : Nat) (t : Tr27),SizeOf.sizeOf t < n → t.cnt ≤ 1048576 → EW n t = some (dq (pm t) : Int)
  | 0,t,h,_ => absurd h (Nat.not_lt_zero _)
  | n + 1, t, h, hc => by
    have hl := lD t
    show F3 (EW n) t = _
    unfold F3
    obtain ⟨o,h1,h2⟩ := CR t.un.2.2.2.2.length (fun (o : Int) (i : Nat) => (o,(i : Int))) (DZ (EW n) t) id (fun o i => o = 1 + (mx ((t.un.2.2.2.2.take i).map fun x => dq (pm x)) : Nat))
      (fun o i hi ho => by
        have hm := List.getElem_mem hi
        have hx := TS n t.un.2.2.2.2[i] (by have := aI hm; omega) (Nat.le_trans (cD hm) hc)
        have hd := dqc (pm t.un.2.2.2.2[i])
        rw [uF] at hd
        have hcl := cD hm
        refine ⟨max o (dq (pm t.un.2.2.2.2[i]) + 1 : Int), ?_,by rw [ho,List.take_succ_eq_append_getElem hi,List.map_append,List.map_cons,List.map_nil,T5]; omega⟩
        rw [DZ,if_pos (by omega),A7 (List.getElem?_eq_getElem hi),Option.bind_some,S5,W2,hx,Option.bind_some,Option.bind_some]
        by_cases q : o ≤ (dq (pm t.un.2.2.2.2[i]) : Int)
        · rw [if_pos q,S5,W2,hx,Option.bind_some,Ad (by omega),Option.bind_some,Ad (by omega)]
          rw [show max o ((dq (pm t.un.2.2.2.2[i]) : Int) + 1) = (dq (pm t.un.2.2.2.2[i]) : Int) + 1 by omega]; rfl
        · rw [if_neg q,Option.bind_some,Ad (by omega)]
          rw [show max o ((dq (pm t.un.2.2.2.2[i]) : Int) + 1) = o by omega]; rfl)
      (fun o _ => by rw [DZ,if_neg (by omega)]; rfl) 1 (by simp [mx])
    rw [List.take_length] at h1
    have h2' : Af (DZ (EW n) t) (1,0) = some o := h2
    rw [h2',h1,Option.bind_some,rJ]
    exact congrArg some (by omega)
theorem QL {t : Tr27} (hc : t.cnt ≤ 1048576) : Oc t = some (dq (pm t) : Int) := Bq (g := fun n => EW n t) (fun n r h => MI n t r h) (TS (SizeOf.sizeOf t + 1) t (by omega) hc)
def wf (k n w : Int) : Int := if k = 3 then min (n * w) 1000 else if k = 4 then min (n + w) 1000 else max n w
def w0 (k : Int) : Int := if k = 3 then 1 else 0
def wd : Tr37 → Int
  | .mk k _ _ _ l => if 3 ≤ k ∧ k ≤ 5 then (l.map wd).foldl (wf k) (w0 k) else 1
theorem Tu (t : Tr37) : wd t = if 3 ≤ t.un.1 ∧ t.un.1 ≤ 5 then (t.un.2.2.2.2.map wd).foldl (wf t.un.1) (w0 t.un.1) else 1 := by cases t; rw [wd]; rfl
theorem sL {k n w : Int} (hn : 0 ≤ n ∧ n ≤ 1000) (hw : 0 ≤ w ∧ w ≤ 1000) : 0 ≤ wf k n w ∧ wf k n w ≤ 1000 := by
  unfold wf
  have h := Int.mul_nonneg hn.1 hw.1
  by_cases c3 : k = 3
  · rw [if_pos c3]; omega
  · rw [if_neg c3]
    by_cases c4 : k = 4
    · rw [if_pos c4]; omega
    · rw [if_neg c4]; omega
theorem Oz {k : Int} : ∀ (l : List Int) (n : Int),0 ≤ n ∧ n ≤ 1000 → (∀ w ∈ l,0 ≤ w ∧ w ≤ 1000) → 0 ≤ l.foldl (wf k) n ∧ l.foldl (wf k) n ≤ 1000
  | [],n,hn,_ => hn
  | w :: l,n,hn,h => Oz l (wf k n w) (sL hn (h w (List.mem_cons_self ..))) fun x hx => h x (List.mem_cons_of_mem _ hx)
theorem Tx (k : Int) : 0 ≤ w0 k ∧ w0 k ≤ 1000 := by unfold w0; split <;> omega
theorem l8 : ∀ (n : Nat) (t : Tr37),SizeOf.sizeOf t < n → 0 ≤ wd t ∧ wd t ≤ 1000
  | 0,t,h => absurd h (Nat.not_lt_zero _)
  | n + 1,t,h => by
    rw [Tu]
    split
    · exact Oz _ _ (Tx _) fun w hw => by
        obtain ⟨x,hx,rfl⟩ := List.mem_map.1 hw
        exact l8 n x (by have := Yr hx; omega)
    · omega
theorem lQ (t : Tr37) : 0 ≤ wd t ∧ wd t ≤ 1000 := l8 (SizeOf.sizeOf t + 1) t (by omega)
theorem fC {a b : Int} (ha : 0 ≤ a ∧ a ≤ 1000) (hb : 0 ≤ b ∧ b ≤ 1000) : 0 ≤ a * b ∧ a * b ≤ 1000000 := by
  refine ⟨Int.mul_nonneg ha.1 hb.1, ?_⟩
  have h1 : a * b ≤ 1000 * b := Int.mul_le_mul_of_nonneg_right ha.2 hb.1
  omega
theorem Mw (k n : Int) (l : List Int) (w : Int) : (l ++ [w]).foldl (wf k) n = wf k (l.foldl (wf k) n) w := by rw [List.foldl_append]; rfl
theorem YS : ∀ (n : Nat) (t : Tr37),SizeOf.sizeOf t < n → t.cnt ≤ 1048576 → BD n t = some (wd t)
  | 0,t,h,_ => absurd h (Nat.not_lt_zero _)
  | n + 1, t, h, hc => by
    have hl := lP t
    have hx : ∀ x ∈ t.un.2.2.2.2,BD n x = some (wd x) := fun x hm => YS n x (by have := Yr hm; omega) (Nat.le_trans (cP hm) hc)
    have bd : ∀ i, ∀ w ∈ ((t.un.2.2.2.2.take i).map wd),0 ≤ w ∧ w ≤ 1000 := fun i w hw => by
      obtain ⟨x,_,rfl⟩ := List.mem_map.1 hw
      exact lQ x
    show Dc (BD n) t = _
    rw [Tu]
    unfold Dc
    by_cases c3 : t.un.1 = 3
    · rw [if_pos c3,if_pos (by omega)]
      obtain ⟨o,h1,h2⟩ := CR t.un.2.2.2.2.length (fun (o : Int) (i : Nat) => (o,(i : Int))) (Ci (BD n) t) id (fun o i => o = ((t.un.2.2.2.2.take i).map wd).foldl (wf t.un.1) (w0 t.un.1))
        (fun o i hi ho => by
          have hb := Oz (k := t.un.1) _ (w0 t.un.1) (Tx _) (bd i)
          rw [← ho] at hb
          have hm := fC hb (lQ t.un.2.2.2.2[i])
          refine ⟨_, ?_,rfl⟩
          rw [Ci,if_pos (by omega),A7 (List.getElem?_eq_getElem hi),Option.bind_some,NM,Qc,hx _ (List.getElem_mem hi),Option.bind_some,Ad (by omega),Ad (by omega),List.take_succ_eq_append_getElem hi,List.map_append,List.map_cons,List.map_nil,Mw, ← ho]
          unfold wf
          rw [if_pos c3]; rfl)
        (fun o _ => by rw [Ci,if_neg (by omega)]; rfl) 1 (by unfold w0; rw [if_pos c3]; rfl)
      rw [List.take_length] at h1
      have h2' : Af (Ci (BD n) t) (1,0) = some o := h2
      rw [h2',h1]; rfl
    rw [if_neg c3]
    by_cases c4 : t.un.1 = 4
    · rw [if_pos c4,if_pos (by omega)]
      obtain ⟨o,h1,h2⟩ := CR t.un.2.2.2.2.length (fun (o : Int) (i : Nat) => (o,(i : Int))) (Cg (BD n) t) id (fun o i => o = ((t.un.2.2.2.2.take i).map wd).foldl (wf t.un.1) (w0 t.un.1))
        (fun o i hi ho => by
          have hb := Oz (k := t.un.1) _ (w0 t.un.1) (Tx _) (bd i)
          rw [← ho] at hb
          have hm := lQ t.un.2.2.2.2[i]
          refine ⟨_, ?_,rfl⟩
          rw [Cg,if_pos (by omega),A7 (List.getElem?_eq_getElem hi),Option.bind_some,NM,Qc,hx _ (List.getElem_mem hi),Option.bind_some,Ad (by omega),Ad (by omega),List.take_succ_eq_append_getElem hi,List.map_append,List.map_cons,List.map_nil,Mw, ← ho]
          unfold wf
          rw [if_neg c3,if_pos c4]; rfl)
        (fun o _ => by rw [Cg,if_neg (by omega)]; rfl) 0 (by unfold w0; rw [if_neg c3]; rfl)
      rw [List.take_length] at h1
      have h2' : Af (Cg (BD n) t) (0,0) = some o := h2
      rw [h2',h1]; rfl
    rw [if_neg c4]
    by_cases c5 : t.un.1 = 5
    · rw [if_pos c5,if_pos (by omega)]
      obtain ⟨o,h1,h2⟩ := CR t.un.2.2.2.2.length (fun (o : Int) (i : Nat) => (o,(i : Int))) (Cj (BD n) t) id (fun o i => o = ((t.un.2.2.2.2.take i).map wd).foldl (wf t.un.1) (w0 t.un.1))
        (fun o i hi ho => by
          refine ⟨_, ?_,rfl⟩
          rw [Cj,if_pos (by omega),A7 (List.getElem?_eq_getElem hi),Option.bind_some,NM,Qc,hx _ (List.getElem_mem hi),Option.bind_some,Ad (by omega),List.take_succ_eq_append_getElem hi,List.map_append,List.map_cons,List.map_nil,Mw, ← ho]
          unfold wf
          rw [if_neg c3,if_neg c4]; rfl)
        (fun o _ => by rw [Cj,if_neg (by omega)]; rfl) 0 (by unfold w0; rw [if_neg c3]; rfl)
      rw [List.take_length] at h1
      have h2' : Af (Cj (BD n) t) (0,0) = some o := h2
      rw [h2',h1]; rfl
    rw [if_neg c5,if_neg (by omega)]; rfl
theorem WY {t : Tr37} (hc : t.cnt ≤ 1048576) : EA t = some (wd t) := Bq (g := fun n => BD n t) (fun n r h => HC n t r h) (YS (SizeOf.sizeOf t + 1) t (by omega) hc)
theorem rA (t : Tr27) : wd (pm t) = if 3 ≤ t.un.1 ∧ t.un.1 ≤ 5 then (t.un.2.2.2.2.map fun x => wd (pm x)).foldl (wf t.un.1) (w0 t.un.1) else 1 := by rw [Tu,Li]; show (if _ then ((t.un.2.2.2.2.map pm).map wd).foldl _ _ else _) = _; rw [List.map_map]; rfl
theorem eN (n : Int) : Jv n = min n 1000 := by unfold Jv; split <;> omega
theorem YJ : ∀ (n : Nat) (t : Tr27),SizeOf.sizeOf t < n → t.cnt ≤ 1048576 → Ec n t = some (wd (pm t))
  | 0,t,h,_ => absurd h (Nat.not_lt_zero _)
  | n + 1, t, h, hc => by
    have hl := lD t
    have hx : ∀ x ∈ t.un.2.2.2.2,Ec n x = some (wd (pm x)) := fun x hm => YJ n x (by have := aI hm; omega) (Nat.le_trans (cD hm) hc)
    have bd : ∀ i, ∀ w ∈ ((t.un.2.2.2.2.take i).map fun x => wd (pm x)),0 ≤ w ∧ w ≤ 1000 := fun i w hw => by
      obtain ⟨x,_,rfl⟩ := List.mem_map.1 hw
      exact lQ (pm x)
    show F0 (Ec n) t = _
    rw [rA]
    unfold F0
    by_cases c : 3 ≤ t.un.1 ∧ t.un.1 ≤ 5
    case neg => rw [if_pos (by simp only [Bool.or_eq_true,decide_eq_true_eq]; omega),if_neg c]
    case pos =>
      have e0 : (if t.un.1 = 3 then some 1 else some 0 : Option Int) = some (w0 t.un.1) := by unfold w0; split <;> rfl
      rw [if_neg (by simp only [Bool.or_eq_true,decide_eq_true_eq]; omega),if_pos c,e0,Option.bind_some]
      obtain ⟨o,h1,h2⟩ := CR t.un.2.2.2.2.length (fun (o : Int) (i : Nat) => (o,(i : Int))) (D1 (Ec n) t) id (fun o i => o = ((t.un.2.2.2.2.take i).map fun x => wd (pm x)).foldl (wf t.un.1) (w0 t.un.1))
        (fun o i hi ho => by
          have hb := Oz (k := t.un.1) _ (w0 t.un.1) (Tx _) (bd i)
          rw [← ho] at hb
          have hw := lQ (pm t.un.2.2.2.2[i])
          have hm := fC hb hw
          refine ⟨_, ?_,rfl⟩
          rw [D1,if_pos (by omega),A7 (List.getElem?_eq_getElem hi),Option.bind_some,S5,W2,hx _ (List.getElem_mem hi),Option.bind_some,Ad (by omega),Ad (by omega),List.take_succ_eq_append_getElem hi,List.map_append,List.map_cons,List.map_nil,Mw, ← ho,eN]
          unfold wf
          by_cases c3 : t.un.1 = 3
          · rw [if_pos c3,if_pos c3,Option.bind_some,if_neg (by omega),Option.bind_some,decide_eq_false (show ¬ t.un.1 = 5 by omega),if_neg (by simp)]; rfl
          rw [if_neg c3,if_neg c3,Option.bind_some,Ad (by omega)]
          by_cases c4 : t.un.1 = 4
          · rw [if_pos c4,if_pos c4,Option.bind_some,eN,decide_eq_false (show ¬ t.un.1 = 5 by omega),if_neg (by simp)]; rfl
          rw [if_neg c4,if_neg c4,Option.bind_some,decide_eq_true (show t.un.1 = 5 by omega)]
          by_cases cw : o < wd (pm t.un.2.2.2.2[i])
          · rw [decide_eq_true cw,if_pos (by rfl),show max o (wd (pm t.un.2.2.2.2[i])) = wd (pm t.un.2.2.2.2[i]) by omega]; rfl
          · rw [decide_eq_false cw,if_neg (by decide),show max o (wd (pm t.un.2.2.2.2[i])) = o by omega]; rfl)
        (fun o _ => by rw [D1,if_neg (by omega)]; rfl) (w0 t.un.1) rfl
      rw [List.take_length] at h1
      have h2' : Af (D1 (Ec n) t) (w0 t.un.1,0) = some o := h2
      rw [h2',h1]; rfl
theorem VT {t : Tr27} (hc : t.cnt ≤ 1048576) : Ns t = some (wd (pm t)) := Bq (g := fun n => Ec n t) (fun n r h => MN n t r h) (YJ (SizeOf.sizeOf t + 1) t (by omega) hc)
end Go.Proofs.YtpckgggmgijiiaaGreatDoor
namespace Go.Proofs.YtpckgggmgijiiaaGreatDoor
set_option linter.unusedVariables false
set_option linter.unusedSimpArgs false
open Go Go.RowKit
abbrev ZP : Tr34 := Tr34.of (0,0,0,([] : List Tr34))
abbrev ZD : Tr24 := Tr24.of (0,0,0,([] : List Tr24))
theorem tE : mi ZD = ZP := by show mi (.mk 0 0 0 []) = _; rw [mi]; rfl
theorem mi_Z' {p : Tr24} : mi p = ZP ↔ p = ZD := ⟨fun h => p8 (h.trans tE.symm),fun h => by rw [h,tE]⟩
abbrev FN (k f v : Int) (n : Nat) : Prop := 1 ≤ k ∧ k ≤ 5 ∧ (k ≠ 2 → f = 0 ∧ v = 0) ∧ (k = 2 → 0 ≤ f ∧ f ≤ 4 ∧ 0 ≤ v ∧ v ≤ CF f) ∧ (k ≤ 2 → n = 0) ∧ (k = 5 → n = 2) ∧ (k = 3 ∨ k = 4 → 2 ≤ n ∧ n ≤ 8)
abbrev VY (k : Int) (p : Tr34) (f v : Int) (n : Nat) : Prop := FN k f v n ∧ (k = 2 ∨ k = 3 ∨ k = 4 → p = ZP)
open Classical in
theorem iD {t : Tr37} (hc : t.cnt ≤ 1048576) : Hb t = some (decide (VY t.un.1 t.un.2.1 t.un.2.2.1 t.un.2.2.2.1 t.un.2.2.2.2.length)) := by
  have hq := qP t
  unfold Hb D3
  rw [NM,WK (by omega)]
  simp only [Option.bind_some]
  by_cases hz : t.un.2.1 = ZP
  · rw [decide_eq_true hz,show decide (VY t.un.1 t.un.2.1 t.un.2.2.1 t.un.2.2.2.1 t.un.2.2.2.2.length) = decide (FN t.un.1 t.un.2.2.1 t.un.2.2.2.1 t.un.2.2.2.2.length) from decide_eq_decide.2 ⟨fun h => h.1,fun h => ⟨h,fun _ => hz⟩⟩]
    have no : ¬ FN t.un.1 t.un.2.2.1 t.un.2.2.2.1 t.un.2.2.2.2.length → some false = some (decide (FN t.un.1 t.un.2.2.1 t.un.2.2.2.1 t.un.2.2.2.2.length)) := fun h => by rw [decide_eq_false h]
    have yes : ∀ {P : Prop} [Decidable P],(P ↔ FN t.un.1 t.un.2.2.1 t.un.2.2.2.1 t.un.2.2.2.2.length) → some (decide P) = some (decide (FN t.un.1 t.un.2.2.1 t.un.2.2.2.1 t.un.2.2.2.2.length)) := fun h => congrArg some (decide_eq_decide.2 h)
    by_cases c2 : t.un.1 = 2
    · rw [if_pos c2,if_pos rfl]
      by_cases a1 : (t.un.2.2.2.2.length : Int) = 0
      · rw [if_pos a1]
        by_cases a2 : 0 ≤ t.un.2.2.1
        · rw [if_pos a2]
          by_cases a3 : t.un.2.2.1 ≤ 4
          · rw [if_pos a3]
            by_cases a4 : 0 ≤ t.un.2.2.2.1
            · rw [if_pos a4,dZ,Option.bind_some,Option.bind_some]
              exact yes ⟨fun h => by unfold FN; omega,fun h => by unfold FN at h; omega⟩
            · rw [if_neg a4]; exact no (fun h => by unfold FN at h; omega)
          · rw [if_neg a3]; exact no (fun h => by unfold FN at h; omega)
        · rw [if_neg a2]; exact no (fun h => by unfold FN at h; omega)
      · rw [if_neg a1]; exact no (fun h => by unfold FN at h; omega)
    · rw [if_neg c2]
      by_cases z : t.un.2.2.1 = 0 ∧ t.un.2.2.2.1 = 0
      · rw [if_neg (by simp [z.1,z.2])]
        by_cases c1 : t.un.1 = 1
        · rw [if_pos c1]
          exact yes ⟨fun h => by unfold FN; omega,fun h => by unfold FN at h; omega⟩
        · rw [if_neg c1]
          by_cases c34 : t.un.1 = 3 ∨ t.un.1 = 4
          · have e : (if t.un.1 = 3 then some true else some (decide (t.un.1 = 4)) : Option Bool) = some true := by
              rcases c34 with h | h
              · rw [if_pos h]
              · rw [if_neg (by omega),decide_eq_true h]
            rw [e,Option.bind_some,if_pos rfl,if_pos rfl]
            by_cases a : 2 ≤ (t.un.2.2.2.2.length : Int)
            · rw [if_pos a,Option.bind_some]
              exact yes ⟨fun h => by unfold FN; omega,fun h => by unfold FN at h; omega⟩
            · rw [if_neg a]; exact no (fun h => by unfold FN at h; omega)
          · rw [if_neg (by omega),decide_eq_false (by omega),Option.bind_some,if_neg (by decide)]
            by_cases c5 : t.un.1 = 5
            · rw [if_pos c5]
              exact yes ⟨fun h => by unfold FN; omega,fun h => by unfold FN at h; omega⟩
            · rw [if_neg c5]; exact no (fun h => by unfold FN at h; omega)
      · rw [if_pos (by simp only [Bool.or_eq_true,decide_eq_true_eq]; omega)]
        exact no (fun h => by unfold FN at h; omega)
  · rw [decide_eq_false hz]
    have no : ¬ VY t.un.1 t.un.2.1 t.un.2.2.1 t.un.2.2.2.1 t.un.2.2.2.2.length → some false = some (decide (VY t.un.1 t.un.2.1 t.un.2.2.1 t.un.2.2.2.1 t.un.2.2.2.2.length)) := fun h => by rw [decide_eq_false h]
    have yes : ∀ {P : Prop} [Decidable P],(P ↔ VY t.un.1 t.un.2.1 t.un.2.2.1 t.un.2.2.2.1 t.un.2.2.2.2.length) → some (decide P) = some (decide (VY t.un.1 t.un.2.1 t.un.2.2.1 t.un.2.2.2.1 t.un.2.2.2.2.length)) := fun h => congrArg some (decide_eq_decide.2 h)
    by_cases c2 : t.un.1 = 2
    · rw [if_pos c2,if_neg (by decide)]; exact no (fun h => hz (h.2 (.inl c2)))
    · rw [if_neg c2]
      by_cases z : t.un.2.2.1 = 0 ∧ t.un.2.2.2.1 = 0
      · rw [if_neg (by simp [z.1,z.2])]
        by_cases c1 : t.un.1 = 1
        · rw [if_pos c1]
          exact yes ⟨fun h => ⟨by unfold FN; omega,fun h => by omega⟩,fun h => by have := h.1; unfold FN at this; omega⟩
        · rw [if_neg c1]
          by_cases c34 : t.un.1 = 3 ∨ t.un.1 = 4
          · have e : (if t.un.1 = 3 then some true else some (decide (t.un.1 = 4)) : Option Bool) = some true := by
              rcases c34 with h | h
              · rw [if_pos h]
              · rw [if_neg (by omega),decide_eq_true h]
            rw [e,Option.bind_some,if_pos rfl,if_neg (by decide)]; exact no (fun h => hz (h.2 (.inr c34)))
          · rw [if_neg (by omega),decide_eq_false (by omega),Option.bind_some,if_neg (by decide)]
            by_cases c5 : t.un.1 = 5
            · rw [if_pos c5]
              exact yes ⟨fun h => ⟨by unfold FN; omega,fun h => by omega⟩,fun h => by have := h.1; unfold FN at this; omega⟩
            · rw [if_neg c5]; exact no (fun h => by have := h.1; unfold FN at this; omega)
      · rw [if_pos (by simp only [Bool.or_eq_true,decide_eq_true_eq]; omega)]
        exact no (fun h => by have := h.1; unfold FN at this; omega)
abbrev aV (k : Int) (p : Tr34) (f v : Int) (n : Nat) : Prop := VY k p f v n ∧ (k = 1 ∨ k = 5 → NU p 64 8)
open Classical in
noncomputable def Gn : Tr37 → Bool
  | .mk k p f v l => @decide (aV k p f v l.length) (propDecidable _) && (l.map Gn).all id
theorem FJ (t : Tr37) : Gn t = true ↔ aV t.un.1 t.un.2.1 t.un.2.2.1 t.un.2.2.2.1 t.un.2.2.2.2.length ∧ ∀ x ∈ t.un.2.2.2.2,Gn x = true := by
  cases t with
  | mk k p f v l =>
    rw [Gn,Bool.and_eq_true, @decide_eq_true_eq _ (Classical.propDecidable _),List.all_map,List.all_eq_true]; rfl
theorem Mv (t : Tr27) : Gn (pm t) = true ↔ aV t.un.1 (mi t.un.2.1) t.un.2.2.1 t.un.2.2.2.1 t.un.2.2.2.2.length ∧ ∀ x ∈ t.un.2.2.2.2,Gn (pm x) = true := by
  rw [FJ,Li]
  show aV _ _ _ _ (t.un.2.2.2.2.map pm).length ∧ _ ↔ _
  rw [List.length_map]
  refine and_congr_right fun _ => ⟨fun h x hx => h _ (List.mem_map.2 ⟨x,hx,rfl⟩),fun h x hx => ?_⟩
  obtain ⟨y,hy,rfl⟩ := List.mem_map.1 hx
  exact h y hy
abbrev SX (t : Tr37) (b d : Int) : Prop := Gn t = true ∧ (dq t : Int) ≤ d ∧ (sz t : Int) ≤ b
open Classical in
theorem Th : ∀ (n : Nat) (t : Tr37),SizeOf.sizeOf t < n → t.cnt ≤ 1048576 → ∀ b d : Int, -1000 ≤ b → b ≤ 1000 → 0 ≤ d → d ≤ 1000 →
    (SX t b d → Ax n b t d = some (true,b - sz t)) ∧ (¬ SX t b d → ∃ b',Ax n b t d = some (false,b'))
  | 0,t,h,_ => absurd h (Nat.not_lt_zero _)
  | n + 1, t, h, hc => by
    intro b d b0 b1 d0 d1
    have hl := lP t
    have hq := qP t
    have hse := Nz t
    have hde := Yz t
    have hst : Ax (n + 1) b t d = Bx (Ax n) b t d := rfl
    rw [hst]
    unfold Bx
    by_cases g1 : b < 1
    · rw [if_pos g1,Option.bind_some,if_pos rfl]
      exact ⟨fun hk => by have := hk.2.2; omega,fun _ => ⟨_,rfl⟩⟩
    rw [if_neg g1]
    by_cases g2 : d < 1
    · rw [if_pos g2,Option.bind_some,if_pos rfl]
      exact ⟨fun hk => by have := hk.2.1; omega,fun _ => ⟨_,rfl⟩⟩
    rw [if_neg g2,NM,Qc,iD hc,Option.bind_some,Option.bind_some]
    by_cases g3 : VY t.un.1 t.un.2.1 t.un.2.2.1 t.un.2.2.2.1 t.un.2.2.2.2.length
    case neg =>
      rw [decide_eq_false g3,if_pos (by decide)]
      exact ⟨fun hk => absurd ((FJ t).1 hk.1).1.1 g3,fun _ => ⟨_,rfl⟩⟩
    case pos =>
      rw [decide_eq_true g3,if_neg (show ¬ (!true) = true by decide),Ad (by omega)]
      by_cases g4 : t.un.1 = 1 ∨ t.un.1 = 5 → NU t.un.2.1 64 8
      case neg =>
        have hk : t.un.1 = 1 ∨ t.un.1 = 5 := Classical.byContradiction fun hn => g4 fun h => absurd h hn
        rw [if_pos (by simpa using hk),Tg (by omega),Option.bind_some,decide_eq_false (fun h => g4 fun _ => h),if_pos (by decide)]
        exact ⟨fun h => absurd ((FJ t).1 h.1).1.2 g4,fun _ => ⟨_,rfl⟩⟩
      case pos =>
        have hpz : ∃ P : Nat,P ≤ 64 ∧ sz t = 1 + P + (t.un.2.2.2.2.map sz).sum ∧ (if (decide (t.un.1 = 1) || decide (t.un.1 = 5)) = true then (Fv t.un.2.1).bind fun x4 => (if (!x4) = true then some (.inr (false,b - 1)) else (HA t.un.2.1).bind fun x5 => some (.inl (Aq ((b - 1) - x5)))) else some (.inl (b - 1)) : Option (Int ⊕ (Bool × Int))) = some (.inl (b - 1 - P)) := by
          have hlin := g3.1
          unfold FN at hlin
          by_cases hk : t.un.1 = 1 ∨ t.un.1 = 5
          · have ho := g4 hk
            have ho3 := ho.2.2
            refine ⟨t.un.2.1.cnt,by omega,by rw [hse,if_pos (by omega)], ?_⟩
            rw [if_pos (by simpa using hk),Tg (by omega),Option.bind_some,decide_eq_true ho,if_neg (by decide),VJ (by omega),Option.bind_some,Ad (by omega)]
          · refine ⟨0,by omega,by rw [hse,if_neg (by omega)], ?_⟩
            rw [if_neg (by simpa using hk)]; simp
        obtain ⟨P,hP,hsz,e1⟩ := hpz
        rw [e1]
        show (SX t b d → Hw (Af (AD (Ax n) t d) (0,b - 1 - (P : Int))) (fun x6 => some (decide (0 ≤ x6),x6)) = some (true,b - sz t)) ∧ (¬ SX t b d → ∃ b',Hw (Af (AD (Ax n) t d) (0,b - 1 - (P : Int))) (fun x6 => some (decide (0 ≤ x6),x6)) = some (false,b'))
        have key : ∀ (m i : Nat),i + m = t.un.2.2.2.2.length → (∀ x ∈ t.un.2.2.2.2.take i,Gn x = true ∧ (dq x : Int) ≤ d - 1) → (i = 0 ∨ (((t.un.2.2.2.2.take i).map sz).sum : Int) ≤ b - 1 - P) →
            (SX t b d → Hw (Af (AD (Ax n) t d) ((i : Int),b - 1 - P - (((t.un.2.2.2.2.take i).map sz).sum : Nat))) (fun x6 => some (decide (0 ≤ x6),x6)) = some (true,b - sz t)) ∧ (¬ SX t b d → ∃ b',Hw (Af (AD (Ax n) t d) ((i : Int),b - 1 - P - (((t.un.2.2.2.2.take i).map sz).sum : Nat))) (fun x6 => some (decide (0 ≤ x6),x6)) = some (false,b')) := by
          intro m
          induction m with
          | zero =>
            intro i hi hx hs
            have e0 : t.un.2.2.2.2.take i = t.un.2.2.2.2 := List.take_of_length_le (by omega)
            rw [e0] at hx hs ⊢
            rw [An (e := .inl (b - 1 - P - ((t.un.2.2.2.2.map sz).sum : Nat))) (by rw [AD,if_neg (by omega)])]
            have hd : (dq t : Int) ≤ d := by
              have : mx (t.un.2.2.2.2.map dq) ≤ (d - 1).toNat := YQ fun a ha => by
                obtain ⟨x,hm,rfl⟩ := List.mem_map.1 ha
                have := (hx x hm).2
                omega
              omega
            show (_ → some (decide (0 ≤ b - 1 - (P : Int) - ((t.un.2.2.2.2.map sz).sum : Nat)),b - 1 - (P : Int) - ((t.un.2.2.2.2.map sz).sum : Nat)) = _) ∧ (_ → ∃ b',some (decide (0 ≤ b - 1 - (P : Int) - ((t.un.2.2.2.2.map sz).sum : Nat)),b - 1 - (P : Int) - ((t.un.2.2.2.2.map sz).sum : Nat)) = _)
            by_cases q : 0 ≤ b - 1 - (P : Int) - ((t.un.2.2.2.2.map sz).sum : Nat)
            · rw [decide_eq_true q]
              refine ⟨fun _ => by congr 2; omega,fun hn => absurd ⟨(FJ t).2 ⟨⟨g3,g4⟩,fun x hm => (hx x hm).1⟩,hd,by omega⟩ hn⟩
            · rw [decide_eq_false q]
              exact ⟨fun hk => by have := hk.2.2; omega,fun _ => ⟨_,rfl⟩⟩
          | succ m ih =>
            intro i hi hx hs
            have hil : i < t.un.2.2.2.2.length := by omega
            have hm := List.getElem_mem hil
            have hsum : ((t.un.2.2.2.2.take (i + 1)).map sz).sum = ((t.un.2.2.2.2.take i).map sz).sum + sz t.un.2.2.2.2[i] := by
              rw [List.take_succ_eq_append_getElem hil,List.map_append,List.sum_append]; simp
            have hle := Hu (g := sz) t.un.2.2.2.2 (i + 1)
            have h0 : i = 0 → ((t.un.2.2.2.2.take i).map sz).sum = 0 := fun h => by rw [h]; rfl
            obtain ⟨r1,r2⟩ := Th n t.un.2.2.2.2[i] (by have := Yr hm; omega) (Nat.le_trans (cP hm) hc) (b - 1 - P - (((t.un.2.2.2.2.take i).map sz).sum : Nat)) (d - 1) (by omega) (by omega) (by omega) (by omega)
            by_cases g : SX t.un.2.2.2.2[i] (b - 1 - P - (((t.un.2.2.2.2.take i).map sz).sum : Nat)) (d - 1)
            · have hg2 := g.2.2
              have hstep : AD (Ax n) t d ((i : Int),b - 1 - P - (((t.un.2.2.2.2.take i).map sz).sum : Nat)) = some (.inl (((i + 1 : Nat) : Int),b - 1 - P - (((t.un.2.2.2.2.take (i + 1)).map sz).sum : Nat))) := by
                rw [AD,if_pos (by omega),A7 (List.getElem?_eq_getElem hil),Option.bind_some,NM,Qc,Ad (by omega),r1 g,Option.bind_some,if_neg (show ¬ (!true) = true by decide),Ad (by omega),hsum]
                show some (Sum.inl (_,_)) = _
                congr 3; omega
              rw [A0 hstep]
              refine ih (i + 1) (by omega) (fun x hxm => ?_) (by omega)
              rw [List.take_succ_eq_append_getElem hil] at hxm
              rcases List.mem_append.1 hxm with hh | hh
              · exact hx x hh
              · rw [List.mem_singleton.1 hh]; exact ⟨g.1,g.2.1⟩
            · obtain ⟨b',hb'⟩ := r2 g
              have hno : ¬ SX t b d := fun hk => g ⟨((FJ t).1 hk.1).2 _ hm,by
                have h1 := lA (List.mem_map.2 ⟨_,hm,rfl⟩ : dq t.un.2.2.2.2[i] ∈ t.un.2.2.2.2.map dq)
                have := hk.2.1
                omega,by have := hk.2.2; omega⟩
              refine ⟨fun hk => absurd hk hno,fun _ => ⟨b', ?_⟩⟩
              rw [An (e := .inr (false,b')) (by
                rw [AD,if_pos (by omega),A7 (List.getElem?_eq_getElem hil),Option.bind_some,NM,Qc,Ad (by omega),hb',Option.bind_some,if_pos (by rfl)])]
              rfl
        have := key t.un.2.2.2.2.length 0 (by omega) (by simp) (.inl rfl)
        simpa using this
abbrev vB (t : Tr37) : Prop := SX t 64 8 ∧ wd t ≤ 64
open Classical in
theorem dD {t : Tr37} (hc : t.cnt ≤ 1048576) : DE t = some (decide (vB t)) := by
  obtain ⟨h1,h2⟩ := Th (SizeOf.sizeOf t + 1) t (by omega) hc 64 8 (by omega) (by omega) (by omega) (by omega)
  unfold DE
  rw [NM,Qc]
  by_cases g : SX t 64 8
  · rw [show DH 64 t 8 = some (true,(64 - sz t : Int)) from Bq (g := fun n => Ax n 64 t 8) (fun n r h => Dq n 64 t 8 r h) (h1 g),Option.bind_some,if_pos rfl,WY hc,Option.bind_some,Option.bind_some]
    exact congrArg some (decide_eq_decide.2 ⟨fun h => ⟨g,h⟩,fun h => h.2⟩)
  · obtain ⟨b',hb⟩ := h2 g
    rw [show DH 64 t 8 = some (false,b') from Bq (g := fun n => Ax n 64 t 8) (fun n r h => Dq n 64 t 8 r h) hb,Option.bind_some,if_neg (show ¬ false = true by decide),Option.bind_some,decide_eq_false (fun h => g h.1)]
theorem TU : ∀ (n : Nat) (t : Tr27),SizeOf.sizeOf t < n → t.cnt ≤ 1048576 → Ea n t = some (Gn (pm t))
  | 0,t,h,_ => absurd h (Nat.not_lt_zero _)
  | n + 1, t, h, hc => by
    have hl := lD t
    have hq := qD t
    have htb := IV t.un.2.2.1
    show Fh (Ea n) t = _
    unfold Fh
    have no : ¬ aV t.un.1 (mi t.un.2.1) t.un.2.2.1 t.un.2.2.2.1 t.un.2.2.2.2.length → Gn (pm t) = false := fun hn => by
      cases hh : Gn (pm t) with
      | false => rfl
      | true => exact absurd ((Mv t).1 hh).1 hn
    by_cases g1 : (decide (t.un.1 < 1) || (decide (5 < t.un.1) || (decide (t.un.1 ≠ 2) && (decide (t.un.2.2.1 ≠ 0) || decide (t.un.2.2.2.1 ≠ 0))))) = true
    · rw [if_pos g1,no (fun hf => by
        have := hf.1.1
        unfold FN at this
        simp only [Bool.and_eq_true,Bool.or_eq_true,decide_eq_true_eq] at g1
        omega)]
    rw [if_neg g1]
    simp only [Bool.and_eq_true,Bool.or_eq_true,decide_eq_true_eq,not_or,not_and] at g1
    have hask : ∃ x : Bool,(if (decide (t.un.1 = 1) || decide (t.un.1 = 5)) = true then (Hd (f24 t.un.2.1)).bind fun x2 => (if (!x2) = true then some true else some false) else (Ka (f24 t.un.2.1) (Tr24.of (0,0,0,([] : List Tr24)))).bind fun x3 => some (!x3)) = some x ∧ (x = false ↔ (t.un.1 = 2 ∨ t.un.1 = 3 ∨ t.un.1 = 4 → mi t.un.2.1 = ZP) ∧ (t.un.1 = 1 ∨ t.un.1 = 5 → NU (mi t.un.2.1) 64 8)) := by
      rw [S5,ZG (by omega),Wp (by omega)]
      by_cases hk : t.un.1 = 1 ∨ t.un.1 = 5
      · rw [if_pos (by simpa using hk),Option.bind_some]
        by_cases ho : NU (mi t.un.2.1) 64 8
        · rw [decide_eq_true ho,if_neg (by decide)]
          exact ⟨false,rfl,⟨fun _ => ⟨fun h => by omega,fun _ => ho⟩,fun _ => rfl⟩⟩
        · rw [decide_eq_false ho,if_pos (by decide)]
          exact ⟨true,rfl,⟨(fun h => nomatch h),fun h => absurd (h.2 hk) ho⟩⟩
      · rw [if_neg (by simpa using hk),Option.bind_some]
        by_cases hz : t.un.2.1 = ZD
        · refine ⟨false, ?_, ?_⟩
          · rw [@decide_eq_true _ (_) hz]; rfl
          · exact ⟨fun _ => ⟨fun _ => mi_Z'.2 hz,fun h => absurd h hk⟩,fun _ => rfl⟩
        · refine ⟨true, ?_, ?_⟩
          · rw [@decide_eq_false _ (_) hz]; rfl
          · exact ⟨(fun h => nomatch h),fun h => absurd (mi_Z'.1 (h.1 (by omega))) hz⟩
    obtain ⟨x,hx1,hx2⟩ := hask
    rw [hx1,Option.bind_some]
    cases x with
    | true =>
      rw [if_pos rfl,no (fun hf => by have := hx2.2 ⟨hf.1.2,hf.2⟩; cases this)]
    | false =>
      obtain ⟨ha,hb⟩ := hx2.1 rfl
      rw [if_neg (by decide)]
      by_cases g2 : (decide (t.un.1 = 2) && (decide (t.un.2.2.1 < 0) || (decide (4 < t.un.2.2.1) || (decide (t.un.2.2.2.1 < 0) || decide ((CF t.un.2.2.1) < t.un.2.2.2.1))))) = true
      · rw [if_pos g2,no (fun hf => by
          have := hf.1.1
          unfold FN at this
          simp only [Bool.and_eq_true,Bool.or_eq_true,decide_eq_true_eq] at g2
          omega)]
      rw [if_neg g2]
      simp only [Bool.and_eq_true,Bool.or_eq_true,decide_eq_true_eq,not_or,not_and] at g2
      have hlen : ∃ y : Bool,(bif decide (t.un.1 ≤ 2) then (decide ((t.un.2.2.2.2.length : Int) ≠ 0) || (bif decide (t.un.1 = 5) then (decide ((t.un.2.2.2.2.length : Int) ≠ 2) || (bif decide (t.un.1 = 3) then (decide ((t.un.2.2.2.2.length : Int) < 2) || decide (8 < (t.un.2.2.2.2.length : Int))) else (decide (t.un.1 = 4) && (decide ((t.un.2.2.2.2.length : Int) < 2) || decide (8 < (t.un.2.2.2.2.length : Int)))))) else (bif decide (t.un.1 = 3) then (decide ((t.un.2.2.2.2.length : Int) < 2) || decide (8 < (t.un.2.2.2.2.length : Int))) else (decide (t.un.1 = 4) && (decide ((t.un.2.2.2.2.length : Int) < 2) || decide (8 < (t.un.2.2.2.2.length : Int))))))) else (bif decide (t.un.1 = 5) then (decide ((t.un.2.2.2.2.length : Int) ≠ 2) || (bif decide (t.un.1 = 3) then (decide ((t.un.2.2.2.2.length : Int) < 2) || decide (8 < (t.un.2.2.2.2.length : Int))) else (decide (t.un.1 = 4) && (decide ((t.un.2.2.2.2.length : Int) < 2) || decide (8 < (t.un.2.2.2.2.length : Int)))))) else (bif decide (t.un.1 = 3) then (decide ((t.un.2.2.2.2.length : Int) < 2) || decide (8 < (t.un.2.2.2.2.length : Int))) else (decide (t.un.1 = 4) && (decide ((t.un.2.2.2.2.length : Int) < 2) || decide (8 < (t.un.2.2.2.2.length : Int))))))) = y ∧ (y = false ↔ FN t.un.1 t.un.2.2.1 t.un.2.2.2.1 t.un.2.2.2.2.length) := by
        refine ⟨_,rfl, ?_⟩
        have hk : t.un.1 = 1 ∨ t.un.1 = 2 ∨ t.un.1 = 3 ∨ t.un.1 = 4 ∨ t.un.1 = 5 := by omega
        unfold FN
        rcases hk with h | h | h | h | h <;> rw [h] at g1 g2 ⊢ <;> simp <;> omega
      obtain ⟨y,hy1,hy2⟩ := hlen
      rw [hy1]
      cases y with
      | true => rw [if_pos rfl,no (fun hf => by have := hy2.2 hf.1.1; cases this)]
      | false =>
        have hlin := hy2.1 rfl
        rw [if_neg (by decide)]
        have hx : ∀ x ∈ t.un.2.2.2.2,Ea n x = some (Gn (pm x)) := fun x hm => TU n x (by have := aI hm; omega) (Nat.le_trans (cD hm) hc)
        rw [Mo t.un.2.2.2.2 (by omega) (Fj (Ea n) t) (fun x => Gn (pm x) = false) false (fun k hk => by
          rw [Fj,if_pos (by omega),A7 (List.getElem?_eq_getElem hk),Option.bind_some,S5,W2,hx _ (List.getElem_mem hk),Option.bind_some]
          cases hq : Gn (pm t.un.2.2.2.2[k]) with
          | true => rw [if_neg (by decide),if_neg (by decide)]
          | false => rw [if_pos (by decide),if_pos rfl]) (by rw [Fj,if_neg (by omega)])]
        by_cases e : ∃ e ∈ t.un.2.2.2.2,Gn (pm e) = false
        · rw [if_pos e]
          obtain ⟨x,hxm,hxf⟩ := e
          have : Gn (pm t) = false := by
            cases hh : Gn (pm t) with
            | false => rfl
            | true => rw [((Mv t).1 hh).2 x hxm] at hxf; cases hxf
          rw [this]; rfl
        · rw [if_neg e]
          have : Gn (pm t) = true := (Mv t).2 ⟨⟨⟨hlin,ha⟩,hb⟩,fun x hxm => by
            cases hh : Gn (pm x) with
            | true => rfl
            | false => exact absurd ⟨x,hxm,hh⟩ e⟩
          rw [this]; rfl
open Classical in
theorem f5 {t : Tr27} (hc : t.cnt ≤ 1048576) : Ke t = some (decide (vB (pm t))) := by
  unfold Ke
  rw [S5,W2,show Ov t = some (Gn (pm t)) from Bq (g := fun n => Ea n t) (fun n r h => MZ n t r h) (TU (SizeOf.sizeOf t + 1) t (by omega) hc),Option.bind_some,QL hc,Qx hc,VT hc]
  simp only [Option.bind_some]
  by_cases hf : Gn (pm t) = true
  case neg => rw [if_neg hf,Option.bind_some,decide_eq_false (fun h => hf h.1.1)]
  case pos =>
    rw [if_pos hf]
    by_cases c : (dq (pm t) : Int) ≤ 8
    · rw [if_pos c]
      by_cases c2 : (sz (pm t) : Int) ≤ 64
      · rw [if_pos c2,Option.bind_some]
        exact congrArg some (decide_eq_decide.2 ⟨fun h => ⟨⟨hf,c,c2⟩,h⟩,fun h => h.2⟩)
      · rw [if_neg c2,Option.bind_some,decide_eq_false (fun h => c2 h.1.2.2)]
    · rw [if_neg c,Option.bind_some,decide_eq_false (fun h => c h.1.2.1)]
end Go.Proofs.YtpckgggmgijiiaaGreatDoor
