/- Layer 27: PolicyTells. Conditions: none. -/
import Derived.Test.YtpckgggmgijiiaaGreatDooreN27D
import Derived.Test.YtpckgggmgijiiaaGreatDooreN27U
import Derived.Test.YtpckgggmgijiiaaGreatDooreN27V
namespace Go.Proofs.YtpckgggmgijiiaaGreatDoor
set_option linter.unusedVariables false
set_option linter.unusedSimpArgs false
open Go Go.RowKit
theorem xO (t : Tr37) : De t = decide (t.un.1 < 2 ∨ 4 < t.un.1) := by
  unfold De
  rw [Bool.eq_iff_iff]
  simp only [Bool.and_eq_true,decide_eq_true_eq]; omega
theorem TW : ∀ (n : Nat) (t : Tr37),SizeOf.sizeOf t < n → t.cnt ≤ 1048576 → C5 n t = some (sz t : Int)
  | 0,t,h,_ => absurd h (Nat.not_lt_zero _)
  | n + 1, t, h, hc => by
    have hl := lP t
    have hq := qP t
    have hs := zX t
    have hse := Nz t
    show Ef (C5 n) t = _
    unfold Ef
    have e1 : (if (De t) = true then (HA t.un.2.1).bind fun x2 => some (Aq (1 + x2)) else some 1) = some (1 + ((if t.un.1 < 2 ∨ 4 < t.un.1 then t.un.2.1.cnt else 0 : Nat) : Int)) := by
      rw [xO,VJ (by omega),Option.bind_some,Ad (by omega)]
      by_cases c : t.un.1 < 2 ∨ 4 < t.un.1
      · rw [if_pos (decide_eq_true c),if_pos c]
      · rw [if_neg (by simpa using c),if_neg c]; rfl
    rw [NM,Qc,e1,Option.bind_some]
    obtain ⟨o,h1,h2⟩ := CR t.un.2.2.2.2.length (fun (o : Int) (i : Nat) => (o,(i : Int))) (CS (C5 n) t) id (fun o i => o = 1 + ((if t.un.1 < 2 ∨ 4 < t.un.1 then t.un.2.1.cnt else 0 : Nat) : Int) + (((t.un.2.2.2.2.take i).map sz).sum : Nat))
      (fun o i hi ho => by
        have hm := List.getElem_mem hi
        have hx := TW n t.un.2.2.2.2[i] (by have := Yr hm; omega) (Nat.le_trans (cP hm) hc)
        have hs2 : ((t.un.2.2.2.2.take (i + 1)).map sz).sum = ((t.un.2.2.2.2.take i).map sz).sum + sz t.un.2.2.2.2[i] := by
          rw [List.take_succ_eq_append_getElem hi,List.map_append,List.sum_append]; simp
        have hle := Hu (g := sz) t.un.2.2.2.2 (i + 1)
        refine ⟨o + (sz t.un.2.2.2.2[i] : Int), ?_,by rw [ho,hs2]; omega⟩
        rw [CS,if_pos (by omega),A7 (List.getElem?_eq_getElem hi),Option.bind_some,NM,Qc,hx,Option.bind_some,Ad (by rw [ho]; omega),Ad (by omega)]; rfl)
      (fun o _ => by rw [CS,if_neg (by omega)]; rfl) (1 + ((if t.un.1 < 2 ∨ 4 < t.un.1 then t.un.2.1.cnt else 0 : Nat) : Int)) (by simp)
    rw [List.take_length] at h1
    have h2' : Af (CS (C5 n) t) (1 + ((if t.un.1 < 2 ∨ 4 < t.un.1 then t.un.2.1.cnt else 0 : Nat) : Int),0) = some o := h2
    rw [h2',h1,Option.bind_some,hse]
    exact congrArg some (by omega)
theorem Xn {t : Tr37} (hc : t.cnt ≤ 1048576) : LF t = some (sz t : Int) := Bq (g := fun n => C5 n t) (fun n r h => Kc n t r h) (TW (SizeOf.sizeOf t + 1) t (by omega) hc)
theorem TV : ∀ (n : Nat) (t : Tr37),SizeOf.sizeOf t < n → t.cnt ≤ 1048576 → C3 n t = some (dq t : Int)
  | 0,t,h,_ => absurd h (Nat.not_lt_zero _)
  | n + 1,t,h,hc => by
    have hl := lP t
    have hd := dqc t
    have hde := Yz t
    show Ej (C3 n) t = _
    unfold Ej
    obtain ⟨o,h1,h2⟩ := CR t.un.2.2.2.2.length (fun (o : Int) (i : Nat) => (o,(i : Int))) (CO (C3 n) t) id (fun o i => o = (mx ((t.un.2.2.2.2.take i).map dq) : Nat))
      (fun o i hi ho => by
        have hm := List.getElem_mem hi
        have hx := TV n t.un.2.2.2.2[i] (by have := Yr hm; omega) (Nat.le_trans (cP hm) hc)
        refine ⟨max o (dq t.un.2.2.2.2[i] : Int), ?_,by rw [ho,List.take_succ_eq_append_getElem hi,List.map_append,List.map_cons,List.map_nil,T5]; omega⟩
        rw [CO,if_pos (by omega),A7 (List.getElem?_eq_getElem hi),Option.bind_some,NM,Qc,hx,Option.bind_some,Ad (by omega)]; rfl)
      (fun o _ => by rw [CO,if_neg (by omega)]; rfl) 0 (by simp [mx])
    rw [List.take_length] at h1
    have h2' : Af (CO (C3 n) t) (0,0) = some o := h2
    rw [h2',h1,Option.bind_some,Ad (by omega),hde]
    exact congrArg some (by omega)
theorem Xm {t : Tr37} (hc : t.cnt ≤ 1048576) : LI t = some (dq t : Int) := Bq (g := fun n => C3 n t) (fun n r h => Kb n t r h) (TV (SizeOf.sizeOf t + 1) t (by omega) hc)
theorem YV : ∀ (n : Nat) (t : Tr27),SizeOf.sizeOf t < n → t.cnt ≤ 1048576 → D2 n t = some (t.cnt : Int)
  | 0,t,h,_ => absurd h (Nat.not_lt_zero _)
  | n + 1, t, h, hc => by
    have hl := lD t
    have hq := qD t
    have hce := ZJ t
    show Ft (D2 n) t = _
    unfold Ft
    rw [S5,Ry (by omega),Option.bind_some,Ad (by omega)]
    obtain ⟨o,h1,h2⟩ := CR t.un.2.2.2.2.length (fun (o : Int) (i : Nat) => (o,(i : Int))) (DD (D2 n) t) id (fun o i => o = 1 + (t.un.2.1.cnt : Int) + (((t.un.2.2.2.2.take i).map Tr27.cnt).sum : Nat))
      (fun o i hi ho => by
        have hm := List.getElem_mem hi
        have hx := YV n t.un.2.2.2.2[i] (by have := aI hm; omega) (Nat.le_trans (cD hm) hc)
        have hs2 : ((t.un.2.2.2.2.take (i + 1)).map Tr27.cnt).sum = ((t.un.2.2.2.2.take i).map Tr27.cnt).sum + t.un.2.2.2.2[i].cnt := by
          rw [List.take_succ_eq_append_getElem hi,List.map_append,List.sum_append]; simp
        have hle := Hu (g := Tr27.cnt) t.un.2.2.2.2 (i + 1)
        refine ⟨o + (t.un.2.2.2.2[i].cnt : Int), ?_,by rw [ho,hs2]; omega⟩
        rw [DD,if_pos (by omega),A7 (List.getElem?_eq_getElem hi),Option.bind_some,S5,W2,hx,Option.bind_some,Ad (by rw [ho]; omega),Ad (by omega)]; rfl)
      (fun o _ => by rw [DD,if_neg (by omega)]; rfl) (1 + (t.un.2.1.cnt : Int)) (by simp)
    rw [List.take_length] at h1
    have h2' : Af (DD (D2 n) t) (1 + (t.un.2.1.cnt : Int),0) = some o := h2
    rw [h2',h1,Option.bind_some,hce]
    exact congrArg some (by omega)
theorem WF {t : Tr27} (hc : t.cnt ≤ 1048576) : Mu t = some (t.cnt : Int) := Bq (g := fun n => D2 n t) (fun n r h => LP n t r h) (YV (SizeOf.sizeOf t + 1) t (by omega) hc)
theorem tC {a b : Tr37} (h1 : a.un.1 = b.un.1) (h2 : a.un.2.1 = b.un.2.1) (h3 : a.un.2.2.1 = b.un.2.2.1) (h4 : a.un.2.2.2.1 = b.un.2.2.2.1) (h5 : a.un.2.2.2.2 = b.un.2.2.2.2) : a = b := by
  rw [← Qc a, ← Qc b,h1,h2,h3,h4,h5]
theorem t7 {a b : Tr27} (h1 : a.un.1 = b.un.1) (h2 : a.un.2.1 = b.un.2.1) (h3 : a.un.2.2.1 = b.un.2.2.1) (h4 : a.un.2.2.2.1 = b.un.2.2.2.1) (h5 : a.un.2.2.2.2 = b.un.2.2.2.2) : a = b := by
  rw [← W2 a, ← W2 b,h1,h2,h3,h4,h5]
open Classical in
theorem Tz : ∀ (n : Nat) (a b : Tr37),SizeOf.sizeOf a < n → a.cnt ≤ 1048576 → DC n a b = some (decide (a = b))
  | 0,a,b,h,_ => absurd h (Nat.not_lt_zero _)
  | n + 1, a, b, h, hc => by
    have hl := lP a
    have hq := qP a
    show Ee (DC n) a b = _
    unfold Ee
    by_cases c1 : a.un.1 = b.un.1
    · rw [if_pos c1]
      by_cases c2 : a.un.2.2.1 = b.un.2.2.1
      · rw [if_pos c2]
        by_cases c3 : a.un.2.2.2.1 = b.un.2.2.2.1
        · rw [if_pos c3,NM,NM,WK (by omega),Option.bind_some]
          by_cases c5 : a.un.2.1 = b.un.2.1
          · rw [decide_eq_true c5,if_pos rfl]
            unfold Ao
            by_cases c4 : a.un.2.2.2.2.length = b.un.2.2.2.2.length
            · rw [if_neg (by omega)]
              rw [HL a.un.2.2.2.2.length (Ai (DC n) a.un.2.2.2.2 b.un.2.2.2.2) (fun k => a.un.2.2.2.2[k]? ≠ b.un.2.2.2.2[k]?) false (fun k hk => by
                have hm := List.getElem_mem hk
                have hkb : k < b.un.2.2.2.2.length := by omega
                have hx := Tz n a.un.2.2.2.2[k] b.un.2.2.2.2[k] (by have := Yr hm; omega) (Nat.le_trans (cP hm) hc)
                rw [Ai,if_pos (by omega),A7 (List.getElem?_eq_getElem hk),Option.bind_some,A7 (List.getElem?_eq_getElem hkb),Option.bind_some]
                simp only [NM,Qc]
                rw [hx,Option.bind_some,Ad (by omega)]
                by_cases e : a.un.2.2.2.2[k] = b.un.2.2.2.2[k]
                · rw [decide_eq_true e,if_neg (by decide),if_neg (by rw [List.getElem?_eq_getElem hk,List.getElem?_eq_getElem hkb,e]; simp)]; rfl
                · rw [decide_eq_false e,if_pos (by decide),if_pos (by rw [List.getElem?_eq_getElem hk,List.getElem?_eq_getElem hkb]; simpa using e)]) (by rw [Ai,if_neg (by omega)])]
              by_cases e : a.un.2.2.2.2 = b.un.2.2.2.2
              · rw [if_neg (fun hh => (Jo c4).1 hh e),decide_eq_true (tC c1 c5 c2 c3 e)]; rfl
              · rw [if_pos ((Jo c4).2 e),decide_eq_false (fun hh => e (by rw [hh]))]; rfl
            · rw [if_pos (by omega),decide_eq_false (fun hh => c4 (by rw [hh]))]; rfl
          · rw [decide_eq_false c5,if_neg (by decide),decide_eq_false (fun hh => c5 (by rw [hh]))]; rfl
        · rw [if_neg c3,decide_eq_false (fun hh => c3 (by rw [hh]))]; rfl
      · rw [if_neg c2,decide_eq_false (fun hh => c2 (by rw [hh]))]; rfl
    · rw [if_neg c1,decide_eq_false (fun hh => c1 (by rw [hh]))]; rfl
open Classical in
theorem XC {a b : Tr37} (hc : a.cnt ≤ 1048576) : LO a b = some (decide (a = b)) := Bq (g := fun n => DC n a b) (fun n r h => J5 n a b r h) (Tz (SizeOf.sizeOf a + 1) a b (by omega) hc)
open Classical in
theorem TD : ∀ (n : Nat) (a b : Tr27),SizeOf.sizeOf a < n → a.cnt ≤ 1048576 → Fw n a b = some (decide (a = b))
  | 0,a,b,h,_ => absurd h (Nat.not_lt_zero _)
  | n + 1, a, b, h, hc => by
    have hl := lD a
    have hq := qD a
    show F8 (Fw n) a b = _
    unfold F8
    by_cases c1 : a.un.1 = b.un.1
    · rw [if_neg (fun h => h c1)]
      by_cases c2 : a.un.2.2.1 = b.un.2.2.1
      · rw [if_neg (fun h => h c2)]
        by_cases c3 : a.un.2.2.2.1 = b.un.2.2.2.1
        · rw [if_neg (fun h => h c3),S5,S5,Wp (by omega),Option.bind_some]
          by_cases c5 : a.un.2.1 = b.un.2.1
          · rw [decide_eq_true c5,if_neg (by decide),Option.bind_some]
            by_cases c4 : a.un.2.2.2.2.length = b.un.2.2.2.2.length
            · rw [if_neg (by simp [c4])]
              rw [HL a.un.2.2.2.2.length (F2 (Fw n) a b) (fun k => a.un.2.2.2.2[k]? ≠ b.un.2.2.2.2[k]?) false (fun k hk => by
                have hm := List.getElem_mem hk
                have hkb : k < b.un.2.2.2.2.length := by omega
                have hx := TD n a.un.2.2.2.2[k] b.un.2.2.2.2[k] (by have := aI hm; omega) (Nat.le_trans (cD hm) hc)
                rw [F2,if_pos (by omega),A7 (List.getElem?_eq_getElem hk),Option.bind_some,A7 (List.getElem?_eq_getElem hkb),Option.bind_some]
                simp only [S5,W2]
                rw [hx,Option.bind_some,Ad (by omega)]
                by_cases e : a.un.2.2.2.2[k] = b.un.2.2.2.2[k]
                · rw [decide_eq_true e,if_neg (by decide),if_neg (by rw [List.getElem?_eq_getElem hk,List.getElem?_eq_getElem hkb,e]; simp)]; rfl
                · rw [decide_eq_false e,if_pos (by decide),if_pos (by rw [List.getElem?_eq_getElem hk,List.getElem?_eq_getElem hkb]; simpa using e)]) (by rw [F2,if_neg (by omega)])]
              by_cases e : a.un.2.2.2.2 = b.un.2.2.2.2
              · rw [if_neg (fun hh => (Jo c4).1 hh e),decide_eq_true (t7 c1 c5 c2 c3 e)]; rfl
              · rw [if_pos ((Jo c4).2 e),decide_eq_false (fun hh => e (by rw [hh]))]; rfl
            · rw [if_pos (decide_eq_true (by omega)),decide_eq_false (fun hh => c4 (by rw [hh]))]
          · rw [decide_eq_false c5,if_pos (by decide),Option.bind_some,if_pos rfl,decide_eq_false (fun hh => c5 (by rw [hh]))]
        · rw [if_pos c3,Option.bind_some,if_pos rfl,decide_eq_false (fun hh => c3 (by rw [hh]))]
      · rw [if_pos c2,Option.bind_some,if_pos rfl,decide_eq_false (fun hh => c2 (by rw [hh]))]
    · rw [if_pos c1,Option.bind_some,if_pos rfl,decide_eq_false (fun hh => c1 (by rw [hh]))]
open Classical in
theorem Xf {a b : Tr27} (hc : a.cnt ≤ 1048576) : Sf a b = some (decide (a = b)) := Bq (g := fun n => Fw n a b) (fun n r h => M7 n a b r h) (TD (SizeOf.sizeOf a + 1) a b (by omega) hc)
theorem eZ : ∀ (n : Nat) (t : Tr27),SizeOf.sizeOf t < n → pt (pm t) = t
  | 0,t,h => absurd h (Nat.not_lt_zero _)
  | n + 1,t,h => by
    rw [rG,Li]
    show Tr27.of (t.un.1,th (mi t.un.2.1),t.un.2.2.1,t.un.2.2.2.1,(t.un.2.2.2.2.map pm).map pt) = t
    have e2 : (t.un.2.2.2.2.map pm).map pt = t.un.2.2.2.2 := by
      rw [List.map_map]
      exact (List.map_congr_left fun x hx => eZ n x (by have := aI hx; omega)).trans (List.map_id _)
    rw [th_mi',e2,W2]
theorem nB {a b : Tr27} (h : pm a = pm b) : a = b := by rw [← eZ (SizeOf.sizeOf a + 1) a (by omega),h,eZ (SizeOf.sizeOf b + 1) b (by omega)]
theorem ZE {t : Tr27} (hc : t.cnt ≤ 1048576) (f : Int) : KQ t f = some (RP f (pm t) ((CF f).toNat + 1)) := by
  have htb := IV f
  unfold KQ
  obtain ⟨o,h1,h2⟩ := CR ((CF f).toNat + 1) (fun (o : List Int) (i : Nat) => (o,(i : Int))) (GH t f) id (fun o i => o = RP f (pm t) i)
    (fun o i hi ho => by
      have hvl := Vn f (pm t) i
      refine ⟨RP f (pm t) (i + 1), ?_,rfl⟩
      rw [GH,if_pos (by omega),S5,W2,pJ hc,Option.bind_some,Ad (by omega),ZH,ho]
      by_cases c : (i : Int) ∈ us f (pm t)
      · rw [decide_eq_true c,if_pos rfl,if_pos c,Bv (by simp; omega)]; rfl
      · rw [decide_eq_false c,if_neg (by decide),if_neg c,List.append_nil]; rfl)
    (fun o _ => by rw [GH,if_neg (by omega)]; rfl) [] rfl
  have h2' : Af (GH t f) ([],0) = some o := h2
  rw [h2',h1]; rfl
theorem mB {k n w : Int} (hn : 0 ≤ n ∧ n ≤ 1000) (hw : 1 ≤ w ∧ w ≤ 1000) : n ≤ wf k n w ∧ wf k n w ≤ 1000 := by
  unfold wf
  split
  · have : n * 1 ≤ n * w := Int.mul_le_mul_of_nonneg_left hw.1 hn.1
    omega
  · split <;> omega
theorem uA {k n w : Int} (hn : 0 ≤ n ∧ n ≤ 1000) (hk : k = 3 → 1 ≤ n) (hw : 1 ≤ w ∧ w ≤ 1000) : w ≤ wf k n w := by
  unfold wf
  split
  · rename_i h
    have : 1 * w ≤ n * w := Int.mul_le_mul_of_nonneg_right (hk h) (by omega)
    omega
  · split <;> omega
theorem OI {k : Int} : ∀ (l : List Int) (n : Int),0 ≤ n ∧ n ≤ 1000 → (∀ w ∈ l,1 ≤ w ∧ w ≤ 1000) → n ≤ l.foldl (wf k) n ∧ l.foldl (wf k) n ≤ 1000
  | [],n,hn,_ => ⟨Int.le_refl _,hn.2⟩
  | w :: l,n,hn,h => by
    have h1 := mB (k := k) hn (h w (List.mem_cons_self ..))
    have h2 := OI (k := k) l (wf k n w) ⟨by omega,h1.2⟩ fun x hx => h x (List.mem_cons_of_mem _ hx)
    exact ⟨by show n ≤ l.foldl (wf k) (wf k n w); omega,h2.2⟩
theorem Yj {k n x : Int} {l : List Int} (hn : 0 ≤ n ∧ n ≤ 1000) (hk : k = 3 → 1 ≤ n) (h : ∀ w ∈ l,1 ≤ w ∧ w ≤ 1000) (hx : x ∈ l) : x ≤ l.foldl (wf k) n := by
  obtain ⟨a,b,rfl⟩ := List.append_of_mem hx
  have h1 := OI (k := k) a n hn fun w hw => h w (List.mem_append_left _ hw)
  have hxw := h x hx
  have h2 := uA (k := k) (n := a.foldl (wf k) n) ⟨by omega,h1.2⟩ (fun e => by have := hk e; omega) hxw
  have h3 := mB (k := k) (n := a.foldl (wf k) n) ⟨by omega,h1.2⟩ hxw
  have h4 := OI (k := k) b (wf k (a.foldl (wf k) n) x) ⟨by omega,h3.2⟩ fun w hw => h w (List.mem_append_right _ (List.mem_cons_of_mem _ hw))
  rw [List.foldl_append]
  show x ≤ b.foldl (wf k) (wf k (a.foldl (wf k) n) x)
  omega
theorem bS : ∀ (n : Nat) (t : Tr37),SizeOf.sizeOf t < n → Gn t = true → 1 ≤ wd t
  | 0,t,h,_ => absurd h (Nat.not_lt_zero _)
  | n + 1,t,h,hf => by
    obtain ⟨⟨⟨h1,_⟩,_⟩,h2⟩ := (FJ t).1 hf
    unfold FN at h1
    rw [Tu]
    split
    · rename_i hk
      have hw : ∀ w ∈ t.un.2.2.2.2.map wd,1 ≤ w ∧ w ≤ 1000 := fun w hw => by
        obtain ⟨x,hx,rfl⟩ := List.mem_map.1 hw
        exact ⟨bS n x (by have := Yr hx; omega) (h2 x hx),(lQ x).2⟩
      have hne : ∃ x,x ∈ t.un.2.2.2.2.map wd := by
        cases hl : t.un.2.2.2.2 with
        | nil => rw [hl] at h1; simp at h1; omega
        | cons y l => exact ⟨wd y,by simp⟩
      obtain ⟨x,hx⟩ := hne
      have := Yj (k := t.un.1) (n := w0 t.un.1) (Tx _) (fun e => by rw [e]; decide) hw hx
      have := (hw x hx).1
      omega
    · exact Int.le_refl _
theorem c9 {t : Tr37} (hf : Gn t = true) : ∀ w ∈ t.un.2.2.2.2.map wd,1 ≤ w ∧ w ≤ 1000 := fun w hw => by
  obtain ⟨x,hx,rfl⟩ := List.mem_map.1 hw
  exact ⟨bS (SizeOf.sizeOf x + 1) x (by omega) (((FJ t).1 hf).2 x hx),(lQ x).2⟩
theorem X9 {t : Tr37} (hf : Gn t = true) {x : Tr37} (hx : x ∈ t.un.2.2.2.2) : wd x ≤ wd t := by
  obtain ⟨⟨⟨h1,_⟩,_⟩,h2⟩ := (FJ t).1 hf
  unfold FN at h1
  have hl : 0 < t.un.2.2.2.2.length := List.length_pos_of_mem hx
  rw [Tu t,if_pos (by omega)]
  exact Yj (Tx _) (fun e => by rw [e]; decide) (c9 hf) (List.mem_map.2 ⟨x,hx,rfl⟩)
theorem Ti {k n : Int} {l : List Int} (hn : 0 ≤ n ∧ n ≤ 1000) (h : ∀ w ∈ l,1 ≤ w ∧ w ≤ 1000) (j : Nat) : (l.take j).foldl (wf k) n ≤ l.foldl (wf k) n := by
  have h1 := OI (k := k) (l.take j) n hn fun w hw => h w (List.mem_of_mem_take hw)
  have h2 := OI (k := k) (l.drop j) ((l.take j).foldl (wf k) n) ⟨by omega,h1.2⟩ fun w hw => h w (List.mem_of_mem_drop hw)
  rw [← List.foldl_append,List.take_append_drop] at h2
  exact h2.1
theorem Pe {α β σ : Type} (F : β → σ → Option σ) (g : α → β) : ∀ (l : List α) (c : σ),FH F (l.map g) c = FH (fun x => F (g x)) l c
  | [],_ => rfl
  | x :: l,c => by
    show (F (g x) c).bind _ = (F (g x) c).bind _
    congr 1; funext c'; exact Pe F g l c'
theorem L9 {α σ : Type} {F G : α → σ → Option σ} : ∀ {l : List α} {c : σ},(∀ x ∈ l, ∀ c,F x c = G x c) → FH F l c = FH G l c
  | [],_,_ => rfl
  | x :: l,c,h => by
    show (F x c).bind _ = (G x c).bind _
    rw [h x (List.mem_cons_self ..) c]
    congr 1; funext c'; exact L9 fun y hy => h y (List.mem_cons_of_mem _ hy)
theorem mK : ∀ (n : Nat) (t : Tr27),SizeOf.sizeOf t < n → t.cnt ≤ 1048576 → Gn (pm t) = true → wd (pm t) ≤ 64 → ∀ (sw : Int) (s : Se), ∃ S,AQ n (pm t) sw s = some S ∧ DM n t sw s.1 s.2 = some S ∧ KY AC S ∧ Bd S (wd (pm t))
  | 0,t,h,_,_,_,_,_ => absurd h (Nat.not_lt_zero _)
  | n + 1, t, h, hc, hf, hw, sw, s => by
    have hl := lD t
    have hq := qD t
    have hfi : Fi (pm t) := lL (SizeOf.sizeOf (pm t) + 1) (pm t) (by omega) (by rw [uF]; exact hc) hf
    have hu := Li t
    have hkids := ((Mv t).1 hf).2
    have u1 : (pm t).un.1 = t.un.1 := by rw [hu]
    have u3 : (pm t).un.2.2.1 = t.un.2.2.1 := by rw [hu]
    have u4 : (pm t).un.2.2.2.1 = t.un.2.2.2.1 := by rw [hu]
    have u5 : (pm t).un.2.2.2.2 = t.un.2.2.2.2.map pm := by rw [hu]
    have u2 : (pm t).un.2.1 = mi t.un.2.1 := by rw [hu]
    have hwk : ∀ x ∈ t.un.2.2.2.2,wd (pm x) ≤ 64 := fun x hx => Int.le_trans (X9 hf (by rw [u5]; exact List.mem_map.2 ⟨x,hx,rfl⟩)) hw
    have ih : ∀ x ∈ t.un.2.2.2.2, ∀ s : Se, ∃ S,AQ n (pm x) sw s = some S ∧ DM n x sw s.1 s.2 = some S ∧ KY AC S ∧ Bd S (wd (pm x)) := fun x hx s => mK n x (by have := aI hx; omega) (Nat.le_trans (cD hx) hc) (hkids x hx) (hwk x hx) sw s
    have heq : ∀ x ∈ t.un.2.2.2.2, ∀ s : Se,AQ n (pm x) sw s = DM n x sw s.1 s.2 := fun x hx s => by
      obtain ⟨S,a,b,_⟩ := ih x hx s
      rw [a,b]
    have hm : ∀ x ∈ t.un.2.2.2.2, ∀ (s : Se) r,DM n x sw s.1 s.2 = some r → r.length ≤ 1000 := fun x hx s r hr => by
      obtain ⟨S,_,b,_,d⟩ := ih x hx s
      rw [b] at hr; cases hr
      have := hwk x hx
      unfold Bd at d; omega
    have hh := gA (t := t.un.2.1) (by omega) sw s.1 s.2
    have hk := hfi.kind
    have hwd := Tu (pm t)
    have hall := c9 hf
    rw [u5] at hwd hall
    rw [u1] at hwd
    have hG : ∀ x ∈ t.un.2.2.2.2.map pm, ∀ s, ∃ S,AQ n x sw s = some S ∧ KY AC S ∧ Bd S (wd x) := fun x hx s => by
      obtain ⟨y,hy,rfl⟩ := List.mem_map.1 hx
      obtain ⟨S,a,_,c,d⟩ := ih y hy s
      exact ⟨S,a,c,d⟩
    show ∃ S,AO (AQ n) (pm t) sw s = some S ∧ CI (DM n) t sw s.1 s.2 = some S ∧ _
    have hk5 : t.un.1 = 1 ∨ t.un.1 = 2 ∨ t.un.1 = 3 ∨ t.un.1 = 4 ∨ t.un.1 = 5 := by omega
    rcases hk5 with k | k | k | k | k
    · rw [if_neg (by omega)] at hwd
      refine ⟨_,st1 _ sw (by omega) hfi.q s,by rw [u2]; exact dr1 hh k, ?_⟩
      split
      · exact ⟨by simp [KY],by rw [hwd]; show min ((1 : Nat) : Int) 1000 ≤ 1; decide⟩
      · exact ⟨by simp [KY],by rw [hwd]; show min ((0 : Nat) : Int) 1000 ≤ 1; decide⟩
    · rw [if_neg (by omega)] at hwd
      obtain ⟨q,hq2⟩ := VR s t.un.2.2.1 t.un.2.2.2.1
      exact ⟨[q],st2 _ sw (by omega) (by rw [u3,u4]; exact hq2),dr2 hh k hq2,by simp [KY],by rw [hwd]; show min ((1 : Nat) : Int) 1000 ≤ 1; decide⟩
    · rw [if_pos (by omega),k] at hwd
      have F : ∀ l' : List Tr27,(∀ x ∈ l',x ∈ t.un.2.2.2.2) → ∃ r,FH (fun x c => Gj AC (AQ n x sw) c []) (l'.map pm) [s] = some r ∧ FH (fun x c => Gj AC (fun s => DM n x sw s.1 s.2) c []) l' [s] = some r ∧ KY AC r ∧ Bd r (((l'.map pm).map wd).foldl (wf 3) 1) := fun l' hl' => by
        obtain ⟨r,g1,g2,g3⟩ := lI (G := fun x s => AQ n x sw s) (l'.map pm) [s] 1 (fun x hx s => by
          obtain ⟨y,hy,rfl⟩ := List.mem_map.1 hx
          exact hG _ (List.mem_map.2 ⟨y,hl' y hy,rfl⟩) s) (by simp [KY]) (by show min ((1 : Nat) : Int) 1000 ≤ 1; decide)
        refine ⟨r,g1, ?_,g2,g3⟩
        rw [← g1,Pe]
        exact L9 fun x hx c => by rw [show (fun s : Se => AQ n (pm x) sw s) = fun s => DM n x sw s.1 s.2 from funext fun s => heq x (hl' x hx) s]
      obtain ⟨r,g1,g2,g3,g4⟩ := F t.un.2.2.2.2 fun _ h => h
      refine ⟨r,st3 _ sw (by omega) (by rw [u5,List.length_map]; omega) (by rw [u5]; exact g1),dr3 hh k (by omega) hm (fun j c' hj => ?_) g2,g3,by rw [hwd]; exact g4⟩
      obtain ⟨r',_,f2,_,f4⟩ := F (t.un.2.2.2.2.take j) fun _ h => List.mem_of_mem_take h
      rw [hj] at f2; cases f2
      have := Ti (k := 3) (n := 1) ⟨by omega,by omega⟩ hall j
      rw [← List.map_take, ← List.map_take] at this
      have hwd' : wd (pm t) = ((t.un.2.2.2.2.map pm).map wd).foldl (wf 3) 1 := hwd
      unfold Bd at f4; omega
    · rw [if_pos (by omega),k] at hwd
      have F : ∀ l' : List Tr27,(∀ x ∈ l',x ∈ t.un.2.2.2.2) → ∃ r,FH (fun x c => (AQ n x sw s).bind fun r => some (Iw AC c r)) (l'.map pm) [] = some r ∧ FH (fun x c => (DM n x sw s.1 s.2).bind fun r => some (Iw AC c r)) l' [] = some r ∧ KY AC r ∧ Bd r (((l'.map pm).map wd).foldl (wf 4) 0) := fun l' hl' => by
        obtain ⟨r,g1,g2,g3⟩ := mJ (G := fun x s => AQ n x sw s) (s := s) (l'.map pm) [] 0 (fun x hx => by
          obtain ⟨y,hy,rfl⟩ := List.mem_map.1 hx
          exact hG _ (List.mem_map.2 ⟨y,hl' y hy,rfl⟩) s) (by simp [KY]) (by show min ((0 : Nat) : Int) 1000 ≤ 0; decide)
        refine ⟨r,g1, ?_,g2,g3⟩
        rw [← g1,Pe]
        exact L9 fun x hx c => by rw [heq x (hl' x hx) s]
      obtain ⟨r,g1,g2,g3,g4⟩ := F t.un.2.2.2.2 fun _ h => h
      refine ⟨r,st4 _ sw (by omega) (by rw [u5,List.length_map]; omega) (by rw [u5]; exact g1),dr4 hh k (by omega) (fun x hx r hr => hm x hx s r hr) (fun j c' hj => ?_) g2,g3,by rw [hwd]; exact g4⟩
      obtain ⟨r',_,f2,_,f4⟩ := F (t.un.2.2.2.2.take j) fun _ h => List.mem_of_mem_take h
      rw [hj] at f2; cases f2
      have := Ti (k := 4) (n := 0) ⟨by omega,by omega⟩ hall j
      rw [← List.map_take, ← List.map_take] at this
      have hwd' : wd (pm t) = ((t.un.2.2.2.2.map pm).map wd).foldl (wf 4) 0 := hwd
      unfold Bd at f4; omega
    · rw [if_pos (by omega),k] at hwd
      have hlen : t.un.2.2.2.2.length = 2 := by
        have := hfi.two (by omega)
        rw [u5,List.length_map] at this
        exact this
      have hi : (if Ld (sw,s.1,s.2) (mi t.un.2.1) = true then 0 else 1) < t.un.2.2.2.2.length := by split <;> omega
      obtain ⟨S,g1,g2,g3,g4⟩ := ih _ (List.getElem_mem hi) s
      refine ⟨S,st5 _ sw (by omega) hfi.q (by rw [u5,List.length_map]; exact hlen) (x := pm t.un.2.2.2.2[if Ld (sw,s.1,s.2) (mi t.un.2.1) = true then 0 else 1]) (by rw [u2,u5,List.getElem?_map,List.getElem?_eq_getElem hi]; rfl) g1,dr5 hh k (List.getElem?_eq_getElem hi) g2,g3, ?_⟩
      exact Int.le_trans g4 (X9 hf (by rw [u5]; exact List.mem_map.2 ⟨_,List.getElem_mem hi,rfl⟩))
theorem dM {t : Tr27} (hc : t.cnt ≤ 1048576) (hm : vB (pm t)) (sw port : Int) (pk : Int × Int × Int × Int) : ∃ S,ER (pm t) sw port pk = some S ∧ Us t sw port pk = some S ∧ S.length ≤ 1000000000 := by
  obtain ⟨S,g1,g2,g3,g4⟩ := mK (SizeOf.sizeOf t + 1) t (by omega) hc hm.1.1 hm.2 sw (port,pk)
  have hl : S.length ≤ 1000000000 := by have := hm.2; unfold Bd at g4; omega
  exact ⟨S,dU (mV g1) g3 hl,Bq (g := fun n => DM n t sw port pk) (fun n r h => NO n t sw port pk r h) g2,hl⟩
abbrev ZQ : Tr34 := Tr34.of (0,0,0,([] : List Tr34))
abbrev XA : Tr37 := Tr37.of (3,ZQ,0,0,[Tr37.of (2,ZQ,1,3,([] : List Tr37)),Tr37.of (2,ZQ,4,1,([] : List Tr37))])
theorem Qf : G9 = some true := by
  have a1 : El XA 0 (5,(7,2,0,0)) = some [(1,(7,3,0,0))] := NF 100 XA 0 (5,(7,2,0,0)) _ (by kernel_rfl)
  have a2 : ER XA 0 5 (7,2,0,0) = some [(1,(7,3,0,0))] := dU a1 (by simp [KY]) (by decide)
  have a3 : Fo XA = some [100,115,116,32,58,61,32,51,59,32,112,111,114,116,32,58,61,32,49] := R4 100 XA _ (by kernel_rfl)
  have a4 : DE XA = some true := PO 100 XA _ (by kernel_rfl)
  have a5 : EA XA = some 1 := LK 100 XA _ (by kernel_rfl)
  unfold G9
  have i0 : ix ([(1,7,3,0,0)] : List Se) 0 = some (1,7,3,0,0) := rfl
  rw [show ER _ 0 5 (7,2,0,0) = _ from a2,Option.bind_some,if_pos (by rfl),i0,Option.bind_some,if_pos ⟨rfl,rfl,rfl,rfl,rfl⟩,show Fo _ = _ from a3,Option.bind_some,if_pos rfl,show DE _ = _ from a4,Option.bind_some,if_pos rfl,show EA _ = _ from a5,Option.bind_some]
  rfl
theorem OZ (p0 : Tr27) (ok0 : p0.cnt ≤ 1048576) (p1 : Tr27) (ok1 : p1.cnt ≤ 1048576) (p2 : Int) {A2 : Prop} (_ : A2) (p3 : Int) {A3 : Prop} (_ : A3) (p4 : Int × Int × Int × Int) {A4 : Prop} (_ : A4) (p5 : Int) {A5 : Prop} (_ : A5) : GL p0 p1 p2 p3 p4 p5 = some true := by
  classical
  have hc0 : (pm p0).cnt ≤ 1048576 := by rw [uF]; exact ok0
  unfold GL
  simp only [S5,W2,NM,Qc]
  rw [WF ok0,Option.bind_some]
  by_cases c0 : (150 : Int) < p0.cnt
  · rw [if_pos c0,Option.bind_some,if_pos rfl,Qf]; rfl
  rw [if_neg c0,WF ok1,Option.bind_some,Option.bind_some]
  by_cases c1 : (150 : Int) < p1.cnt
  · rw [if_pos (decide_eq_true c1),Qf]; rfl
  have hsame : (decide (pm p0 = pm p1) : Bool) = decide (p0 = p1) := decide_eq_decide.2 ⟨nB,fun h => by rw [h]⟩
  rw [if_neg (by simpa using c1),Wg ok0,Option.bind_some,dD hc0,f5 ok0,Option.bind_some,Option.bind_some,if_neg (fun h => h rfl),Xn hc0,Qx ok0,Option.bind_some,Option.bind_some,if_neg (fun h => h rfl),Xm hc0,QL ok0,Option.bind_some,Option.bind_some,if_neg (fun h => h rfl),WY hc0,VT ok0,Option.bind_some,Option.bind_some,if_neg (fun h => h rfl),Wg ok1,Option.bind_some,XC hc0,Xf ok0,Option.bind_some,Option.bind_some,hsame,Option.bind_some,if_neg (by simp),Option.bind_some]
  by_cases hm : vB (pm p0)
  · rw [if_neg (by simpa using hm)]
    obtain ⟨S,r1,r2,r3⟩ := dM ok0 hm p2 p3 p4
    have hsz : sz (pm p0) ≤ 1000 := by have := hm.1.2.2; omega
    obtain ⟨V,v1,v2,v3⟩ := kJ (t := pm p0) (by rw [uF]; omega) p5
    have hV := V5 hm.1.1 p5 v2 v3
    have hVl : V.length ≤ 1000000 := by rw [hV]; have := Vn p5 (pm p0) ((CF p5).toNat + 1); have := IV p5; omega
    rw [r1,Option.bind_some,r2,Option.bind_some,Y9 r3,Option.bind_some,if_pos rfl,v1,ZE ok0,Option.bind_some,Option.bind_some, ← hV,pF V hVl,Option.bind_some,if_pos rfl,eE hsz hm.1.1,ZO hsz hm.1.1,Option.bind_some,Option.bind_some,if_pos rfl,Qf]; rfl
  · rw [if_pos (by rw [@decide_eq_false _ (_) hm]; rfl),Qf]; rfl
end Go.Proofs.YtpckgggmgijiiaaGreatDoor
