/- Layer 19: topologies. Conditions: none. -/
import Derived.Test.YtbiekjhlijdjbaaGreatbLP
import Derived.Test.YtbiekjhlijdjbaaGreatbM19D
set_option linter.unusedVariables false
set_option linter.unusedSimpArgs false
open Go Go.RowKit
namespace Go.Proofs.YtbiekjhlijdjbaaGreat
abbrev Lk := Int × Int × Int × Int × Int × Int
abbrev Tp := Int × List Lk × List (Int × Int)
abbrev C9 (l : Lk) : List (Int × Int) := [(l.1,l.2.1),(l.2.2.1,l.2.2.2.1)]
def pl (t : Tp) : List (Int × Int) := t.2.1.flatMap C9 ++ t.2.2
abbrev EV (t : Tp) (q : Int × Int) : Prop := 0 ≤ q.1 ∧ q.1 < t.1 ∧ 0 ≤ q.2 ∧ q.2 ≤ 7 ∧ (pl t).count q = 1
abbrev Po (t : Tp) (l : Lk) : Prop := l.1 ≠ l.2.2.1 ∧ 1 ≤ l.2.2.2.2.1 ∧ l.2.2.2.2.1 ≤ l.2.2.2.2.2 ∧ l.2.2.2.2.2 ≤ 1000 ∧ EV t (l.1,l.2.1) ∧ EV t (l.2.2.1,l.2.2.2.1)
abbrev CS (t : Tp) : Prop := (1 ≤ t.1 ∧ t.1 ≤ 8 ∧ t.2.1.length ≤ 24 ∧ t.2.2.length ≤ 8) ∧ (∀ l ∈ t.2.1,Po t l) ∧ ∀ h ∈ t.2.2,EV t h
theorem Ll (q : Int × Int) : ∀ l : List Lk,(l.flatMap C9).count q ≤ 2 * l.length
  | [] => by simp
  | x :: l => by
    have h := Ll q l
    have h2 : (C9 x).count q ≤ 2 := List.count_le_length
    rw [List.flatMap_cons,List.count_append,List.length_cons]; omega
theorem M9 {t : Tp} (hl : t.2.1.length ≤ 24) (hh : t.2.2.length ≤ 8) (a p : Int) : Fw t a p = some (decide (EV t (a,p))) := by
  obtain ⟨s,h1,h2⟩ := Bw t.2.1.length (fun (s : Int) (k : Nat) => (s,(k : Int))) (Eu t a p) id (fun s k => s = (((t.2.1.take k).flatMap C9).count (a,p) : Nat))
    (fun s k hk hI => by
      have hb := Ll (a,p) (t.2.1.take k)
      rw [List.length_take] at hb
      have hx : ∀ c : Prop,[Decidable c] → ∀ s : Int,0 ≤ s ∧ s ≤ 100 → (if c then some (w64 (s + 1)) else some s) = some (s + (if c then 1 else 0)) := fun c _ s hs => by
        by_cases h : c
        · rw [if_pos h,if_pos h,AC (by omega)]
        · rw [if_neg h,if_neg h]; simp
      refine ⟨s + (if (decide (t.2.1[k].1 = a) && decide (t.2.1[k].2.1 = p)) = true then 1 else 0) + (if (decide (t.2.1[k].2.2.1 = a) && decide (t.2.1[k].2.2.2.1 = p)) = true then 1 else 0), ?_, ?_⟩
      · rw [Eu,if_pos (by omega),AO (zb hk),za,hx _ s (by omega),za,hx _ _ (by split <;> omega),za,AC (by omega)]; rfl
      · rw [hI,List.take_succ_eq_append_getElem hk,List.flatMap_append,List.count_append,List.flatMap_cons,List.flatMap_nil,List.append_nil]
        have hc : ∀ (x : Lk),(((C9 x).count (a,p) : Nat) : Int) = (if (decide (x.1 = a) && decide (x.2.1 = p)) = true then 1 else 0) + (if (decide (x.2.2.1 = a) && decide (x.2.2.2.1 = p)) = true then 1 else 0) := fun x => by
          simp only [C9,List.count_cons,List.count_nil,beq_iff_eq,Prod.mk.injEq,zf,decide_eq_true_eq]
          split <;> split <;> rfl
        rw [Int.natCast_add,hc]; omega)
    (fun s _ => by rw [Eu,if_neg (by omega)]; rfl) 0 (by simp)
  have e1 : Am (Eu t a p) (0,0) = some s := h2
  rw [List.take_length] at h1
  have hb := Ll (a,p) t.2.1
  obtain ⟨s2,g1,g2⟩ := Bw t.2.2.length (fun (s : Int) (k : Nat) => (s,(k : Int))) (El t a p) id (fun s2 k => s2 = s + ((t.2.2.take k).count (a,p) : Nat))
    (fun s2 k hk hI => by
      have hb2 : (t.2.2.take k).count (a,p) ≤ k := Nat.le_trans List.count_le_length (by rw [List.length_take]; omega)
      refine ⟨s2 + (if t.2.2[k] = (a,p) then 1 else 0), ?_, ?_⟩
      · rw [El,if_pos (by omega),AO (zb hk),za,za]
        have hd : (if t.2.2[k].1 = a then some (decide (t.2.2[k].2 = p)) else some false) = some (decide (t.2.2[k] = (a,p))) := by
          by_cases c : t.2.2[k].1 = a
          · rw [if_pos c]; congr 1; exact decide_eq_decide.2 ⟨fun h => Prod.ext c h,fun h => by rw [h]⟩
          · rw [if_neg c,decide_eq_false (fun h => c (by rw [h]))]
        rw [hd,za]
        by_cases c : t.2.2[k] = (a,p)
        · rw [decide_eq_true c,if_pos rfl,if_pos c,za,AC (by omega),AC (by omega)]; rfl
        · rw [decide_eq_false c,if_neg (by decide),if_neg c,za,AC (by omega),Int.add_zero]; rfl
      · rw [hI,List.take_succ_eq_append_getElem hk,List.count_append]
        by_cases c : t.2.2[k] = (a,p)
        · rw [if_pos c,c]; simp; omega
        · rw [if_neg c,List.count_eq_zero_of_not_mem (a := (a,p)) (l := [t.2.2[k]]) (by simp; exact fun h => c h.symm)]; omega)
    (fun s _ => by rw [El,if_neg (by omega)]; rfl) s (by simp)
  have e2 : Am (El t a p) (s,0) = some s2 := g2
  rw [List.take_length] at g1
  have hcount : ((pl t).count (a,p) : Int) = s2 := by
    unfold pl
    rw [List.count_append,Int.natCast_add,g1,h1]
  unfold Fw
  rw [e1,za,e2,za]
  congr 1
  rw [Bool.eq_iff_iff]
  simp only [zf,decide_eq_true_eq]
  have : s2 = 1 ↔ (pl t).count (a,p) = 1 := by omega
  rw [this]
theorem HE {t : Tp} : Fi t = some (decide (CS t)) := by
  unfold Fi
  by_cases c : t.1 < 1 ∨ 8 < t.1 ∨ 24 < (t.2.1.length : Int) ∨ 8 < (t.2.2.length : Int)
  · rw [if_pos (by simpa using c),decide_eq_false (fun h => by have := h.1; omega)]
  · rw [if_neg (by simpa using c)]
    have hl : t.2.1.length ≤ 24 := by omega
    have hh : t.2.2.length ≤ 8 := by omega
    rw [EX t.2.1 (by omega) (EF t) (fun l => ¬ Po t l) false (fun k hk => by
      rw [EF,if_pos (by omega),AO (zb hk),za,M9 hl hh,M9 hl hh]
      generalize t.2.1[k] = x
      by_cases c1 : x.1 = x.2.2.1
      · rw [if_pos c1,za,if_pos rfl,if_pos (fun h => h.1 c1)]
      rw [if_neg c1]
      by_cases c2 : x.2.2.2.2.1 < 1
      · rw [if_pos c2,za,if_pos rfl,if_pos (fun h => by have := h.2.1; omega)]
      rw [if_neg c2]
      by_cases c3 : x.2.2.2.2.2 < x.2.2.2.2.1
      · rw [if_pos c3,za,if_pos rfl,if_pos (fun h => by have := h.2.2.1; omega)]
      rw [if_neg c3]
      by_cases c4 : 1000 < x.2.2.2.2.2
      · rw [if_pos c4,za,if_pos rfl,if_pos (fun h => by have := h.2.2.2.1; omega)]
      rw [if_neg c4,za]
      by_cases c5 : EV t (x.1,x.2.1)
      · rw [decide_eq_true c5,if_neg (by decide),za]
        by_cases c6 : EV t (x.2.2.1,x.2.2.2.1)
        · rw [decide_eq_true c6,za,if_neg (by decide),if_neg (fun h => h ⟨c1,by omega,by omega,by omega,c5,c6⟩)]
        · rw [decide_eq_false c6,za,if_pos (by decide),if_pos (fun h => c6 h.2.2.2.2.2)]
      · rw [decide_eq_false c5,if_pos (by decide),za,if_pos rfl,if_pos (fun h => c5 h.2.2.2.2.1)]) (by rw [EF,if_neg (by omega)]),
      EX t.2.2 (by omega) (EE t) (fun h => ¬ EV t h) false (fun k hk => by
      rw [EE,if_pos (by omega),AO (zb hk),za,za,M9 hl hh,za]
      by_cases c5 : EV t t.2.2[k]
      · rw [decide_eq_true (show EV t (t.2.2[k].1,t.2.2[k].2) from c5),if_neg (by decide),if_neg (fun h => h c5)]
      · rw [decide_eq_false (show ¬ EV t (t.2.2[k].1,t.2.2[k].2) from c5),if_pos (by decide),if_pos c5]) (by rw [EE,if_neg (by omega)])]
    by_cases d1 : ∃ l ∈ t.2.1, ¬ Po t l
    · rw [if_pos d1]
      show some false = _
      rw [decide_eq_false (fun h => by obtain ⟨l,hl,hn⟩ := d1; exact hn (h.2.1 l hl))]
    · rw [if_neg d1]
      by_cases d2 : ∃ h ∈ t.2.2, ¬ EV t h
      · rw [if_pos d2]
        show some false = _
        rw [decide_eq_false (fun h => by obtain ⟨l,hl,hn⟩ := d2; exact hn (h.2.2 l hl))]
      · rw [if_neg d2]
        show some true = _
        rw [decide_eq_true (⟨by omega,fun l hl => Decidable.not_not.1 fun hn => d1 ⟨l,hl,hn⟩,fun l hl => Decidable.not_not.1 fun hn => d2 ⟨l,hl,hn⟩⟩ : CS t)]
abbrev Pr := Int × Int × Int × Bool
def TS (i : Nat) (x : Lk) (a p : Int) (R : Pr) : Prop := (a = x.1 ∧ p = x.2.1 ∧ R = (x.2.2.1,x.2.2.2.1,(i : Int),true)) ∨ (¬ (a = x.1 ∧ p = x.2.1) ∧ a = x.2.2.1 ∧ p = x.2.2.2.1 ∧ R = (x.1,x.2.1,(i : Int),true))
theorem RP {t : Tp} (hl : t.2.1.length ≤ 24) (a p : Int) : ∃ R : Pr,HR t a p = some R ∧ ((R = (0,0,0,false) ∧ ∀ x ∈ t.2.1,(a,p) ∉ C9 x) ∨ ∃ i x,t.2.1[i]? = some x ∧ TS i x a p R) := by
  have key : ∀ (d k : Nat),k + d = t.2.1.length → (∀ x ∈ t.2.1.take k,(a,p) ∉ C9 x) → ∃ R : Pr,GU (Am (Cj t a p) (k : Int)) (fun _ => some (0,0,0,false)) = some R ∧ ((R = (0,0,0,false) ∧ ∀ x ∈ t.2.1,(a,p) ∉ C9 x) ∨ ∃ i x,t.2.1[i]? = some x ∧ TS i x a p R) := by
    intro d
    induction d with
    | zero =>
      intro k hk hn
      rw [List.take_of_length_le (by omega)] at hn
      exact ⟨_,by rw [AJ (by rw [Cj,if_neg (by omega)])]; rfl,.inl ⟨rfl,hn⟩⟩
    | succ d ih =>
      intro k hk hn
      have hkl : k < t.2.1.length := by omega
      have hg := zb hkl
      by_cases c1 : a = t.2.1[k].1 ∧ p = t.2.1[k].2.1
      · exact ⟨_,by rw [AJ (by rw [Cj,if_pos (by omega),AO hg,za,if_pos c1])]; rfl,.inr ⟨k,_,hg,.inl ⟨c1.1,c1.2,rfl⟩⟩⟩
      by_cases c2 : a = t.2.1[k].2.2.1 ∧ p = t.2.1[k].2.2.2.1
      · exact ⟨_,by rw [AJ (by rw [Cj,if_pos (by omega),AO hg,za,if_neg c1,if_pos c2])]; rfl,.inr ⟨k,_,hg,.inr ⟨c1,c2.1,c2.2,rfl⟩⟩⟩
      have hst : Cj t a p (k : Int) = some (.inl ((k + 1 : Nat) : Int)) := by
        rw [Cj,if_pos (by omega),AO hg,za,if_neg c1,if_neg c2,AC (by omega)]; rfl
      rw [BI hst]
      refine ih (k + 1) (by omega) (fun x hx => ?_)
      rw [List.take_succ_eq_append_getElem hkl] at hx
      rcases List.mem_append.1 hx with hx | hx
      · exact hn x hx
      · rw [List.mem_singleton] at hx
        subst hx
        intro hm
        simp only [C9,List.mem_cons,Prod.mk.injEq,List.not_mem_nil,or_false] at hm
        exact hm.elim c1 c2
  exact key t.2.1.length 0 (by omega) (fun x hx => by simp at hx)
theorem S8 {i : Nat} {x : Lk} {a p : Int} {R : Pr} (h : TS i x a p R) : (a,p) ∈ C9 x ∧ (R.1,R.2.1) ∈ C9 x := by
  rcases h with ⟨h1,h2,h3⟩ | ⟨_,h1,h2,h3⟩
  · subst h1 h2 h3; simp
  · subst h1 h2 h3; simp
theorem Q6 {l : List Lk} {hs : List (Int × Int)} {i j : Nat} {x y : Lk} {q : Int × Int} (hi : l[i]? = some x) (hj : l[j]? = some y) (hij : i < j) (hx : q ∈ C9 x) (hy : q ∈ C9 y) : 2 ≤ (l.flatMap C9 ++ hs).count q := by
  have hil : i < l.length := (List.getElem?_eq_some_iff.1 hi).1
  have e : l = l.take i ++ x :: l.drop (i + 1) := by
    have h1 := (List.getElem?_eq_some_iff.1 hi).2
    rw [← h1, ← List.drop_eq_getElem_cons hil,List.take_append_drop]
  have hm : y ∈ l.drop (i + 1) := List.mem_of_getElem? (i := j - (i + 1)) (by rw [List.getElem?_drop,show i + 1 + (j - (i + 1)) = j by omega]; exact hj)
  have h2 : 0 < ((l.drop (i + 1)).flatMap C9).count q := List.count_pos_iff.2 (List.mem_flatMap.2 ⟨y,hm,hy⟩)
  have h3 : 0 < (C9 x).count q := List.count_pos_iff.2 hx
  rw [e,List.flatMap_append,List.flatMap_cons,List.count_append,List.count_append,List.count_append]; omega
theorem ME {t : Tp} {i j : Nat} {x y : Lk} {q : Int × Int} (hi : t.2.1[i]? = some x) (hj : t.2.1[j]? = some y) (hx : q ∈ C9 x) (hy : q ∈ C9 y) (h1 : (pl t).count q = 1) : i = j := by
  rcases Nat.lt_trichotomy i j with h | h | h
  · have := Q6 (hs := t.2.2) hi hj h hx hy
    unfold pl at h1; omega
  · exact h
  · have := Q6 (hs := t.2.2) hj hi h hy hx
    unfold pl at h1; omega
section sorting
variable {α : Type} (key : α → Int)
def Oq (L : List α) (j : Nat) (h : j < L.length) : List α := (L.set j (L[j - 1]'(by omega))).set (j - 1) L[j]
theorem GA (L : List α) (j : Nat) (h : j < L.length) : (Oq L j h).length = L.length := by simp [Oq]
theorem NJ {L : List α} {j : Nat} (h : j < L.length) (h0 : 0 < j) {u : Nat} (hu : u < L.length) : (Oq L j h)[u]'(by rw [GA]; exact hu) = if u = j - 1 then L[j] else if u = j then L[j - 1]'(by omega) else L[u] := by
  unfold Oq
  rw [List.getElem_set]
  by_cases c1 : j - 1 = u
  · rw [if_pos c1,if_pos c1.symm]
  · rw [if_neg c1,if_neg (fun e => c1 e.symm),List.getElem_set]
    by_cases c2 : j = u
    · rw [if_pos c2,if_pos c2.symm]
    · rw [if_neg c2,if_neg (fun e => c2 e.symm)]
theorem KK {L : List α} {j : Nat} (h : j < L.length) (h0 : 0 < j) : (Oq L j h).Perm L := by
  obtain ⟨i,rfl⟩ : ∃ i,j = i + 1 := ⟨j - 1,by omega⟩
  have hi : i < L.length := by omega
  have e : L = L.take i ++ L[i] :: L[i + 1] :: L.drop (i + 2) := by
    rw [← List.drop_eq_getElem_cons h, ← List.drop_eq_getElem_cons hi,List.take_append_drop]
  have e2 : Oq L (i + 1) h = L.take i ++ L[i + 1] :: L[i] :: L.drop (i + 2) := by
    apply List.ext_getElem
    · rw [GA]; simp; omega
    · intro u h1 h2
      rw [GA] at h1
      rw [NJ h h0 h1]
      have hlen0 : (L.take i).length = i := by simp; omega
      by_cases c1 : u = i
      · subst c1
        rw [if_pos (by omega),List.getElem_append_right (by omega)]
        simp only [hlen0,Nat.sub_self,List.getElem_cons_zero]
      · by_cases c2 : u = i + 1
        · subst c2
          rw [if_neg (by omega),if_pos rfl,List.getElem_append_right (by omega)]
          simp only [hlen0,Nat.add_sub_cancel_left,List.getElem_cons_succ,List.getElem_cons_zero]
          rfl
        · rw [if_neg (by omega),if_neg c2]
          by_cases c3 : u < i
          · rw [List.getElem_append_left (by simp; omega),List.getElem_take]
          · rw [List.getElem_append_right (by simp; omega)]
            have hlen : (L.take i).length = i := by simp; omega
            obtain ⟨v,hv⟩ : ∃ v,u - (L.take i).length = v + 2 := ⟨u - i - 2,by rw [hlen]; omega⟩
            simp only [hv,List.getElem_cons_succ,List.getElem_drop]
            congr 1; rw [hlen] at hv; omega
  rw [e2]
  conv => rhs; rw [e]
  exact List.Perm.append_left _ (List.Perm.swap _ _ _)
def Tm (L : List α) (n : Nat) : Prop := ∀ u v (hv : v < L.length) (huv : u < v),v < n → key (L[u]'(by omega)) ≤ key L[v]
def Ud (L : List α) (n j : Nat) : Prop := ∀ u v (hv : v < L.length) (huv : u < v),v < n → v ≠ j → key (L[u]'(by omega)) ≤ key L[v]
variable {key}
theorem I3 {L : List α} {n j : Nat} (h : Ud key L n j) (hj : j < L.length) (hn : ¬ (0 < j ∧ key L[j] < key (L[j - 1]'(by omega)))) : Tm key L n := fun u v hv huv hvn => by
  by_cases c : v = j
  · subst c
    have h1 : key (L[v - 1]'(by omega)) ≤ key L[v] := by
      have := fun hh => hn ⟨by omega,hh⟩
      omega
    by_cases c2 : u = v - 1
    · subst c2; exact h1
    · exact Int.le_trans (h u (v - 1) (by omega) (by omega) (by omega) (by omega)) h1
  · exact h u v hv huv hvn c
theorem OA {L : List α} {n j : Nat} (h : Ud key L n j) (hj : j < L.length) (h0 : 0 < j) (hjn : j < n) (hlt : key L[j] < key (L[j - 1]'(by omega))) : Ud key (Oq L j hj) n (j - 1) := fun u v hv huv hvn hne => by
  rw [GA] at hv
  rw [NJ hj h0 hv,NJ hj h0 (by omega : u < L.length),if_neg hne]
  by_cases c1 : v = j
  · subst c1
    rw [if_pos rfl,if_neg (by omega : ¬ u = v)]
    by_cases c2 : u = v - 1
    · rw [if_pos c2]; omega
    · rw [if_neg c2]; exact h u (v - 1) (by omega) (by omega) (by omega) (by omega)
  · rw [if_neg c1]
    by_cases c2 : u = j - 1
    · rw [if_pos c2]
      exact h j v hv (by omega) hvn c1
    · rw [if_neg c2]
      by_cases c3 : u = j
      · rw [if_pos c3]; exact h (j - 1) v hv (by omega) hvn c1
      · rw [if_neg c3]; exact h u v hv huv hvn c1
theorem PD {N : Nat} {S : List α × Int → Option ((List α × Int) ⊕ List α)} (hS : ∀ L (j : Nat) (h : j < L.length),L.length = N → S (L,(j : Int)) = if 0 < j ∧ key L[j] < key (L[j - 1]'(by omega)) then some (.inl (Oq L j h,((j - 1 : Nat) : Int))) else some (.inr L)) {n : Nat} :
    ∀ (j : Nat) (L : List α),L.length = N → j < L.length → j < n → Ud key L n j → ∃ L',Am S (L,(j : Int)) = some L' ∧ L'.Perm L ∧ Tm key L' n := by
  intro j
  induction j with
  | zero =>
    intro L hN hj hjn h
    exact ⟨L,AJ (by rw [hS L 0 hj hN,if_neg (fun hh => Nat.lt_irrefl _ hh.1)]),List.Perm.refl _,I3 h hj (fun hh => Nat.lt_irrefl _ hh.1)⟩
  | succ j ih =>
    intro L hN hj hjn h
    by_cases c : 0 < j + 1 ∧ key L[j + 1] < key (L[j + 1 - 1]'(by omega))
    · have h1 := OA h hj c.1 hjn c.2
      obtain ⟨L',e,p,o⟩ := ih (Oq L (j + 1) hj) (by rw [GA]; exact hN) (by rw [GA]; omega) (by omega) h1
      exact ⟨L',by rw [BI (by rw [hS L (j + 1) hj hN,if_pos c])]; exact e,p.trans (KK hj c.1),o⟩
    · exact ⟨L,AJ (by rw [hS L (j + 1) hj hN,if_neg c]),List.Perm.refl _,I3 h hj c⟩
theorem Qr {L0 : List α} {S : List α × Int → Option ((List α × Int) ⊕ List α)} {T : List α × Int → Option ((List α × Int) ⊕ List α)} (hS : ∀ L (j : Nat) (h : j < L.length),L.length = L0.length → S (L,(j : Int)) = if 0 < j ∧ key L[j] < key (L[j - 1]'(by omega)) then some (.inl (Oq L j h,((j - 1 : Nat) : Int))) else some (.inr L))
    (hT : ∀ L (i : Nat),L.length = L0.length → i < L0.length → T (L,(i : Int)) = (Am S (L,(i : Int))).bind fun x => some (.inl (x,((i + 1 : Nat) : Int)))) (hTe : ∀ L (i : Nat),L0.length ≤ i → T (L,(i : Int)) = some (.inr L)) :
    ∃ L',Am T (L0,1) = some L' ∧ L'.Perm L0 ∧ Tm key L' L0.length := by
  have keyl : ∀ (d i : Nat) (L : List α),i + d = L0.length → 1 ≤ i → L.Perm L0 → Tm key L i → ∃ L',Am T (L,(i : Int)) = some L' ∧ L'.Perm L0 ∧ Tm key L' L0.length := by
    intro d
    induction d with
    | zero =>
      intro i L hi h1 hp ho
      exact ⟨L,AJ (hTe L i (by omega)),hp,by rw [← hi]; exact ho⟩
    | succ d ih =>
      intro i L hi h1 hp ho
      have hlen := hp.length_eq
      obtain ⟨L',e,p,o⟩ := PD (key := key) hS (n := i + 1) i L hlen (by omega) (by omega) (fun u v hv huv hvn hne => ho u v hv huv (by omega))
      have hst : T (L,(i : Int)) = some (.inl (L',((i + 1 : Nat) : Int))) := by rw [hT L i hlen (by omega),e]; rfl
      rw [BI hst]
      exact ih (i + 1) L' (by omega) (by omega) (p.trans hp) o
  by_cases c : L0.length = 0
  · exact ⟨L0,AJ (hTe L0 1 (by omega)),List.Perm.refl _,fun u v hv huv hvn => by omega⟩
  · exact keyl (L0.length - 1) 1 L0 (by omega) (Nat.le_refl _) (List.Perm.refl _) (fun u v hv huv hvn => by omega)
end sorting
theorem Hi {α : Type} [BEq α] [LawfulBEq α] : ∀ {l : List α},l.Nodup ↔ ∀ q ∈ l,l.count q = 1
  | [] => by simp
  | x :: l => by
    rw [List.nodup_cons,Hi]
    constructor
    · rintro ⟨h1,h2⟩ q hq
      rw [List.count_cons]
      by_cases c : x = q
      · subst c
        rw [List.count_eq_zero_of_not_mem h1]; simp
      · rcases List.mem_cons.1 hq with h | h
        · exact absurd h.symm c
        · rw [h2 q h,if_neg (by simpa using c)]
    · intro h
      have hx := h x (List.mem_cons_self ..)
      rw [List.count_cons,if_pos (by simp)] at hx
      have h1 : x ∉ l := fun hm => by have := List.count_pos_iff.2 hm; omega
      refine ⟨h1,fun q hq => ?_⟩
      have := h q (zc _ hq)
      rw [List.count_cons,if_neg (by simp; intro e; subst e; exact h1 hq)] at this
      exact this
abbrev Kk (l : List (Int × Int)) : List ((Int × Int) × Unit) := l.map fun q => (q,())
theorem KL : ∀ (l : List (Int × Int)) (q : Int × Int),(Ki (Kk l) q).isSome = decide (q ∈ l)
  | [],q => by simp [Kk,Ki]
  | x :: l,q => by
    show (if q = x then some () else Ki (Kk l) q).isSome = _
    by_cases c : q = x
    · rw [if_pos c,decide_eq_true (by rw [c]; exact List.mem_cons_self ..)]; rfl
    · rw [if_neg c,KL l q]
      exact decide_eq_decide.2 ⟨fun h => zc _ h,fun h => (List.mem_cons.1 h).resolve_left c⟩
theorem OX : ∀ (l : List (Int × Int)) (q : Int × Int),q ∉ l → Ks (Kk l) q () = Kk (l ++ [q])
  | [],q,_ => rfl
  | x :: l,q,h => by
    show (if q = x then (q,()) :: Kk l else (x,()) :: Ks (Kk l) q ()) = _
    rw [if_neg (fun e => h (by rw [e]; exact List.mem_cons_self ..)),OX l q (fun e => h (zc _ e))]; rfl
abbrev XU (t : Tp) (q : Int × Int) : Prop := 0 ≤ q.1 ∧ q.1 < t.1 ∧ 0 ≤ q.2 ∧ q.2 ≤ 7
theorem RS {t : Tp} (hl : t.2.1.length ≤ 24) (hh : t.2.2.length ≤ 8) : E3 t = some (pl t) := by
  have fl : ∀ l : List Lk,(l.flatMap C9).length = 2 * l.length := fun l => by
    induction l with
    | nil => rfl
    | cons x l ih => rw [List.flatMap_cons,List.length_append,ih,List.length_cons]; simp; omega
  obtain ⟨s,h1,h2⟩ := Bw t.2.1.length (fun (s : List (Int × Int)) (k : Nat) => (s,(k : Int))) (CQ t) id (fun s k => s = (t.2.1.take k).flatMap C9)
    (fun s k hk hI => by
      have hb : s.length ≤ 100 := by rw [hI,fl,List.length_take]; omega
      refine ⟨s ++ C9 t.2.1[k], ?_, ?_⟩
      · rw [CQ,if_pos (by omega),AO (zb hk),za,Cs (by simp; omega),za,AC (by omega)]; rfl
      · rw [hI,List.take_succ_eq_append_getElem hk,List.flatMap_append,List.flatMap_cons,List.flatMap_nil,List.append_nil])
    (fun s _ => by rw [CQ,if_neg (by omega)]; rfl) [] (by simp)
  have e1 : Am (CQ t) ([],0) = some s := h2
  rw [List.take_length] at h1
  have hb1 : s.length ≤ 100 := by rw [h1,fl]; omega
  obtain ⟨s2,g1,g2⟩ := Bw t.2.2.length (fun (s : List (Int × Int)) (k : Nat) => (s,(k : Int))) (CM t) id (fun s2 k => s2 = s ++ t.2.2.take k)
    (fun s2 k hk hI => by
      have hb : s2.length ≤ 200 := by rw [hI,List.length_append,List.length_take]; omega
      refine ⟨s2 ++ [t.2.2[k]], ?_, ?_⟩
      · rw [CM,if_pos (by omega),AO (zb hk),za,Cs (by simp; omega),za,AC (by omega)]; rfl
      · rw [hI,List.take_succ_eq_append_getElem hk,List.append_assoc])
    (fun s _ => by rw [CM,if_neg (by omega)]; rfl) s (by simp)
  have e2 : Am (CM t) (s,0) = some s2 := g2
  rw [List.take_length,h1] at g1
  unfold E3
  rw [e1,za,e2,g1]; rfl
theorem Qh {t : Tp} {L : List (Int × Int)} (hL : L.length ≤ 1000) : Am (B1 t L) (0,[]) = some (if (∀ q ∈ L,XU t q) ∧ L.Nodup then .inl (Kk L) else .inr false) := by
  have key : ∀ (d k : Nat),k + d = L.length → (∀ q ∈ L.take k,XU t q) → (L.take k).Nodup → Am (B1 t L) ((k : Int),Kk (L.take k)) = some (if (∀ q ∈ L,XU t q) ∧ L.Nodup then .inl (Kk L) else .inr false) := by
    intro d
    induction d with
    | zero =>
      intro k hk h1 h2
      rw [List.take_of_length_le (by omega)] at h1 h2 ⊢
      rw [if_pos ⟨h1,h2⟩]
      exact AJ (by rw [B1,if_neg (by omega)])
    | succ d ih =>
      intro k hk h1 h2
      have hkl : k < L.length := by omega
      have hm := List.getElem_mem hkl
      have hg := zb hkl
      by_cases c1 : XU t L[k]
      · by_cases c2 : L[k] ∈ L.take k
        · rw [if_neg (fun hh => by
            have h3 := hh.2
            rw [← List.take_append_drop (k + 1) L,List.take_succ_eq_append_getElem hkl] at h3
            have h4 := (List.nodup_append.1 (List.nodup_append.1 h3).1).2.2
            exact h4 _ c2 _ (List.mem_singleton.2 rfl) rfl)]
          exact AJ (by
            rw [B1,if_pos (by omega),AO hg,za,if_neg (by simp; omega),KL,decide_eq_true c2,if_pos rfl])
        · have hst : B1 t L ((k : Int),Kk (L.take k)) = some (.inl (((k + 1 : Nat) : Int),Kk (L.take (k + 1)))) := by
            rw [B1,if_pos (by omega),AO hg,za,if_neg (by simp; omega),KL,decide_eq_false c2,if_neg (by decide),OX _ _ c2,AC (by omega),List.take_succ_eq_append_getElem hkl]; rfl
          rw [BI hst]
          refine ih (k + 1) (by omega) (fun q hq => ?_) ?_
          · rw [List.take_succ_eq_append_getElem hkl] at hq
            rcases List.mem_append.1 hq with h | h
            · exact h1 q h
            · rw [List.mem_singleton.1 h]; exact c1
          · rw [List.take_succ_eq_append_getElem hkl,List.nodup_append]
            exact ⟨h2,by simp,fun a ha b hb => by rw [List.mem_singleton.1 hb]; intro e; subst e; exact c2 ha⟩
      · rw [if_neg (fun hh => c1 (hh.1 _ hm))]
        exact AJ (by
          rw [B1,if_pos (by omega),AO hg,za,if_pos (by simp; omega)])
  exact key L.length 0 (by omega) (by simp) (by simp)
theorem Qj {l : List Lk} (hl : l.length ≤ 1000) : AY l = some (decide (∃ x ∈ l,Bh x = true)) := by
  have key : ∀ (d k : Nat),k + d = l.length → (∀ x ∈ l.take k, ¬ Bh x = true) → ∃ i : Int,GU (Am (AB l) (k : Int)) (fun _ => some (-1)) = some i ∧ (0 ≤ i ↔ ∃ x ∈ l,Bh x = true) := by
    intro d
    induction d with
    | zero =>
      intro k hk hn
      rw [List.take_of_length_le (by omega)] at hn
      exact ⟨-1,by rw [AJ (by rw [AB,if_neg (by omega)])]; rfl,⟨fun h => by omega,fun ⟨x,hx,h⟩ => absurd h (hn x hx)⟩⟩
    | succ d ih =>
      intro k hk hn
      have hkl : k < l.length := by omega
      have hg := zb hkl
      by_cases c : Bh l[k] = true
      · exact ⟨(k : Int),by rw [AJ (by rw [AB,if_pos (by omega),AO hg,za,if_pos c])]; rfl,⟨fun _ => ⟨_,List.getElem_mem hkl,c⟩,fun _ => by omega⟩⟩
      · have hst : AB l (k : Int) = some (.inl ((k + 1 : Nat) : Int)) := by
          rw [AB,if_pos (by omega),AO hg,za,if_neg c,AC (by omega)]; rfl
        rw [BI hst]
        refine ih (k + 1) (by omega) (fun x hx => ?_)
        rw [List.take_succ_eq_append_getElem hkl] at hx
        rcases List.mem_append.1 hx with h | h
        · exact hn x h
        · rw [List.mem_singleton.1 h]; exact c
  obtain ⟨i,h1,h2⟩ := key l.length 0 (by omega) (by simp)
  have h1' : GU (Am (AB l) 0) (fun _ => some (-1)) = some i := h1
  unfold AY Bn
  rw [h1',za]
  congr 1
  exact decide_eq_decide.2 h2
theorem Jn {t : Tp} : Eg t = some (decide (CS t)) := by
  unfold Eg
  by_cases c : t.1 < 1 ∨ 8 < t.1 ∨ 24 < (t.2.1.length : Int) ∨ 8 < (t.2.2.length : Int)
  · rw [if_pos (by simpa using c),decide_eq_false (fun h => by have := h.1; omega)]
  · rw [if_neg (by simpa using c)]
    have hl : t.2.1.length ≤ 24 := by omega
    have hh : t.2.2.length ≤ 8 := by omega
    have hpl : (pl t).length ≤ 1000 := by
      have fl : ∀ l : List Lk,(l.flatMap C9).length = 2 * l.length := fun l => by
        induction l with
        | nil => rfl
        | cons x l ih => rw [List.flatMap_cons,List.length_append,ih,List.length_cons]; simp; omega
      unfold pl
      rw [List.length_append,fl]; omega
    have hmem : ∀ q,q ∈ pl t ↔ (∃ x ∈ t.2.1,q ∈ C9 x) ∨ q ∈ t.2.2 := fun q => by
      unfold pl
      rw [List.mem_append,List.mem_flatMap]
    rw [RS hl hh,za,Qh hpl,Qj (by omega)]
    have hok : CS t ↔ ((∀ q ∈ pl t,XU t q) ∧ (pl t).Nodup) ∧ ¬ ∃ x ∈ t.2.1,Bh x = true := by
      have hw : ∀ x : Lk, ¬ Bh x = true ↔ (x.1 ≠ x.2.2.1 ∧ 1 ≤ x.2.2.2.2.1 ∧ x.2.2.2.2.1 ≤ x.2.2.2.2.2 ∧ x.2.2.2.2.2 ≤ 1000) := fun x => by
        unfold Bh
        simp only [Bool.or_eq_true,decide_eq_true_eq]
        omega
      constructor
      · rintro ⟨h0,h1,h2⟩
        have hp : ∀ q ∈ pl t,EV t q := fun q hq => by
          rcases (hmem q).1 hq with ⟨x,hx,hq⟩ | hq
          · obtain ⟨_,_,_,_,k5,k6⟩ := h1 x hx
            rcases List.mem_cons.1 hq with h | h
            · rw [h]; exact k5
            · rw [List.mem_singleton.1 h]; exact k6
          · exact h2 q hq
        refine ⟨⟨fun q hq => ?_,Hi.2 fun q hq => (hp q hq).2.2.2.2⟩,fun ⟨x,hx,hwx⟩ => ?_⟩
        · obtain ⟨a1,a2,a3,a4,_⟩ := hp q hq
          exact ⟨a1,a2,a3,a4⟩
        · obtain ⟨k1,k2,k3,k4,_⟩ := h1 x hx
          exact (hw x).2 ⟨k1,k2,k3,k4⟩ hwx
      · rintro ⟨⟨h1,h2⟩,h3⟩
        have hp : ∀ q ∈ pl t,EV t q := fun q hq => by
          obtain ⟨a1,a2,a3,a4⟩ := h1 q hq
          exact ⟨a1,a2,a3,a4,Hi.1 h2 q hq⟩
        refine ⟨by omega,fun x hx => ?_,fun q hq => hp q ((hmem q).2 (.inr hq))⟩
        obtain ⟨k1,k2,k3,k4⟩ := (hw x).1 (fun h => h3 ⟨x,hx,h⟩)
        exact ⟨k1,k2,k3,k4,hp _ ((hmem _).2 (.inl ⟨x,hx,by simp⟩)),hp _ ((hmem _).2 (.inl ⟨x,hx,by simp⟩))⟩
    by_cases c1 : (∀ q ∈ pl t,XU t q) ∧ (pl t).Nodup
    · rw [if_pos c1]
      show some (!decide (∃ x ∈ t.2.1,Bh x = true)) = _
      by_cases c2 : ∃ x ∈ t.2.1,Bh x = true
      · rw [decide_eq_true c2,decide_eq_false (fun h => (hok.1 h).2 c2)]; rfl
      · rw [decide_eq_false c2,decide_eq_true (hok.2 ⟨c1,c2⟩)]; rfl
    · rw [if_neg c1,decide_eq_false (fun h => c1 (hok.1 h).1)]; rfl
abbrev Sd := Int × Int × Int
def Nw (sw : Int) (i : Nat) (x : Lk) : List Sd := if sw = x.1 then [(x.2.1,x.2.2.1,(i : Int))] else if sw = x.2.2.1 then [(x.2.2.2.1,x.1,(i : Int))] else []
def FR (t : Tp) (sw : Int) (s : Sd) : Prop := ∃ i x,t.2.1[i]? = some x ∧ s ∈ Nw sw i x
theorem Iz {sw : Int} {i : Nat} {x : Lk} {s : Sd} (h : s ∈ Nw sw i x) : s.2.2 = (i : Int) ∧ (sw,s.1) ∈ C9 x := by
  unfold Nw at h
  by_cases c1 : sw = x.1
  · rw [if_pos c1,List.mem_singleton] at h; subst h; simp [c1]
  · rw [if_neg c1] at h
    by_cases c2 : sw = x.2.2.1
    · rw [if_pos c2,List.mem_singleton] at h; subst h; simp [c2]
    · rw [if_neg c2] at h; cases h
theorem PH {t : Tp} (hl : t.2.1.length ≤ 24) (sw : Int) : ∃ out,Am (DN t sw) ([],0) = some out ∧ (∀ s,s ∈ out ↔ FR t sw s) ∧ out.Pairwise fun a b => a.2.2 < b.2.2 := by
  obtain ⟨out,⟨h1,h3,_⟩,h2⟩ := Bw t.2.1.length (fun (s : List Sd) (k : Nat) => (s,(k : Int))) (DN t sw) id
    (fun out k => (∀ s,s ∈ out ↔ ∃ i x,i < k ∧ t.2.1[i]? = some x ∧ s ∈ Nw sw i x) ∧ out.Pairwise (fun a b => a.2.2 < b.2.2) ∧ out.length ≤ k)
    (fun out k hk ⟨i1,i2,i3⟩ => by
      have hg := zb hk
      refine ⟨out ++ Nw sw k t.2.1[k], ?_,fun s => ?_, ?_, ?_⟩
      · rw [DN,if_pos (by omega),AO hg,za]
        unfold Nw
        by_cases c1 : sw = t.2.1[k].1
        · rw [if_pos c1,if_pos c1,Cs (by simp; omega),za,za,AC (by omega)]; rfl
        · rw [if_neg c1,if_neg c1]
          by_cases c2 : sw = t.2.1[k].2.2.1
          · rw [if_pos c2,if_pos c2,Cs (by simp; omega),za,za,AC (by omega)]; rfl
          · rw [if_neg c2,if_neg c2,za,AC (by omega),List.append_nil]; rfl
      · rw [List.mem_append,i1]
        constructor
        · rintro (⟨i,x,a,b,c⟩ | h)
          · exact ⟨i,x,by omega,b,c⟩
          · exact ⟨k,_,by omega,hg,h⟩
        · rintro ⟨i,x,a,b,c⟩
          by_cases e : i = k
          · subst e
            rw [hg] at b
            cases b
            exact .inr c
          · exact .inl ⟨i,x,by omega,b,c⟩
      · rw [List.pairwise_append]
        refine ⟨i2, ?_,fun a ha b hb => ?_⟩
        · unfold Nw
          split
          · simp
          · split <;> simp
        · obtain ⟨i,x,a1,a2,a3⟩ := (i1 a).1 ha
          rw [(Iz a3).1,(Iz hb).1]; omega
      · have : (Nw sw k t.2.1[k]).length ≤ 1 := by
          unfold Nw
          split
          · simp
          · split <;> simp
        rw [List.length_append]; omega)
    (fun s _ => by rw [DN,if_neg (by omega)]; rfl) [] ⟨fun s => by simp,List.Pairwise.nil,by simp⟩
  refine ⟨out,h2,fun s => ?_,h3⟩
  rw [h1]
  exact ⟨fun ⟨i,x,_,b,c⟩ => ⟨i,x,b,c⟩,fun ⟨i,x,b,c⟩ => ⟨i,x,(List.getElem?_eq_some_iff.1 b).1,b,c⟩⟩
theorem Sv {t : Tp} (hok : CS t) {sw : Int} {a b : Sd} (ha : FR t sw a) (hb : FR t sw b) (hne : a.2.2 ≠ b.2.2) : a.1 ≠ b.1 := fun e => by
  obtain ⟨i,x,a1,a2⟩ := ha
  obtain ⟨j,y,b1,b2⟩ := hb
  obtain ⟨a3,a4⟩ := Iz a2
  obtain ⟨b3,b4⟩ := Iz b2
  have hxm := List.mem_of_getElem? a1
  have q1 : (pl t).count (sw,a.1) = 1 := by
    obtain ⟨_,_,_,_,k5,k6⟩ := hok.2.1 x hxm
    rcases List.mem_cons.1 a4 with h | h
    · rw [h]; exact k5.2.2.2.2
    · rw [List.mem_singleton.1 h]; exact k6.2.2.2.2
  have := ME a1 b1 a4 (by rw [e]; exact b4) q1
  rw [a3,b3,this] at hne
  exact hne rfl
theorem Gk {t : Tp} (hok : CS t) {sw : Int} {a : Sd} (ha : FR t sw a) : 0 ≤ a.1 ∧ a.1 ≤ 7 := by
  obtain ⟨i,x,a1,a2⟩ := ha
  obtain ⟨_,a4⟩ := Iz a2
  obtain ⟨_,_,_,_,k5,k6⟩ := hok.2.1 x (List.mem_of_getElem? a1)
  rcases List.mem_cons.1 a4 with h | h
  · have h2 : a.1 = x.2.1 := congrArg Prod.snd h
    have := k5.2.2.1
    have := k5.2.2.2.1
    simp only at *; omega
  · have h2 : a.1 = x.2.2.2.1 := congrArg Prod.snd (List.mem_singleton.1 h)
    have := k6.2.2.1
    have := k6.2.2.2.1
    simp only at *; omega
theorem XD (a b : Int) : Cz a b < 0 ↔ a < b := by
  unfold Cz Co
  rw [if_neg (by simp),if_neg (by simp)]
  by_cases c : a < b
  · rw [if_pos c]; simp [c]
  · rw [if_neg c]
    split <;> simp [c]
theorem QW (a b : Sd) : E1 a b < 0 ↔ a.1 < b.1 := XD a.1 b.1
theorem Ry (L : List Sd) (j : Nat) (h : j < L.length) (hL : L.length ≤ 1000) : AS 0 (L,(j : Int)) = if 0 < j ∧ L[j].1 < (L[j - 1]'(by omega)).1 then some (.inl (Oq L j h,((j - 1 : Nat) : Int))) else some (.inr L) := by
  rw [AS]
  by_cases c : 0 < j
  · have hw : w64 ((j : Int) - 1) = ((j - 1 : Nat) : Int) := by rw [AC (by omega)]; omega
    have g1 := AO (zb h)
    have g2 := AO (zb (show j - 1 < L.length by omega))
    rw [if_pos (by omega),hw,g1,za,g2,za,za]
    by_cases c2 : L[j].1 < (L[j - 1]'(by omega)).1
    · have hlen : j - 1 < (Ao L (j : Int) (L[j - 1]'(by omega))).length := by unfold Ao; simp; omega
      rw [decide_eq_true ((QW _ _).2 c2),if_pos rfl,if_pos ⟨c,c2⟩,za,za,za,AO (zb hlen),za]
      unfold Ao Oq
      rw [Int.toNat_natCast,Int.toNat_natCast]
    · rw [decide_eq_false (fun hh => c2 ((QW _ _).1 hh)),if_neg (by decide),if_neg (fun hh => c2 hh.2)]
  · rw [if_neg (by omega),za,if_neg (by decide),if_neg (fun hh => c hh.1)]
theorem W4 {L : List Sd} (hL : L.length ≤ 12) : ∃ L',A2 L = some L' ∧ L'.Perm L ∧ Tm (fun s : Sd => s.1) L' L.length := by
  have hlen : ∀ n : Nat,n ≤ 12 → ∃ v,Dh (IntKind.u64.wrap (n : Int)) = some v := fun n hn => by
    have : n = 0 ∨ n = 1 ∨ n = 2 ∨ n = 3 ∨ n = 4 ∨ n = 5 ∨ n = 6 ∨ n = 7 ∨ n = 8 ∨ n = 9 ∨ n = 10 ∨ n = 11 ∨ n = 12 := by omega
    apply Option.isSome_iff_exists.1
    rcases this with rfl | rfl | rfl | rfl | rfl | rfl | rfl | rfl | rfl | rfl | rfl | rfl | rfl <;> kernel_rfl
  obtain ⟨v,hv⟩ := hlen L.length hL
  have hn : (L.length : Int) = ((L.length : Nat) : Int) := rfl
  obtain ⟨L',e,p,o⟩ := Qr (key := fun s : Sd => s.1) (L0 := L) (S := AS 0) (T := AL 0 (L.length : Int)) (fun M j h hM => Ry M j h (by omega))
    (fun M i hM hi => by rw [AL,if_pos (by omega),AC (by omega)]; rfl) (fun M i hi => by rw [AL,if_neg (by omega)])
  refine ⟨L', ?_,p,o⟩
  have hp : Be L 0 (L.length : Int) v = some L' := by
    unfold Be
    refine AJ ?_
    rw [BK,if_pos (by rw [AC (by omega)]; omega)]
    unfold Bd
    show (Am (AL 0 (L.length : Int)) (L,1)).bind _ = _
    rw [e]; rfl
  unfold A2
  rw [hv,za,hp]; rfl
theorem B6 : ∀ (m : Nat) (got : List Int),got.Nodup → (∀ x ∈ got,0 ≤ x ∧ x < (m : Int)) → got.length ≤ m
  | 0,got,_,h => by
    cases got with
    | nil => simp
    | cons x l => have := h x (List.mem_cons_self ..); omega
  | m + 1,got,hn,h => by
    have h2 := B6 m (got.erase (m : Int)) (hn.erase _) (fun x hx => by
      have h3 := h x (List.mem_of_mem_erase hx)
      have h4 : x ≠ (m : Int) := fun e => by
        subst e
        exact (List.Nodup.not_mem_erase hn) hx
      omega)
    have h5 : got.length ≤ (got.erase (m : Int)).length + 1 := by
      rw [List.length_erase]; split <;> omega
    omega
theorem HU {t : Tp} (hok : CS t) (sw : Int) : ∃ N,Dk t sw = some N ∧ (∀ s,s ∈ N ↔ FR t sw s) ∧ N.Pairwise (fun a b => a.1 < b.1) ∧ N.length ≤ 8 := by
  obtain ⟨out,e,hm,hp⟩ := PH hok.1.2.2.1 sw
  have hd : out.Pairwise fun a b => a.1 ≠ b.1 := hp.imp_of_mem fun {a b} ha hb hab => Sv hok ((hm a).1 ha) ((hm b).1 hb) (by omega)
  have hlen : out.length ≤ 8 := by
    have := B6 8 (out.map (·.1)) (List.pairwise_map.2 hd) (fun x hx => by
      obtain ⟨s,hs,rfl⟩ := List.mem_map.1 hx
      have := Gk hok ((hm s).1 hs)
      omega)
    rwa [List.length_map] at this
  obtain ⟨N,e2,p,o⟩ := W4 (L := out) (by omega)
  have hN := p.length_eq
  refine ⟨N, ?_,fun s => by rw [p.mem_iff,hm], ?_,by omega⟩
  · unfold Dk
    rw [e,za,e2]; rfl
  · have hd2 : N.Pairwise fun a b => a.1 ≠ b.1 := (p.pairwise_iff (fun {a b} h => Ne.symm h)).2 hd
    rw [List.pairwise_iff_getElem] at hd2 ⊢
    intro i j hi hj hij
    have h1 := hd2 i j hi hj hij
    have h2 : N[i].1 ≤ N[j].1 := o i j hj hij (by omega)
    omega
def hv (h : List Int) (v : Int) : Int := h.getD v.toNat (-1)
theorem E0 {h : List Int} {v : Int} (h0 : 0 ≤ v) (h1 : v < (h.length : Int)) : ix h v = some (hv h v) := by
  obtain ⟨k,rfl⟩ : ∃ k : Nat,v = k := ⟨v.toNat,by omega⟩
  have hk : k < h.length := by omega
  rw [AO (zb hk)]
  unfold hv
  rw [Int.toNat_natCast,List.getD_eq_getElem?_getD,zb hk]; rfl
theorem Fj {h : List Int} {v y : Int} : (Ao h v y).length = h.length := by unfold Ao; simp
theorem EU {h : List Int} {v u y : Int} (h0 : 0 ≤ v) (h1 : v < (h.length : Int)) (h2 : 0 ≤ u) : hv (Ao h v y) u = if u = v then y else hv h u := by
  unfold hv Ao
  rw [List.getD_eq_getElem?_getD,List.getElem?_set]
  by_cases c : u = v
  · subst c
    rw [if_pos rfl,if_pos rfl,if_pos (by omega)]; rfl
  · rw [if_neg (by omega),if_neg c,List.getD_eq_getElem?_getD]
theorem T1 {h g : List Int} (hl : h.length = g.length) (he : ∀ v : Int,0 ≤ v → v < (h.length : Int) → hv h v = hv g v) : h = g := by
  apply List.ext_getElem hl
  intro i h1 h2
  have := he (i : Int) (by omega) (by omega)
  unfold hv at this
  rw [Int.toNat_natCast,List.getD_eq_getElem?_getD,List.getD_eq_getElem?_getD,zb h1,zb h2] at this
  exact this
abbrev VV (t : Tp) (v : Int) : Prop := 0 ≤ v ∧ v < t.1
theorem bB : Aq [-1] 1 = some [-1] := by
  unfold Aq
  rw [if_neg (by decide),if_neg (by decide)]
  show (mk (w64 1) (0 : Int)).bind _ = _
  rw [Id (by decide),za]
  show (Am Ap ([-1],1)).bind _ = _
  rw [Cr.2 (⟨6,by kernel_rfl⟩ : ∃ n,D4 Ap n ([-1],1) = some [-1])]; rfl
theorem aH : Aq [-1] 2 = some [-1, -1] := by
  unfold Aq
  rw [if_neg (by decide),if_neg (by decide)]
  show (mk (w64 2) (0 : Int)).bind _ = _
  rw [Id (by decide),za]
  show (Am Ap ([-1,0],1)).bind _ = _
  rw [Cr.2 (⟨6,by kernel_rfl⟩ : ∃ n,D4 Ap n ([-1,0],1) = some [-1, -1])]; rfl
theorem d7 : Aq [-1] 3 = some [-1, -1, -1] := by
  unfold Aq
  rw [if_neg (by decide),if_neg (by decide)]
  show (mk (w64 3) (0 : Int)).bind _ = _
  rw [Id (by decide),za]
  show (Am Ap ([-1,0,0],1)).bind _ = _
  rw [Cr.2 (⟨6,by kernel_rfl⟩ : ∃ n,D4 Ap n ([-1,0,0],1) = some [-1, -1, -1])]; rfl
theorem dM : Aq [-1] 4 = some [-1, -1, -1, -1] := by
  unfold Aq
  rw [if_neg (by decide),if_neg (by decide)]
  show (mk (w64 4) (0 : Int)).bind _ = _
  rw [Id (by decide),za]
  show (Am Ap ([-1,0,0,0],1)).bind _ = _
  rw [Cr.2 (⟨6,by kernel_rfl⟩ : ∃ n,D4 Ap n ([-1,0,0,0],1) = some [-1, -1, -1, -1])]; rfl
theorem aZ : Aq [-1] 5 = some [-1, -1, -1, -1, -1] := by
  unfold Aq
  rw [if_neg (by decide),if_neg (by decide)]
  show (mk (w64 5) (0 : Int)).bind _ = _
  rw [Id (by decide),za]
  show (Am Ap ([-1,0,0,0,0],1)).bind _ = _
  rw [Cr.2 (⟨6,by kernel_rfl⟩ : ∃ n,D4 Ap n ([-1,0,0,0,0],1) = some [-1, -1, -1, -1, -1])]; rfl
theorem Z6 : Aq [-1] 6 = some [-1, -1, -1, -1, -1, -1] := by
  unfold Aq
  rw [if_neg (by decide),if_neg (by decide)]
  show (mk (w64 6) (0 : Int)).bind _ = _
  rw [Id (by decide),za]
  show (Am Ap ([-1,0,0,0,0,0],1)).bind _ = _
  rw [Cr.2 (⟨6,by kernel_rfl⟩ : ∃ n,D4 Ap n ([-1,0,0,0,0,0],1) = some [-1, -1, -1, -1, -1, -1])]; rfl
theorem cG : Aq [-1] 7 = some [-1, -1, -1, -1, -1, -1, -1] := by
  unfold Aq
  rw [if_neg (by decide),if_neg (by decide)]
  show (mk (w64 7) (0 : Int)).bind _ = _
  rw [Id (by decide),za]
  show (Am Ap ([-1,0,0,0,0,0,0],1)).bind _ = _
  rw [Cr.2 (⟨6,by kernel_rfl⟩ : ∃ n,D4 Ap n ([-1,0,0,0,0,0,0],1) = some [-1, -1, -1, -1, -1, -1, -1])]; rfl
theorem dT : Aq [-1] 8 = some [-1, -1, -1, -1, -1, -1, -1, -1] := by
  unfold Aq
  rw [if_neg (by decide),if_neg (by decide)]
  show (mk (w64 8) (0 : Int)).bind _ = _
  rw [Id (by decide),za]
  show (Am Ap ([-1,0,0,0,0,0,0,0],1)).bind _ = _
  rw [Cr.2 (⟨6,by kernel_rfl⟩ : ∃ n,D4 Ap n ([-1,0,0,0,0,0,0,0],1) = some [-1, -1, -1, -1, -1, -1, -1, -1])]; rfl
theorem Rc {n : Int} (h : 1 ≤ n ∧ n ≤ 8) : Aq [-1] n = some (List.replicate n.toNat (-1)) := by
  have : n = 1 ∨ n = 2 ∨ n = 3 ∨ n = 4 ∨ n = 5 ∨ n = 6 ∨ n = 7 ∨ n = 8 := by omega
  rcases this with rfl | rfl | rfl | rfl | rfl | rfl | rfl | rfl
  · exact bB
  · exact aH
  · exact d7
  · exact dM
  · exact aZ
  · exact Z6
  · exact cG
  · exact dT
theorem IB {n : Nat} {v : Int} : hv (List.replicate n (-1)) v = -1 := by
  unfold hv
  rw [List.getD_eq_getElem?_getD,List.getElem?_replicate]
  split <;> rfl
theorem MC (t : Tp) (a p : Int) : Hc t a p = HR t a p := by
  have : FM t a p = Cj t a p := by
    funext i
    rw [FM,Cj]
    congr 2
    funext x
    by_cases c1 : a = x.1 ∧ p = x.2.1
    · rw [if_pos c1,if_pos (by simp [c1.1,c1.2])]
    · rw [if_neg c1,if_neg (by simp only [zf,decide_eq_true_eq]; exact fun h => c1 ⟨h.1.symm,h.2.symm⟩)]
      by_cases c2 : a = x.2.2.1 ∧ p = x.2.2.2.1
      · rw [if_pos c2,if_pos (by simp [c2.1,c2.2])]
      · rw [if_neg c2,if_neg (by simp only [zf,decide_eq_true_eq]; exact fun h => c2 ⟨h.1.symm,h.2.symm⟩)]
  unfold Hc HR
  rw [this]
theorem TM : ∀ {A B : List Sd},A.Pairwise (fun a b => a.1 < b.1) → B.Pairwise (fun a b => a.1 < b.1) → (∀ s,s ∈ A ↔ s ∈ B) → A = B
  | [],[],_,_,_ => rfl
  | [],b :: B,_,_,h => by have := (h b).2 (List.mem_cons_self ..); cases this
  | a :: A,[],_,_,h => by have := (h a).1 (List.mem_cons_self ..); cases this
  | a :: A,b :: B,hA,hB,h => by
    obtain ⟨a1,a2⟩ := List.pairwise_cons.1 hA
    obtain ⟨b1,b2⟩ := List.pairwise_cons.1 hB
    have hab : a = b := by
      rcases List.mem_cons.1 ((h a).1 (List.mem_cons_self ..)) with e | e
      · exact e
      · rcases List.mem_cons.1 ((h b).2 (List.mem_cons_self ..)) with e2 | e2
        · exact e2.symm
        · have := b1 a e
          have := a1 b e2
          omega
    subst hab
    rw [TM a2 b2 (fun s => ?_)]
    constructor
    · intro hs
      rcases List.mem_cons.1 ((h s).1 (zc _ hs)) with e | e
      · subst e; have := a1 s hs; omega
      · exact e
    · intro hs
      rcases List.mem_cons.1 ((h s).2 (zc _ hs)) with e | e
      · subst e; have := b1 s hs; omega
      · exact e
theorem Vo {t : Tp} (hok : CS t) (sw p : Int) : ∃ R : Pr,HR t sw p = some R ∧ ((R.2.2.2 = true ∧ FR t sw (p,R.1,R.2.2.1)) ∨ (R.2.2.2 = false ∧ ∀ s : Sd,FR t sw s → s.1 ≠ p)) ∧ ∀ s : Sd,FR t sw s → s.1 = p → R.2.2.2 = true ∧ s = (p,R.1,R.2.2.1) := by
  obtain ⟨R,e,h⟩ := RP hok.1.2.2.1 sw p
  refine ⟨R,e, ?_, ?_⟩
  · rcases h with ⟨rfl,hn⟩ | ⟨i,x,hi,hs⟩
    · refine .inr ⟨rfl,fun s ⟨j,y,hj,hy⟩ e => ?_⟩
      have := (Iz hy).2
      rw [e] at this
      exact hn y (List.mem_of_getElem? hj) this
    · refine .inl ?_
      have hne := (hok.2.1 x (List.mem_of_getElem? hi)).1
      rcases hs with ⟨a1,a2,rfl⟩ | ⟨_,a1,a2,rfl⟩
      · exact ⟨rfl,i,x,hi,by unfold Nw; rw [if_pos a1,a2]; simp⟩
      · exact ⟨rfl,i,x,hi,by unfold Nw; rw [if_neg (fun e => hne (e.symm.trans a1)),if_pos a1,a2]; simp⟩
  · rintro s ⟨j,y,hj,hy⟩ hsp
    obtain ⟨s1,s2⟩ := Iz hy
    rcases h with ⟨rfl,hn⟩ | ⟨i,x,hi,hs⟩
    · rw [hsp] at s2
      exact absurd s2 (hn y (List.mem_of_getElem? hj))
    · have m1 := (S8 hs).1
      have hxm := List.mem_of_getElem? hi
      obtain ⟨hne,_,_,_,k5,k6⟩ := hok.2.1 x hxm
      have q1 : (pl t).count (sw,p) = 1 := by
        rcases List.mem_cons.1 m1 with h | h
        · rw [h]; exact k5.2.2.2.2
        · rw [List.mem_singleton.1 h]; exact k6.2.2.2.2
      have hij := ME hi hj m1 (by rw [← hsp]; exact s2) q1
      subst hij
      have hxy : x = y := Option.some.inj (hi.symm.trans hj)
      subst hxy
      unfold Nw at hy
      rcases hs with ⟨a1,a2,rfl⟩ | ⟨_,a1,a2,rfl⟩
      · rw [if_pos a1,List.mem_singleton] at hy
        subst hy
        exact ⟨rfl,by rw [← hsp]⟩
      · rw [if_neg (fun e => hne (e.symm.trans a1)),if_pos a1,List.mem_singleton] at hy
        subst hy
        exact ⟨rfl,by rw [← hsp]⟩
theorem IF {t : Tp} (hok : CS t) (sw : Int) : ∃ N,E6 t sw = some N ∧ (∀ s,s ∈ N ↔ FR t sw s) ∧ N.Pairwise (fun a b => a.1 < b.1) := by
  obtain ⟨out,⟨h1,h3,_⟩,h2⟩ := Bw 8 (fun (s : List Sd) (k : Nat) => (s,(k : Int))) (Dy t sw) id
    (fun out k => (∀ s,s ∈ out ↔ FR t sw s ∧ s.1 < (k : Int)) ∧ out.Pairwise (fun a b => a.1 < b.1) ∧ out.length ≤ k)
    (fun out k hk ⟨i1,i2,i3⟩ => by
      obtain ⟨R,e,hR,hu⟩ := Vo hok sw (k : Int)
      rcases hR with ⟨hR,hat⟩ | ⟨hR,hno⟩
      · refine ⟨out ++ [((k : Int),R.1,R.2.2.1)], ?_,fun s => ?_, ?_,by simp; omega⟩
        · rw [Dy,if_pos (by omega),MC,e,za,if_pos hR,Cs (by simp; omega),za,za,AC (by omega)]; rfl
        · rw [List.mem_append,i1,List.mem_singleton]
          constructor
          · rintro (⟨a,b⟩ | rfl)
            · exact ⟨a,by omega⟩
            · exact ⟨hat,by show (k : Int) < _; omega⟩
          · rintro ⟨a,b⟩
            by_cases c : s.1 = (k : Int)
            · exact .inr (hu s a c).2
            · exact .inl ⟨a,by omega⟩
        · rw [List.pairwise_append]
          exact ⟨i2,by simp,fun a ha b hb => by rw [List.mem_singleton.1 hb]; exact ((i1 a).1 ha).2⟩
      · refine ⟨out, ?_,fun s => ?_,i2,by omega⟩
        · rw [Dy,if_pos (by omega),MC,e,za,if_neg (by rw [hR]; decide),za,AC (by omega)]; rfl
        · rw [i1]
          exact ⟨fun ⟨a,b⟩ => ⟨a,by omega⟩,fun ⟨a,b⟩ => ⟨a,by have := hno s a; omega⟩⟩)
    (fun s _ => by rw [Dy,if_neg (by omega)]; rfl) [] ⟨fun s => ⟨fun h => (by cases h),fun ⟨a,b⟩ => (by have := (Gk hok a).1; omega)⟩,List.Pairwise.nil,by simp⟩
  have e1 : Am (Dy t sw) ([],0) = some out := h2
  refine ⟨out, ?_,fun s => ?_,h3⟩
  · unfold E6; rw [e1]; rfl
  · rw [h1]
    exact ⟨fun h => h.1,fun h => ⟨h,by have := (Gk hok h).2; omega⟩⟩
theorem WX {l : List Int} {y v : Int} (h0 : 0 ≤ v) : hv (l ++ [y]) v = if v = (l.length : Int) then y else hv l v := by
  unfold hv
  rw [List.getD_eq_getElem?_getD,List.getD_eq_getElem?_getD]
  by_cases c : v = (l.length : Int)
  · rw [if_pos c,c,Int.toNat_natCast,List.getElem?_append_right (Nat.le_refl _)]; simp
  · rw [if_neg c]
    by_cases c2 : v.toNat < l.length
    · rw [List.getElem?_append_left c2]
    · rw [List.getElem?_eq_none (by simp; omega),List.getElem?_eq_none (by omega)]
end Go.Proofs.YtbiekjhlijdjbaaGreat
