/- Layer 30: which networks may be. Conditions: none. -/
import Derived.Test.YtgoifghhcekahaaGreatDooreN30
namespace Go.Proofs.YtgoifghhcekahaaGreatDoor
set_option linter.unusedVariables false
set_option linter.unusedSimpArgs false
open Go Go.RowKit
abbrev Lk := Int × Int × Int × Int × Int × Int
abbrev Tp := Int × List Lk × List (Int × Int)
abbrev R3 (l : Lk) : List (Int × Int) := [(l.1,l.2.1),(l.2.2.1,l.2.2.2.1)]
def pl (t : Tp) : List (Int × Int) := t.2.1.flatMap R3 ++ t.2.2
abbrev PI (t : Tp) (q : Int × Int) : Prop := 0 ≤ q.1 ∧ q.1 < t.1 ∧ 0 ≤ q.2 ∧ q.2 ≤ 7 ∧ (pl t).count q = 1
abbrev lF (t : Tp) (l : Lk) : Prop := l.1 ≠ l.2.2.1 ∧ 1 ≤ l.2.2.2.2.1 ∧ l.2.2.2.2.1 ≤ l.2.2.2.2.2 ∧ l.2.2.2.2.2 ≤ 1000 ∧ PI t (l.1,l.2.1) ∧ PI t (l.2.2.1,l.2.2.2.1)
abbrev vK (t : Tp) : Prop := (1 ≤ t.1 ∧ t.1 ≤ 8 ∧ t.2.1.length ≤ 24 ∧ t.2.2.length ≤ 8) ∧ (∀ l ∈ t.2.1,lF t l) ∧ ∀ h ∈ t.2.2,PI t h
theorem Lm {α : Type} [BEq α] [LawfulBEq α] : ∀ {l : List α},l.Nodup ↔ ∀ q ∈ l,l.count q = 1
  | [] => by simp
  | x :: l => by
    rw [List.nodup_cons,Lm]
    constructor
    · rintro ⟨h1,h2⟩ q hq
      rw [List.count_cons]
      by_cases c : x = q
      · subst c
        rw [List.count_eq_zero_of_not_mem h1]; simp
      · rcases List.mem_cons.1 hq with h | h
        · exact absurd h.symm c
        · rw [h2 q h,if_neg (by simpa using c)]
    · intro h
      have hx := h x (List.mem_cons_self ..)
      rw [List.count_cons,if_pos (by simp)] at hx
      have h1 : x ∉ l := fun hm => by have := List.count_pos_iff.2 hm; omega
      refine ⟨h1,fun q hq => ?_⟩
      have := h q (List.mem_cons_of_mem _ hq)
      rw [List.count_cons,if_neg (by simp; intro e; subst e; exact h1 hq)] at this
      exact this
abbrev OY (l : List (Int × Int)) : List ((Int × Int) × Unit) := l.map fun q => (q,())
theorem QD : ∀ (l : List (Int × Int)) (q : Int × Int),(O1 (OY l) q).isSome = decide (q ∈ l)
  | [],q => by simp [OY,O1]
  | x :: l,q => by
    show (if q = x then some () else O1 (OY l) q).isSome = _
    by_cases c : q = x
    · rw [if_pos c,decide_eq_true (by rw [c]; exact List.mem_cons_self ..)]; rfl
    · rw [if_neg c,QD l q]
      exact decide_eq_decide.2 ⟨fun h => List.mem_cons_of_mem _ h,fun h => (List.mem_cons.1 h).resolve_left c⟩
theorem UB : ∀ (l : List (Int × Int)) (q : Int × Int),q ∉ l → KD (OY l) q () = OY (l ++ [q])
  | [],q,_ => rfl
  | x :: l,q,h => by
    show (if q = x then (q,()) :: OY l else (x,()) :: KD (OY l) q ()) = _
    rw [if_neg (fun e => h (by rw [e]; exact List.mem_cons_self ..)),UB l q (fun e => h (List.mem_cons_of_mem _ e))]; rfl
abbrev nR (t : Tp) (q : Int × Int) : Prop := 0 ≤ q.1 ∧ q.1 < t.1 ∧ 0 ≤ q.2 ∧ q.2 ≤ 7
theorem Yo {t : Tp} (hl : t.2.1.length ≤ 24) (hh : t.2.2.length ≤ 8) : H5 t = some (pl t) := by
  have fl : ∀ l : List Lk,(l.flatMap R3).length = 2 * l.length := fun l => by
    induction l with
    | nil => rfl
    | cons x l ih => rw [List.flatMap_cons,List.length_append,ih,List.length_cons]; simp; omega
  obtain ⟨s,h1,h2⟩ := DW t.2.1.length (fun (s : List (Int × Int)) (k : Nat) => (s,(k : Int))) (Gr t) id (fun s k => s = (t.2.1.take k).flatMap R3)
    (fun s k hk hI => by
      have hb : s.length ≤ 100 := by rw [hI,fl,List.length_take]; omega
      refine ⟨s ++ R3 t.2.1[k], ?_, ?_⟩
      · rw [Gr,if_pos (by omega),Bh (List.getElem?_eq_getElem hk),Option.bind_some,IA (by simp; omega),Option.bind_some,Ab (by omega)]; rfl
      · rw [hI,List.take_succ_eq_append_getElem hk,List.flatMap_append,List.flatMap_cons,List.flatMap_nil,List.append_nil])
    (fun s _ => by rw [Gr,if_neg (by omega)]; rfl) [] (by simp)
  have e1 : Ac (Gr t) ([],0) = some s := h2
  rw [List.take_length] at h1
  have hb1 : s.length ≤ 100 := by rw [h1,fl]; omega
  obtain ⟨s2,g1,g2⟩ := DW t.2.2.length (fun (s : List (Int × Int)) (k : Nat) => (s,(k : Int))) (Gj t) id (fun s2 k => s2 = s ++ t.2.2.take k)
    (fun s2 k hk hI => by
      have hb : s2.length ≤ 200 := by rw [hI,List.length_append,List.length_take]; omega
      refine ⟨s2 ++ [t.2.2[k]], ?_, ?_⟩
      · rw [Gj,if_pos (by omega),Bh (List.getElem?_eq_getElem hk),Option.bind_some,IA (by simp; omega),Option.bind_some,Ab (by omega)]; rfl
      · rw [hI,List.take_succ_eq_append_getElem hk,List.append_assoc])
    (fun s _ => by rw [Gj,if_neg (by omega)]; rfl) s (by simp)
  have e2 : Ac (Gj t) (s,0) = some s2 := g2
  rw [List.take_length,h1] at g1
  unfold H5
  rw [e1,Option.bind_some,e2,g1]; rfl
theorem VY {t : Tp} {L : List (Int × Int)} (hL : L.length ≤ 1000) : Ac (D8 t L) (0,[]) = some (if (∀ q ∈ L,nR t q) ∧ L.Nodup then .inl (OY L) else .inr false) := by
  have key : ∀ (d k : Nat),k + d = L.length → (∀ q ∈ L.take k,nR t q) → (L.take k).Nodup → Ac (D8 t L) ((k : Int),OY (L.take k)) = some (if (∀ q ∈ L,nR t q) ∧ L.Nodup then .inl (OY L) else .inr false) := by
    intro d
    induction d with
    | zero =>
      intro k hk h1 h2
      rw [List.take_of_length_le (by omega)] at h1 h2 ⊢
      rw [if_pos ⟨h1,h2⟩]
      exact Af (by rw [D8,if_neg (by omega)])
    | succ d ih =>
      intro k hk h1 h2
      have hkl : k < L.length := by omega
      have hm := List.getElem_mem hkl
      have hg := List.getElem?_eq_getElem hkl
      by_cases c1 : nR t L[k]
      · by_cases c2 : L[k] ∈ L.take k
        · rw [if_neg (fun hh => by
            have h3 := hh.2
            rw [← List.take_append_drop (k + 1) L,List.take_succ_eq_append_getElem hkl] at h3
            have h4 := (List.nodup_append.1 (List.nodup_append.1 h3).1).2.2
            exact h4 _ c2 _ (List.mem_singleton.2 rfl) rfl)]
          exact Af (by
            rw [D8,if_pos (by omega),Bh hg,Option.bind_some,if_neg (by simp; omega),QD,decide_eq_true c2,if_pos rfl])
        · have hst : D8 t L ((k : Int),OY (L.take k)) = some (.inl (((k + 1 : Nat) : Int),OY (L.take (k + 1)))) := by
            rw [D8,if_pos (by omega),Bh hg,Option.bind_some,if_neg (by simp; omega),QD,decide_eq_false c2,if_neg (by decide),UB _ _ c2,Ab (by omega),List.take_succ_eq_append_getElem hkl]; rfl
          rw [AH hst]
          refine ih (k + 1) (by omega) (fun q hq => ?_) ?_
          · rw [List.take_succ_eq_append_getElem hkl] at hq
            rcases List.mem_append.1 hq with h | h
            · exact h1 q h
            · rw [List.mem_singleton.1 h]; exact c1
          · rw [List.take_succ_eq_append_getElem hkl,List.nodup_append]
            exact ⟨h2,by simp,fun a ha b hb => by rw [List.mem_singleton.1 hb]; intro e; subst e; exact c2 ha⟩
      · rw [if_neg (fun hh => c1 (hh.1 _ hm))]
        exact Af (by
          rw [D8,if_pos (by omega),Bh hg,Option.bind_some,if_pos (by simp; omega)])
  exact key L.length 0 (by omega) (by simp) (by simp)
theorem Vx {l : List Lk} (hl : l.length ≤ 1000) : BB l = some (decide (∃ x ∈ l,CI x = true)) := by
  have key : ∀ (d k : Nat),k + d = l.length → (∀ x ∈ l.take k, ¬ CI x = true) → ∃ i : Int,Hc (Ac (A1 l) (k : Int)) (fun _ => some (-1)) = some i ∧ (0 ≤ i ↔ ∃ x ∈ l,CI x = true) := by
    intro d
    induction d with
    | zero =>
      intro k hk hn
      rw [List.take_of_length_le (by omega)] at hn
      exact ⟨-1,by rw [Af (by rw [A1,if_neg (by omega)])]; rfl,⟨fun h => by omega,fun ⟨x,hx,h⟩ => absurd h (hn x hx)⟩⟩
    | succ d ih =>
      intro k hk hn
      have hkl : k < l.length := by omega
      have hg := List.getElem?_eq_getElem hkl
      by_cases c : CI l[k] = true
      · exact ⟨(k : Int),by rw [Af (by rw [A1,if_pos (by omega),Bh hg,Option.bind_some,if_pos c])]; rfl,⟨fun _ => ⟨_,List.getElem_mem hkl,c⟩,fun _ => by omega⟩⟩
      · have hst : A1 l (k : Int) = some (.inl ((k + 1 : Nat) : Int)) := by
          rw [A1,if_pos (by omega),Bh hg,Option.bind_some,if_neg c,Ab (by omega)]; rfl
        rw [AH hst]
        refine ih (k + 1) (by omega) (fun x hx => ?_)
        rw [List.take_succ_eq_append_getElem hkl] at hx
        rcases List.mem_append.1 hx with h | h
        · exact hn x h
        · rw [List.mem_singleton.1 h]; exact c
  obtain ⟨i,h1,h2⟩ := key l.length 0 (by omega) (by simp)
  have h1' : Hc (Ac (A1 l) 0) (fun _ => some (-1)) = some i := h1
  unfold BB Dq
  rw [h1',Option.bind_some]
  congr 1
  exact decide_eq_decide.2 h2
theorem dS {t : Tp} : HL t = some (decide (vK t)) := by
  unfold HL
  by_cases c : t.1 < 1 ∨ 8 < t.1 ∨ 24 < (t.2.1.length : Int) ∨ 8 < (t.2.2.length : Int)
  · rw [if_pos (by simpa using c),decide_eq_false (fun h => by have := h.1; omega)]
  · rw [if_neg (by simpa using c)]
    have hl : t.2.1.length ≤ 24 := by omega
    have hh : t.2.2.length ≤ 8 := by omega
    have hpl : (pl t).length ≤ 1000 := by
      have fl : ∀ l : List Lk,(l.flatMap R3).length = 2 * l.length := fun l => by
        induction l with
        | nil => rfl
        | cons x l ih => rw [List.flatMap_cons,List.length_append,ih,List.length_cons]; simp; omega
      unfold pl
      rw [List.length_append,fl]; omega
    have hmem : ∀ q,q ∈ pl t ↔ (∃ x ∈ t.2.1,q ∈ R3 x) ∨ q ∈ t.2.2 := fun q => by
      unfold pl
      rw [List.mem_append,List.mem_flatMap]
    rw [Yo hl hh,Option.bind_some,VY hpl,Vx (by omega)]
    have hok : vK t ↔ ((∀ q ∈ pl t,nR t q) ∧ (pl t).Nodup) ∧ ¬ ∃ x ∈ t.2.1,CI x = true := by
      have hw : ∀ x : Lk, ¬ CI x = true ↔ (x.1 ≠ x.2.2.1 ∧ 1 ≤ x.2.2.2.2.1 ∧ x.2.2.2.2.1 ≤ x.2.2.2.2.2 ∧ x.2.2.2.2.2 ≤ 1000) := fun x => by
        unfold CI
        simp only [Bool.or_eq_true,decide_eq_true_eq]
        omega
      constructor
      · rintro ⟨h0,h1,h2⟩
        have hp : ∀ q ∈ pl t,PI t q := fun q hq => by
          rcases (hmem q).1 hq with ⟨x,hx,hq⟩ | hq
          · obtain ⟨_,_,_,_,k5,k6⟩ := h1 x hx
            rcases List.mem_cons.1 hq with h | h
            · rw [h]; exact k5
            · rw [List.mem_singleton.1 h]; exact k6
          · exact h2 q hq
        refine ⟨⟨fun q hq => ?_,Lm.2 fun q hq => (hp q hq).2.2.2.2⟩,fun ⟨x,hx,hwx⟩ => ?_⟩
        · obtain ⟨a1,a2,a3,a4,_⟩ := hp q hq
          exact ⟨a1,a2,a3,a4⟩
        · obtain ⟨k1,k2,k3,k4,_⟩ := h1 x hx
          exact (hw x).2 ⟨k1,k2,k3,k4⟩ hwx
      · rintro ⟨⟨h1,h2⟩,h3⟩
        have hp : ∀ q ∈ pl t,PI t q := fun q hq => by
          obtain ⟨a1,a2,a3,a4⟩ := h1 q hq
          exact ⟨a1,a2,a3,a4,Lm.1 h2 q hq⟩
        refine ⟨by omega,fun x hx => ?_,fun q hq => hp q ((hmem q).2 (.inr hq))⟩
        obtain ⟨k1,k2,k3,k4⟩ := (hw x).1 (fun h => h3 ⟨x,hx,h⟩)
        exact ⟨k1,k2,k3,k4,hp _ ((hmem _).2 (.inl ⟨x,hx,by simp⟩)),hp _ ((hmem _).2 (.inl ⟨x,hx,by simp⟩))⟩
    by_cases c1 : (∀ q ∈ pl t,nR t q) ∧ (pl t).Nodup
    · rw [if_pos c1]
      show some (!decide (∃ x ∈ t.2.1,CI x = true)) = _
      by_cases c2 : ∃ x ∈ t.2.1,CI x = true
      · rw [decide_eq_true c2,decide_eq_false (fun h => (hok.1 h).2 c2)]; rfl
      · rw [decide_eq_false c2,decide_eq_true (hok.2 ⟨c1,c2⟩)]; rfl
    · rw [if_neg c1,decide_eq_false (fun h => c1 (hok.1 h).1)]; rfl
end Go.Proofs.YtgoifghhcekahaaGreatDoor
