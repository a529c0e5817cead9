/- Sets that a call has made: maps without values, known by the ascending list of their keys. Conditions: none. -/
import Derived.Test.YtbiekjhlijdjbaaGreatbVC
import Derived.Test.YtbiekjhlijdjbaaGreatbOM
import Derived.Test.YtbiekjhlijdjbaaGreatbOT
set_option linter.unusedVariables false
set_option linter.unusedSimpArgs false
set_option linter.unusedSectionVars false
open Go Go.RowKit
namespace Go.Proofs.YtbiekjhlijdjbaaGreat
structure Lo {κ : Type} (lt : κ → κ → Bool) : Prop where
  irr : ∀ x,lt x x = false
  tr : ∀ {x y z},lt x y = true → lt y z = true → lt x z = true
  tot : ∀ {x y},lt x y = false → lt y x = false → x = y
section
variable {κ : Type} {lt : κ → κ → Bool}
abbrev eI (lt : κ → κ → Bool) (l : List κ) : Prop := l.Pairwise fun x y => lt x y = true
end
def U2 : Value → List Nat | .map (some b) => [b] | _ => []
abbrev uV : Unit → Value := fun _ => .agg #[]
section
variable {κ : Type} [DecidableEq κ]
structure MapAt (E : κ → Value) (lt : κ → κ → Bool) (s : List κ) (es : Array MapEntry) (clock : Nat) (l : List (κ × Unit)) : Prop where
  ent : Kj E uV es.toList l
  perm : (l.map (·.1)).Perm s
  asc : eI lt s
  old : ∀ e ∈ es.toList,e.born < clock
  nd : (es.toList.map (·.born)).Nodup
def dG (v : Value) (E : κ → Value) (lt : κ → κ → Bool) (s : List κ) : It :=
  ⟨U2 v,fun w _ => ∃ b es clock l,v = .map (some b) ∧ w.heap[b]? = some (.map es clock) ∧ MapAt E lt s es clock l,
   fun ⟨b,es,c,l,h1,h2,h3⟩ _ hg => ⟨b,es,c,l,h1,by rw [hg b (by rw [h1]; simp [U2])]; exact h2,h3⟩,
   fun ⟨b,es,c,l,h1,h2,h3⟩ g hg => by
     rw [h1] at hg; simp only [U2,List.mem_singleton] at hg; subst hg
     exact (Array.getElem?_eq_some_iff.1 h2).1,
   fun _ => by unfold U2; split <;> simp⟩
end
section
variable {κ : Type} [DecidableEq κ] {P : Program} {B : Bs} {M : Bi} {Z Z1 : List It} {n : Nat} {ds : List Deferred} {F : List (Nat × Value)} {a : Act} {w : World} {ops : Array Oper} {Q : Exit → Act → World → Prop} {rest : List Oper}
variable {k e t ty : TypeId} {pos : String} {aft : Array Edge} {E : κ → Value} {lt : κ → κ → Bool} {s : List κ} {v : Value} {dst : Option Nat} {g : Option (Nat × Bool)} {x y z : Operand}
theorem IP {i b clock : Nat} {seen : Array Nat} {es : Array MapEntry} (hi : w.heap[i]? = some (.mapIter (some b) clock seen clock)) (hb : w.heap[b]? = some (.map es clock)) (hold : ∀ e ∈ es.toList,e.born < clock) (ty : TypeId) :
    ((∀ e ∈ es.toList,seen.contains e.born = true) ∧ (Instr.next (.pointer (some ⟨i,0,none⟩)) false ty).run P w = .ok (.tuple #[.bool false]) w) ∨
    ∃ e ∈ es.toList,seen.contains e.born = false ∧ ∃ w1 : World,(w1 = w ∨ w1 = { w with drawn := w.drawn + 1 }) ∧ (Instr.next (.pointer (some ⟨i,0,none⟩)) false ty).run P w = .ok (.tuple #[.bool true,e.key,e.val]) { w1 with heap := w.heap.setIfInBounds i (.mapIter (some b) clock (seen.push e.born) clock) } := by
  have htest : (!seen.isEmpty && !es.isEmpty && es.all (fun x => decide (x.born ≥ clock))) = false := by
    cases he : es.isEmpty with
    | true => simp
    | false =>
      have : es.all (fun x => decide (x.born ≥ clock)) = false := by
        rw [Bool.eq_false_iff]
        intro h
        rw [Array.all_eq_true_iff_forall_mem] at h
        have h0 : 0 < es.size := by
          rcases Nat.eq_zero_or_pos es.size with h0 | h0
          · simp [Array.isEmpty,h0] at he
          · exact h0
        have h1 := h _ (Array.getElem_mem h0)
        have h2 := hold es[0] (by simp)
        simp at h1
        omega
      simp [this]
  simp only [Instr.next,getObj,Sem.run_bind,Sem.run,hi,hb,Result.andThen,htest,Bool.false_eq_true,if_false]
  have hmem : ∀ x ∈ (Array.filter (fun e => !seen.contains e.born) es).toList,x ∈ es.toList ∧ seen.contains x.born = false := fun x hx => by simp at hx ⊢; exact hx
  have hall : (Array.filter (fun e => !seen.contains e.born) es).size = 0 → ∀ e ∈ es.toList,seen.contains e.born = true := fun h e he => by
    have h3 := Array.eq_empty_of_size_eq_zero h
    rw [Array.filter_eq_empty_iff] at h3
    have := h3 e (by simpa using he)
    simpa using this
  generalize Array.filter (fun e => !seen.contains e.born) es = L at hmem hall ⊢
  have e1 : L.filter (fun x => decide (x.born < clock)) = L := Array.filter_eq_self.2 (fun x hx => by simpa using hold x (hmem x (by simpa using hx)).1)
  have e2 : L.filter (fun x => decide (x.born ≥ clock)) = #[] := by
    rw [Array.filter_eq_empty_iff]
    intro x hx
    have := hold x (hmem x (by simpa using hx)).1
    simp
    omega
  simp only [e1,e2,Array.append_empty]
  by_cases h0 : L.size = 0
  · left
    refine ⟨hall h0, ?_⟩
    have : L = #[] := Array.eq_empty_of_size_eq_zero h0
    subst this
    simp [choose,Sem.run,Question.forced]
  · right
    have hne : L.isEmpty = false := by simp [Array.isEmpty,h0]
    simp only [hne,Bool.false_eq_true,if_false,Array.empty_append,Array.size_map]
    have hch : ∃ (j : Nat) (w1 : World),j < L.size ∧ (w1 = w ∨ w1 = { w with drawn := w.drawn + 1 }) ∧ (choose (Question.mapNext L.size)).run P w = .ok j w1 := by
      by_cases hf : L.size ≤ 1
      · exact ⟨0,w,by omega,.inl rfl,by simp [choose,Sem.run,Question.forced,hf]⟩
      · exact ⟨_,w.drew,Nat.mod_lt _ (by omega),.inr rfl,by
          simp only [choose,Sem.run,Question.forced,decide_eq_true_eq,hf,if_false,Question.cut]
          rfl⟩
    obtain ⟨j,w1,hj,hal,hrun⟩ := hch
    have hheap : w1.heap = w.heap := by rcases hal with h | h <;> rw [h]
    refine ⟨L[j],(hmem _ (by simp)).1,(hmem L[j] (by simp)).2,w1,hal, ?_⟩
    have hset : ∀ o' : Obj,(setObj i o').run P w1 = .ok () { w1 with heap := w.heap.setIfInBounds i o' } := fun o' => by
      simp only [setObj,Sem.run,hheap,hi]
    simp only [hrun,Array.getElem?_map,Array.getElem?_eq_getElem hj,Option.map_some,Sem.run_bind,hset,Result.andThen]
    rfl
theorem Stw.asc {i : Nat} (hW : Stw B M Z w) (hZ : Z[i]? = some (dG v E lt s)) : eI lt s := by
  obtain ⟨b,es,clock,l,_,_,h⟩ := hW.item hZ
  exact h.asc
end
section
variable {α : Type} {r : Rp α} {l : List α} {P : Program} {B : Bs} {M : Bi} {Z : List It} {n : Nat} {ds : List Deferred} {F : List (Nat × Value)} {a : Act} {dst : Option Tmp} {ty : TypeId} {pos : String} {aft : Array Edge} {g : Option (Nat × Bool)}
end
end Go.Proofs.YtbiekjhlijdjbaaGreat
