/- Maps that a call has made: what lies in them, in the order in which it came. Conditions: none. -/
import Derived.Test.YtkjjioigbpkifaadO10
namespace Go.Proofs.Ytkjjioigbpkifaa
set_option linter.unusedVariables false
set_option linter.unusedSimpArgs false
set_option linter.unusedSectionVars false
open Go Go.RowKit
section
variable {κ ν : Type} [DecidableEq κ]
def Lo : List (κ × ν) → κ → ν → List (κ × ν)
  | [], x, v => [(x, v)]
  | p :: l, x, v => if x = p.1 then (x, v) :: l else p :: Lo l x v
def Jf (V : ν → Value) : List (κ × ν) → κ → Nat → Option (Nat × Value)
  | [], _, _ => none
  | p :: l, x, i => if x = p.1 then some (i, V p.2) else Jf V l x (i + 1)
structure KeyEnc (P : Program) (k : TypeId) (E : κ → Value) : Prop where
  und : ∃ d, P.underlying k = some d ∧ ((∀ x y, Instr.sameNow d (E x) (E y) = none) ∨ ∀ x y, Instr.sameNow d (E x) (E y) = some (decide (x = y)))
  eq : ∀ x y w, (Op.equal k (E x) (E y)).run P w = .ok (decide (x = y)) w
  chk : ∀ b x w, (Instr.checkKey b 10000 k (E x)).run P w = .ok () w
  bits : ∀ x, Instr.sameBits 10000 (E x) (E x) = true
variable {P : Program} {k e t : TypeId} {E : κ → Value} {V : ν → Value}
abbrev IU (E : κ → Value) (V : ν → Value) (es : List MapEntry) (l : List (κ × ν)) : Prop := es.map (fun e => (e.key, e.val)) = l.map (fun p => (E p.1, V p.2))
theorem IU.cons {e : MapEntry} {es : List MapEntry} {p : κ × ν} {l : List (κ × ν)} (h : IU E V (e :: es) (p :: l)) : e.key = E p.1 ∧ e.val = V p.2 ∧ IU E V es l := by
  simp only [IU, List.map_cons, List.cons.injEq, Prod.mk.injEq] at h
  exact ⟨h.1.1, h.1.2, h.2⟩
theorem IU.nil_l {es : List MapEntry} (h : IU E V es ([] : List (κ × ν))) : es = [] := by simpa [IU] using h
theorem IU.ne {p : κ × ν} {l : List (κ × ν)} (h : IU E V [] (p :: l)) : False := by simp [IU] at h
def mp (b : Nat) (E : κ → Value) (V : ν → Value) (l : List (κ × ν)) : It :=
  ⟨[b], fun w _ => ∃ es clock, w.heap[b]? = some (.map es clock) ∧ IU E V es.toList l,
   fun ⟨es, c, h1, h2⟩ _ hg => ⟨es, c, by rw [hg b (by simp)]; exact h1, h2⟩,
   fun ⟨es, c, h1, h2⟩ g hg => by
     rw [List.mem_singleton] at hg; subst hg
     exact (Array.getElem?_eq_some_iff.1 h1).1,
   fun _ => by simp⟩
end
section
variable {κ ν : Type} [DecidableEq κ] {P : Program} {B : Bs} {M : C6} {Z Z1 : List It} {n : Nat} {ds : List Deferred} {F : List (Nat × Value)} {a : Act} {w : World} {ops : Array Oper} {Q : Exit → Act → World → Prop} {rest : List Oper}
variable {k e t ty : TypeId} {pos : String} {aft : Array Edge} {E : κ → Value} {V : ν → Value} {l : List (κ × ν)} {b : Nat} {dst : Option Nat} {g : Option (Nat × Bool)} {x y z : Operand}
theorem IU.put {kx : κ} {vx : ν} {clock : Nat} : ∀ {es : List MapEntry} {l : List (κ × ν)}, IU E V es l → ∀ i0, 
    (∀ i v, Jf V l kx i0 = some (i, v) → i0 ≤ i ∧ (es[i - i0]?).map (·.key) = some (E kx) ∧ IU E V (es.modify (i - i0) fun e => { e with key := E kx, val := V vx }) (Lo l kx vx)) ∧
    (Jf V l kx i0 = none → IU E V (es ++ [{ key := E kx, val := V vx, born := clock }]) (Lo l kx vx))
  | [], [], _, i0 => ⟨fun i v h => by simp [Jf] at h, fun _ => rfl⟩
  | e :: es, [], h, i0 => by cases h.nil_l
  | [], p :: l, h, i0 => h.ne.elim
  | e :: es, p :: l, h, i0 => by
    obtain ⟨h1, h2, h3⟩ := h.cons
    obtain ⟨r1, r2⟩ := IU.put (kx := kx) (vx := vx) (clock := clock) h3 (i0 + 1)
    unfold Jf Lo
    by_cases c : kx = p.1
    · rw [if_pos c, if_pos c]
      refine ⟨fun i v h => ?_, fun h => by cases h⟩
      simp only [Option.some.injEq, Prod.mk.injEq] at h
      obtain ⟨rfl, rfl⟩ := h
      refine ⟨Nat.le_refl _, by simp [h1, c], ?_⟩
      simp only [Nat.sub_self, List.modify_zero_cons, IU, List.map_cons, List.cons.injEq, true_and]
      exact h3
    · rw [if_neg c, if_neg c]
      refine ⟨fun i v h => ?_, fun h => ?_⟩
      · obtain ⟨q1, q2, q3⟩ := r1 i v h
        have hi : i - i0 = (i - (i0 + 1)) + 1 := by omega
        refine ⟨by omega, by rw [hi, List.getElem?_cons_succ]; exact q2, ?_⟩
        rw [hi, List.modify_succ_cons]
        simp only [IU, List.map_cons, List.cons.injEq, Prod.mk.injEq]
        exact ⟨⟨h1, h2⟩, q3⟩
      · have := r2 h
        simp only [IU, List.cons_append, List.map_cons, List.cons.injEq, Prod.mk.injEq] at this ⊢
        exact ⟨⟨h1, h2⟩, this⟩
end
end Go.Proofs.Ytkjjioigbpkifaa
