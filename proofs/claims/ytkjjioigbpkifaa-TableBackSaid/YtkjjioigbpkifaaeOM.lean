/- Maps that a call has made: what lies in them, in the order in which it came. Conditions: none. -/
import Derived.Test.YtkjjioigbpkifaaeO10
namespace Go.Proofs.Ytkjjioigbpkifaa
set_option linter.unusedVariables false
set_option linter.unusedSimpArgs false
set_option linter.unusedSectionVars false
open Go Go.RowKit
section
variable {κ ν : Type} [DecidableEq κ]
def MY : List (κ × ν) → κ → ν → List (κ × ν)
  | [], x, v => [(x, v)]
  | p :: l, x, v => if x = p.1 then (x, v) :: l else p :: MY l x v
def J1 (V : ν → Value) : List (κ × ν) → κ → Nat → Option (Nat × Value)
  | [], _, _ => none
  | p :: l, x, i => if x = p.1 then some (i, V p.2) else J1 V l x (i + 1)
structure KeyEnc (P : Program) (k : TypeId) (E : κ → Value) : Prop where
  und : ∃ d, P.underlying k = some d ∧ ((∀ x y, Instr.sameNow d (E x) (E y) = none) ∨ ∀ x y, Instr.sameNow d (E x) (E y) = some (decide (x = y)))
  eq : ∀ x y w, (Op.equal k (E x) (E y)).run P w = .ok (decide (x = y)) w
  chk : ∀ b x w, (Instr.checkKey b 10000 k (E x)).run P w = .ok () w
  bits : ∀ x, Instr.sameBits 10000 (E x) (E x) = true
variable {P : Program} {k e t : TypeId} {E : κ → Value} {V : ν → Value}
abbrev Jf (E : κ → Value) (V : ν → Value) (es : List MapEntry) (l : List (κ × ν)) : Prop := es.map (fun e => (e.key, e.val)) = l.map (fun p => (E p.1, V p.2))
theorem Jf.cons {e : MapEntry} {es : List MapEntry} {p : κ × ν} {l : List (κ × ν)} (h : Jf E V (e :: es) (p :: l)) : e.key = E p.1 ∧ e.val = V p.2 ∧ Jf E V es l := by
  simp only [Jf, List.map_cons, List.cons.injEq, Prod.mk.injEq] at h
  exact ⟨h.1.1, h.1.2, h.2⟩
theorem Jf.nil_l {es : List MapEntry} (h : Jf E V es ([] : List (κ × ν))) : es = [] := by simpa [Jf] using h
theorem Jf.ne {p : κ × ν} {l : List (κ × ν)} (h : Jf E V [] (p :: l)) : False := by simp [Jf] at h
def mp (b : Nat) (E : κ → Value) (V : ν → Value) (l : List (κ × ν)) : It :=
  ⟨[b], fun w _ => ∃ es clock, w.heap[b]? = some (.map es clock) ∧ Jf E V es.toList l,
   fun ⟨es, c, h1, h2⟩ _ hg => ⟨es, c, by rw [hg b (by simp)]; exact h1, h2⟩,
   fun ⟨es, c, h1, h2⟩ g hg => by
     rw [List.mem_singleton] at hg; subst hg
     exact (Array.getElem?_eq_some_iff.1 h1).1,
   fun _ => by simp⟩
end
section
variable {κ ν : Type} [DecidableEq κ] {P : Program} {B : Bs} {M : Ch} {Z Z1 : List It} {n : Nat} {ds : List Deferred} {F : List (Nat × Value)} {a : Act} {w : World} {ops : Array Oper} {Q : Exit → Act → World → Prop} {rest : List Oper}
variable {k e t ty : TypeId} {pos : String} {aft : Array Edge} {E : κ → Value} {V : ν → Value} {l : List (κ × ν)} {b : Nat} {dst : Option Nat} {g : Option (Nat × Bool)} {x y z : Operand}
theorem Jf.put {kx : κ} {vx : ν} {clock : Nat} : ∀ {es : List MapEntry} {l : List (κ × ν)}, Jf E V es l → ∀ i0, 
    (∀ i v, J1 V l kx i0 = some (i, v) → i0 ≤ i ∧ (es[i - i0]?).map (·.key) = some (E kx) ∧ Jf E V (es.modify (i - i0) fun e => { e with key := E kx, val := V vx }) (MY l kx vx)) ∧
    (J1 V l kx i0 = none → Jf E V (es ++ [{ key := E kx, val := V vx, born := clock }]) (MY l kx vx))
  | [], [], _, i0 => ⟨fun i v h => by simp [J1] at h, fun _ => rfl⟩
  | e :: es, [], h, i0 => by cases h.nil_l
  | [], p :: l, h, i0 => h.ne.elim
  | e :: es, p :: l, h, i0 => by
    obtain ⟨h1, h2, h3⟩ := h.cons
    obtain ⟨r1, r2⟩ := Jf.put (kx := kx) (vx := vx) (clock := clock) h3 (i0 + 1)
    unfold J1 MY
    by_cases c : kx = p.1
    · rw [if_pos c, if_pos c]
      refine ⟨fun i v h => ?_, fun h => by cases h⟩
      simp only [Option.some.injEq, Prod.mk.injEq] at h
      obtain ⟨rfl, rfl⟩ := h
      refine ⟨Nat.le_refl _, by simp [h1, c], ?_⟩
      simp only [Nat.sub_self, List.modify_zero_cons, Jf, List.map_cons, List.cons.injEq, true_and]
      exact h3
    · rw [if_neg c, if_neg c]
      refine ⟨fun i v h => ?_, fun h => ?_⟩
      · obtain ⟨q1, q2, q3⟩ := r1 i v h
        have hi : i - i0 = (i - (i0 + 1)) + 1 := by omega
        refine ⟨by omega, by rw [hi, List.getElem?_cons_succ]; exact q2, ?_⟩
        rw [hi, List.modify_succ_cons]
        simp only [Jf, List.map_cons, List.cons.injEq, Prod.mk.injEq]
        exact ⟨⟨h1, h2⟩, q3⟩
      · have := r2 h
        simp only [Jf, List.cons_append, List.map_cons, List.cons.injEq, Prod.mk.injEq] at this ⊢
        exact ⟨⟨h1, h2⟩, this⟩
end
end Go.Proofs.Ytkjjioigbpkifaa
