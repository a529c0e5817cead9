/- A region that draws its order: operations that are quiet, new variables laid in whatever order, then a tail in one forced order. Conditions: none. -/
import Derived.Test.YtfnmlmglmegamaacK
namespace Go.Proofs.Ytfnmlmglmegamaa
set_option linter.unusedVariables false
set_option linter.unusedSimpArgs false
open Go Go.RowKit
variable {rl : Option Nat}
section
variable {P : Program} {B : Bs} {M : List (Nat × List Value)} {Z : List It} {ops : Array Oper} {md : Region.Mode}
def Yq (P : Program) (B : Bs) (M : Cp) (Z : List It) (a : Act) (o : Oper) (v : Value) : Prop :=
  ∀ w, Stw B M Z w → o.quietAt P a (Below w.heap.size w) w v
def Io (P : Program) (o : Oper) : Option (List Value) :=
  match o.op with
  | .alloc t => ((P.info? t).bind (·.zero)).map (·.cells.toList)
  | _ => none
def QI (P : Program) (B : Bs) (M : Cp) (Z : List It) (ops : Array Oper) (i : Nat) (K : Cp → Act → Prop) (A : Cp) (a : Act) : Prop :=
  match ops[i]? with
  | none => False
  | some o =>
    if Region.wanted o (yielded ops a.tmps) then
      (match Io P o with
      | some cs => ∀ b, K ((b, cs) :: A) (a.put o.dst (.pointer (some ⟨b, 0, none⟩)))
      | none => ∃ v, Yq P B M Z a o v ∧ K A (a.put o.dst v))
    else K A (a.put o.dst undef)
structure HInv (md : Region.Mode) (ops : Array Oper) (n : Nat) (L0 : List Nat) (listed : Array Bool) : Prop where
  head : HeadInv md ops n listed
  first : ∀ i ∈ L0, listed.getD i true = true
theorem HInv.set {n : Nat} {L0 : List Nat} {listed : Array Bool} (h : HInv md ops n L0 listed) {j : Nat} (hj : j ∈ Region.ready md ops listed) (hjn : j < n) : HInv md ops n L0 (listed.setIfInBounds j true) :=
  ⟨h.head.set hj hjn, fun i hi => by
    by_cases hji : j = i
    · subst hji
      have hs : j < listed.size := by
        obtain ⟨_, oj, hoj, _⟩ := mem_ready.1 hj
        rw [h.head.size]; exact (Array.getElem?_eq_some_iff.1 hoj).1
      simp [hs]
    · rw [getD_set_ne true hji]; exact h.first i hi⟩
variable {L0 : List Nat}
def N9 (P : Program) (B : Bs) (M : Cp) (Z : List It) (ops : Array Oper) (Q : Cp → Act → Prop) : List Nat → Cp → Act → Prop
  | [], A, a => Q A a
  | k :: ks, A, a => QI P B M Z ops k (N9 P B M Z ops Q ks) A a
def Ia (Q : Exit → Act → World → Prop) : Prop := ∀ ch a d v w, Q (.panic ch) (Act.put a d v) w → Q (.panic ch) a w
def FR (ops : Array Oper) (Q : Exit → Act → World → Prop) : Prop := ∀ (i : Nat) (o : Oper), ops[i]? = some o → ∀ ch a v w, Q (.panic ch) (Act.put a o.dst v) w → Q (.panic ch) a w
theorem Ia.on {ops : Array Oper} {Q : Exit → Act → World → Prop} (h : Ia Q) : FR ops Q := fun _ o _ ch a v w => h ch a o.dst v w
def KP (o : Oper) : Option Operand := match o.op, o.guard, o.dst with | .move x, none, some _ => some x | _, _, _ => none
def MX : List Nat → Array Bool → Array Bool
  | [], l => l
  | k :: ks, l => MX ks (l.setIfInBounds k true)
def Region.hoistB (md : Region.Mode) (ops : Array Oper) : List Nat → Array Bool → Bool
  | [], _ => true
  | k :: ks, listed => (Region.ready md ops listed).contains k && Region.free md ops listed k && (match ops[k]? with | some o => (KP o).isSome | none => false) && Region.hoistB md ops ks (listed.setIfInBounds k true)
def Qy (ops : Array Oper) (K : Act → Prop) : List Nat → Act → Prop
  | [], a => K a
  | k :: ks, a => match ops[k]? with
    | some o => match KP o with | some x => Qy ops K ks (a.put o.dst (a.eval x)) | none => False
    | none => False
theorem HInv.all {n : Nat} : ∀ (hs : List Nat) {L : List Nat} {listed : Array Bool}, HInv md ops n L listed → (∀ i ∈ hs, i < n) → Region.hoistB md ops hs listed = true → HInv md ops n (L ++ hs) (MX hs listed)
  | [], L, listed, h, _, _ => by rw [List.append_nil]; exact h
  | k :: ks, L, listed, h, hn, hB => by
    simp only [Region.hoistB, Bool.and_eq_true] at hB
    obtain ⟨⟨⟨hr, hf⟩, hm⟩, hB'⟩ := hB
    have hr' : k ∈ Region.ready md ops listed := by simpa using hr
    have h1 := h.set hr' (hn k (by simp))
    have h2 : HInv md ops n (L ++ [k]) (listed.setIfInBounds k true) := ⟨h1.head, fun i hi => by
      rcases List.mem_append.1 hi with hi | hi
      · exact h1.first i hi
      · have : i = k := by simpa using hi
        subst this
        have hs : i < listed.size := by
          obtain ⟨_, oj, hoj, _⟩ := mem_ready.1 hr'
          rw [h.head.size]; exact (Array.getElem?_eq_some_iff.1 hoj).1
        simp [hs]⟩
    have h3 := HInv.all ks h2 (fun i hi => hn i (by simp [hi])) hB'
    rw [List.append_assoc] at h3
    exact h3
end
end Go.Proofs.Ytfnmlmglmegamaa
