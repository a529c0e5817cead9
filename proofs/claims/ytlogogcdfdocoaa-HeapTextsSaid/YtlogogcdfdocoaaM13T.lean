/- Layer 13: queues of texts. Conditions: none. -/
import Derived.Test.YtlogogcdfdocoaaM13
namespace Go.Proofs.Ytlogogcdfdocoaa
set_option linter.unusedVariables false
set_option linter.unusedSimpArgs false
open Go Go.RowKit
/-! ### Texts -/
theorem lt_cons (a b : UInt8) (x y : List UInt8) : ltS (a :: x) (b :: y) = (decide (a < b) || (a == b && ltS x y)) := rfl
theorem ltS_asym : ∀ a b : List UInt8, ltS a b = true → ltS b a = false
  | [], [], h => by cases h
  | [], _ :: _, h => rfl
  | _ :: _, [], h => by cases h
  | a :: x, b :: y, h => by
    rw [lt_cons] at h ⊢
    simp only [Bool.or_eq_true, Bool.and_eq_true, decide_eq_true_eq, beq_iff_eq] at h
    rcases h with h | ⟨rfl, h⟩
    · have h1 : ¬ b < a := UInt8.lt_asymm h
      have h2 : ¬ b = a := fun e => by subst e; exact UInt8.lt_irrefl _ h
      simp [h1, h2]
    · have := ltS_asym x y h
      simp [this, UInt8.lt_irrefl]
theorem ltS_tr : ∀ a b c : List UInt8, ltS b a = false → ltS c b = false → ltS c a = false
  | [], b, [], _, _ => rfl
  | [], b, _ :: _, _, _ => rfl
  | a :: x, [], c, h, _ => by cases h
  | a :: x, b :: y, [], _, h => by cases h
  | a :: x, b :: y, c :: z, h1, h2 => by
    rw [lt_cons] at h1 h2 ⊢
    simp only [Bool.or_eq_false_iff, Bool.and_eq_false_iff, decide_eq_false_iff_not, beq_eq_false_iff_ne, ne_eq] at h1 h2 ⊢
    obtain ⟨p1, p2⟩ := h1
    obtain ⟨q1, q2⟩ := h2
    have e : ∀ u v : UInt8, u < v ↔ u.toNat < v.toNat := fun u v => Iff.rfl
    rw [e] at p1 q1 ⊢
    refine ⟨by omega, ?_⟩
    by_cases hca : c = a
    · subst hca
      have hbc : b = c := UInt8.toNat_inj.1 (by omega)
      subst hbc
      right
      exact ltS_tr x y z (p2.resolve_left fun h => h rfl) (q2.resolve_left fun h => h rfl)
    · exact .inl hca
theorem lessS_eq (a b : List UInt8) : cmp_Less_string a b = ltS a b := by simp [cmp_Less_string, cmp_isNaN_string]
theorem ordS : Ordr cmp_Less_string :=
  ⟨fun a b h => by rw [lessS_eq] at h ⊢; exact ltS_asym a b h, fun a b c h1 h2 => by rw [lessS_eq] at h1 h2 ⊢; exact ltS_tr a b c h1 h2⟩
theorem push_str (l : List (List UInt8)) (x : List UInt8) : heap_Queue_string_Push l x = pushP cmp_Less_string l x := rfl
theorem drain_str (l : List (List UInt8)) (x : List UInt8) : heap_Queue_string_Drain l x = drainP cmp_Less_string [] l x := rfl
abbrev HpS (l : List (List UInt8)) : Prop := Hp cmp_Less_string [] l
/-- Not above most. -/
theorem below_eq (x most : List UInt8) : (ltS x most || decide (x = most)) = !ltS most x := by
  by_cases h : x = most
  · subst h
    have : ltS x x = false := by
      cases hh : ltS x x with
      | false => rfl
      | true => have := ltS_asym x x hh; rw [hh] at this; cases this
    simp [this]
  · cases h1 : ltS most x with
    | true => simp [h, ltS_asym most x h1]
    | false =>
      have : ltS x most = true := by
        have key : ∀ a b : List UInt8, ltS a b = false → ltS b a = false → a = b := by
          intro a
          induction a with
          | nil =>
            intro b h1 h2
            cases b with
            | nil => rfl
            | cons b y => cases h1
          | cons a x ih =>
            intro b h1 h2
            cases b with
            | nil => cases h2
            | cons b y =>
              rw [lt_cons] at h1 h2
              simp only [Bool.or_eq_false_iff, Bool.and_eq_false_iff, decide_eq_false_iff_not, beq_eq_false_iff_ne, ne_eq] at h1 h2
              have e : ∀ u v : UInt8, u < v ↔ u.toNat < v.toNat := fun u v => Iff.rfl
              have hab : a = b := UInt8.toNat_inj.1 (by rw [e] at h1 h2; omega)
              subst hab
              rw [ih y (h1.2.resolve_left fun h => h rfl) (h2.2.resolve_left fun h => h rfl)]
        cases h2 : ltS x most with
        | true => rfl
        | false => exact absurd (key x most h2 h1) h
      simp [this]
abbrev blw (most : List UInt8) (l : List (List UInt8)) : Nat := (l.filter fun x => !ltS most x).length
theorem texts_loop {p0 : List (List UInt8)} {most : List UInt8} (hl : p0.length ≤ 40) : ∀ (d k : Nat), k + d = p0.length → ∀ q : List (List UInt8), HpS q → q.Perm (p0.take k) →
    loopW (L13_HeapTexts_l1 p0 most) ((blw most (p0.take k) : Int), (k : Int), q) = some (.inr true) ∨ ∃ q', loopW (L13_HeapTexts_l1 p0 most) ((blw most (p0.take k) : Int), (k : Int), q) = some (.inl ((blw most p0 : Int), q')) ∧ HpS q' ∧ q'.Perm p0 := by
  intro d
  induction d with
  | zero =>
    intro k hk q hq hp
    obtain rfl : k = p0.length := by omega
    rw [List.take_length] at hp ⊢
    exact .inr ⟨q, loopW_end (by rw [L13_HeapTexts_l1, if_neg (by omega)]), hq, hp⟩
  | succ d ih =>
    intro k hk q hq hp
    have hkl : k < p0.length := by omega
    by_cases c : 60 < (p0[k].length : Int)
    · left
      exact loopW_end (by rw [L13_HeapTexts_l1, if_pos (by omega), ix_nat (List.getElem?_eq_getElem hkl), Option.bind_some, if_pos c, awake13]; rfl)
    · have hql : q.length = k := by rw [hp.length_eq, List.length_take]; omega
      obtain ⟨q1, h1, h2, h3⟩ := push_ok ordS (d := []) (l := q) p0[k] (by omega) hq
      have h1' : heap_Queue_string_Push q p0[k] = some q1 := h1
      have hp1 : q1.Perm (p0.take (k + 1)) := by
        rw [List.take_succ_eq_append_getElem hkl]
        exact (h3.trans (hp.cons _)).trans (List.perm_append_comm (l₁ := [p0[k]]) (l₂ := p0.take k))
      have hcl : blw most (p0.take k) ≤ k := by
        have := List.length_filter_le (fun x => !ltS most x) (p0.take k)
        rw [List.length_take] at this
        show (List.filter _ _).length ≤ k
        omega
      have hst : L13_HeapTexts_l1 p0 most ((blw most (p0.take k) : Int), (k : Int), q) = some (.inl ((blw most (p0.take (k + 1)) : Int), ((k + 1 : Nat) : Int), q1)) := by
        rw [L13_HeapTexts_l1, if_pos (by omega), ix_nat (List.getElem?_eq_getElem hkl)]
        simp only [Option.bind_some]
        rw [if_neg c, h1', Option.bind_some, below_eq]
        have hs : blw most (p0.take (k + 1)) = if (!ltS most p0[k]) = true then blw most (p0.take k) + 1 else blw most (p0.take k) := by
          unfold blw
          rw [List.take_succ_eq_append_getElem hkl, List.filter_append, List.length_append]
          cases hb : ltS most p0[k] <;> simp [hb]
        rw [hs]
        by_cases c2 : (!ltS most p0[k]) = true
        · rw [if_pos c2, if_pos c2, w64_id (by omega)]
          show some (Sum.inl (((blw most (p0.take k) : Int) + 1), w64 ((k : Int) + 1), q1)) = _
          rw [w64_id (by omega)]; rfl
        · rw [if_neg c2, if_neg c2]
          show some (Sum.inl ((blw most (p0.take k) : Int), w64 ((k : Int) + 1), q1)) = _
          rw [w64_id (by omega)]; rfl
      rw [loopW_go hst]
      exact ih (k + 1) (by omega) q1 h2 hp1
theorem HeapTexts_core (p0 : List (List UInt8)) (most : List UInt8) : L13_HeapTexts p0 most = some true := by
  unfold L13_HeapTexts
  rw [awake13]
  by_cases c : p0.length ≤ 40
  · rw [if_neg (by omega)]
    rcases texts_loop (most := most) c p0.length 0 (by omega) [] hp_nil (List.Perm.refl _) with h | ⟨q, h, hq, hp⟩
    · have h' : loopW (L13_HeapTexts_l1 p0 most) (0, 0, heap_New_string) = some (.inr true) := h
      rw [h']; rfl
    · have h' : loopW (L13_HeapTexts_l1 p0 most) (0, 0, heap_New_string) = some (.inl ((blw most p0 : Int), q)) := h
      obtain ⟨o, r, d1, d2, d3, d4, d5, d6⟩ := drain_ok ordS most q.length [] q rfl (by rw [hp.length_eq]; simp; omega) hq List.Pairwise.nil (fun a ha => by simp at ha) (fun a ha => by simp at ha)
      have d1' : heap_Queue_string_Drain q most = some (o, r) := d1
      rw [h', show orR (some (Sum.inl ((blw most p0 : Int), q))) = fun f => f ((blw most p0 : Int), q) from rfl]
      dsimp only
      rw [d1', Option.bind_some]
      have hperm : (o ++ r).Perm p0 := by simpa using d6.trans hp
      have hlen := hperm.length_eq
      rw [List.length_append] at hlen
      have hc : o.length = blw most p0 := by
        have hf := hperm.filter (fun x => !ltS most x)
        rw [List.filter_append, List.filter_eq_self.2 (fun a ha => by have := d4 a ha; unfold le at this; rw [lessS_eq] at this; simp [this]), List.filter_eq_nil_iff.2 (fun a ha => by have := d5 a ha; rw [lessS_eq] at this; simp [this]), List.append_nil] at hf
        exact hf.length_eq
      have key : ∀ (d k : Nat), k + d = o.length → loopW (L13_HeapTexts_l2 most (o, r)) (k : Int) = some (.inl ()) := by
        intro d
        induction d with
        | zero => intro k hk; exact loopW_end (by rw [L13_HeapTexts_l2, if_neg (by simp only; omega)])
        | succ d ih =>
          intro k hk
          have hkl : k < o.length := by omega
          rw [loopW_go (s' := ((k + 1 : Nat) : Int)) ?_]
          · exact ih (k + 1) (by omega)
          · have e1 : (!(ltS o[k] most || decide (o[k] = most))) = false := by
              have := d4 o[k] (List.getElem_mem hkl)
              unfold le at this
              rw [lessS_eq] at this
              rw [below_eq, this]; rfl
            rw [L13_HeapTexts_l2, if_pos (by simp only; omega)]
            simp only
            rw [ix_nat (List.getElem?_eq_getElem hkl)]
            simp only [Option.bind_some]
            rw [e1, if_neg (by decide)]
            by_cases ck : 0 < k
            · have h1 : k - 1 < o.length := by omega
              have h2 := List.pairwise_iff_getElem.1 d3 (k - 1) k h1 hkl (by omega)
              unfold le at h2
              rw [lessS_eq] at h2
              rw [if_pos (by omega), show w64 ((k : Int) - 1) = ((k - 1 : Nat) : Int) by rw [w64_id (by omega)]; omega, ix_nat (List.getElem?_eq_getElem h1), Option.bind_some, h2, Option.bind_some, if_neg (by decide), w64_id (by omega)]; rfl
            · rw [if_neg (by omega), Option.bind_some, if_neg (by decide), w64_id (by omega)]; rfl
      have k0 : loopW (L13_HeapTexts_l2 most (o, r)) 0 = some (.inl ()) := key o.length 0 (by omega)
      rw [k0]
      have hd2 : heap_Queue_string_Drain_2 most = some () := by unfold heap_Queue_string_Drain_2; exact loopW_end rfl
      have hL : heap_Queue_string_Len r = w64 ((p0.length : Int) - (blw most p0 : Int)) := by unfold heap_Queue_string_Len; rw [w64_id (by omega)]; omega
      simp [orR, hc, hL, hd2]
  · rw [if_pos (by omega)]; rfl
theorem HeapTexts_true (p0 : List (List UInt8)) {A : Prop} (_ : A) (p1 : List UInt8) {B : Prop} (_ : B) : L13_HeapTexts p0 p1 = some true := HeapTexts_core p0 p1
end Go.Proofs.Ytlogogcdfdocoaa
