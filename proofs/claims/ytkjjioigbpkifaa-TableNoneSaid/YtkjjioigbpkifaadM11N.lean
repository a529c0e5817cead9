/- Layer 11: one by one. Conditions: none. -/
import Derived.Test.YtkjjioigbpkifaadM11C
namespace Go.Proofs.Ytkjjioigbpkifaa
set_option linter.unusedVariables false
set_option linter.unusedSimpArgs false
set_option synthInstance.maxSize 1000
open Go Go.RowKit
theorem Jr (t0 : List Rl) (ports room : Int) : ∀ (l : List Md) (k : Nat) (t : List Rl), (CL t0 ports room l k t).2.2 ≠ 0 → (CL t0 ports room l k t).1 = t0 ∧ (k : Int) ≤ (CL t0 ports room l k t).2.1 ∧ (CL t0 ports room l k t).2.1 < (k : Int) + (l.length : Int)
  | [], k, t, h => absurd rfl h
  | m :: l, k, t, h => by
    unfold CL at h ⊢
    by_cases c : (D6 t m ports room).2 ≠ 0
    · rw [if_pos c] at h ⊢
      exact ⟨rfl, Int.le_refl _, by rw [List.length_cons]; simp only; omega⟩
    · rw [if_neg c] at h ⊢
      obtain ⟨h1, h2, h3⟩ := Jr t0 ports room l (k + 1) _ h
      exact ⟨h1, by omega, by rw [List.length_cons]; omega⟩
theorem GO (t0 : List Rl) (ports room : Int) : ∀ (l : List Md) (k : Nat) (t : List Rl), (CL t0 ports room l k t).2.2 = 0 → ∀ (t1 : List Rl) (j : Nat), CL t1 ports room l j t = ((CL t0 ports room l k t).1, -1, 0)
  | [], k, t, h, t1, j => rfl
  | m :: l, k, t, h, t1, j => by
    unfold CL at h ⊢
    by_cases c : (D6 t m ports room).2 ≠ 0
    · rw [if_pos c] at h; exact absurd h c
    · rw [if_neg c] at h ⊢
      rw [if_neg c]
      exact GO t0 ports room l (k + 1) _ h t1 (j + 1)
theorem GQ (t0 : List Rl) (ports room : Int) (m : Md) (l : List Md) (k : Nat) (t : List Rl) : CL t0 ports room (m :: l) k t = if (D6 t m ports room).2 ≠ 0 then (t0, (k : Int), (D6 t m ports room).2) else CL t0 ports room l (k + 1) (D6 t m ports room).1 := rfl
theorem Jm (t0 : List Rl) (ports room : Int) (b : List Md) : ∀ (a : List Md) (k : Nat) (t : List Rl), (CL t0 ports room (a ++ b) k t).2.2 = 0 → (CL t0 ports room a k t).2.2 = 0 ∧ CL t0 ports room b (k + a.length) (CL t0 ports room a k t).1 = CL t0 ports room (a ++ b) k t
  | [], k, t, h => ⟨rfl, rfl⟩
  | m :: a, k, t, h => by
    rw [List.cons_append, GQ] at h
    rw [List.cons_append, GQ, GQ]
    by_cases c : (D6 t m ports room).2 ≠ 0
    · rw [if_pos c] at h; exact absurd h c
    · rw [if_neg c] at h
      obtain ⟨h1, h2⟩ := Jm t0 ports room b a (k + 1) _ h
      rw [if_neg c, if_neg c]
      refine ⟨h1, ?_⟩
      have e : k + (m :: a).length = k + 1 + a.length := by rw [List.length_cons]; omega
      rw [e]
      exact h2
theorem HQ {t : List Rl} (hl : t.length ≤ 9223372036854775807) {l : List Md} (hI : ∀ m ∈ l, I4 m.2.1.2.1.2.1) (ports room n : Int) : DC t l ports room n = some true := by
  unfold DC
  rw [JO]
  obtain ⟨b, hb, hs⟩ := KT hl
  rw [hb, Option.bind_some]
  cases b with
  | false => rfl
  | true =>
    obtain ⟨s1, s2⟩ := hs.1 rfl
    have hA : ∀ x ∈ t, x.2.2.length ≤ 1000 := fun x hx => by have := s2 x hx; omega
    rw [if_neg (by decide), Lr (by omega) hA, Option.bind_some]
    by_cases h : I0 ports room t
    · rw [decide_eq_true h, if_neg (by decide)]
      by_cases hll : 20 < (l.length : Int)
      · rw [if_pos hll]; rfl
      · rw [if_neg hll]
        by_cases hn : n < 0
        · rw [if_pos hn]; rfl
        · rw [if_neg hn]
          by_cases hn2 : (l.length : Int) < n
          · rw [decide_eq_true hn2]; rfl
          · rw [decide_eq_false hn2, Option.bind_some, if_neg (by decide)]
            rw [Fs l (by omega) (CM l) (fun m => 10 < (m.2.1.2.2.length : Int)) true (fun k hk => by
              have hx := CE (List.getElem?_eq_getElem hk)
              rw [CM, if_pos (by omega), hx, Option.bind_some, JO]; rfl) (by rw [CM, if_neg (by omega)])]
            by_cases c : ∃ m ∈ l, 10 < (m.2.1.2.2.length : Int)
            · rw [if_pos c]; rfl
            · rw [if_neg c, IB, IC (by omega) h (by omega) hI, Option.bind_some]
              have hok := Iz h l 0 t h
              by_cases e : (CL t ports room l 0 t).2.2 ≠ 0
              · obtain ⟨e1, e2, e3⟩ := Jr t ports room l 0 t e
                rw [if_pos e, if_pos (by omega), if_pos (by omega), e1, HP (by omega) hA]; rfl
              · have e0 : (CL t ports room l 0 t).2.2 = 0 := by omega
                have hsplit : l.take n.toNat ++ l.drop n.toNat = l := List.take_append_drop ..
                have hmt : ∀ m ∈ l.take n.toNat, I4 m.2.1.2.1.2.1 := fun m hm => hI m (List.mem_of_mem_take hm)
                have hmd : ∀ m ∈ l.drop n.toNat, I4 m.2.1.2.1.2.1 := fun m hm => hI m (List.mem_of_mem_drop hm)
                have hlt : (l.take n.toNat).length ≤ 20 := by rw [List.length_take]; omega
                have hld : (l.drop n.toNat).length ≤ 20 := by rw [List.length_drop]; omega
                have hap := Jm t ports room (l.drop n.toNat) (l.take n.toNat) 0 t (by rw [hsplit]; exact e0)
                rw [hsplit] at hap
                have hok1 := Iz h (l.take n.toNat) 0 t h
                have f0 := GO t ports room l 0 t e0 t 0
                have f2 := GO t ports room (l.drop n.toNat) (0 + (l.take n.toNat).length) (CL t ports room (l.take n.toNat) 0 t).1 (by rw [hap.2]; exact e0) (CL t ports room (l.take n.toNat) 0 t).1 0
                rw [hap.2] at f2
                have x1 : (CL t ports room l 0 t).2.1 = -1 := by rw [f0]
                rw [if_neg e, E2 (by omega), Option.bind_some, E2 (by omega)]
                have d0 : (l.take n.toNat).drop (0 : Int).toNat = l.take n.toNat := rfl
                rw [d0, IC (by omega) h (by omega) hmt, Option.bind_some, Option.bind_some, Int.toNat_natCast, List.take_length, IC (by omega) hok1.1 (by have := hok1.2; omega) hmd, Option.bind_some, f2, x1, hap.1, if_pos rfl, if_pos rfl, if_pos rfl]
                rw [HP (by have := hok.2; omega) (Lw hok.1)]; rfl
    · rw [decide_eq_false h]; rfl
theorem Hx (p0 : List Rl) (ok0 : KW Mr p0) (p1 : List Md) {K : Bool → Prop} (ok1 : KW (CI JY (CI Mr K)) p1) (p2 : Int) {A : Prop} (_ : A) (p3 : Int) {B : Prop} (_ : B) (p4 : Int) {C : Prop} (_ : C) : DC p0 p1 p2 p3 p4 = some true := HQ ok0.1 (fun m hm => M3 (ok1.2 m hm).2.1) p2 p3 p4
end Go.Proofs.Ytkjjioigbpkifaa
