/- Layer 26: who differs only by what is not asked. Conditions: none. -/
import Derived.Test.YtepfcpffbabgmaaDoorbM26
namespace Go.Proofs.YtepfcpffbabgmaaDoor
set_option linter.unusedVariables false
set_option linter.unusedSimpArgs false
open Go Go.RowKit
abbrev NE (t : Tr31) (a b : Int × Int × PK) (f : Int) : Prop := ∀ v ∈ Gy f t, ¬ (gt a f ≠ gt b f ∧ (gt a f = v ∨ gt b f = v))
theorem I3 {a b : Int × Int × PK} : ∀ (n : Nat) (t : Tr31), SizeOf.sizeOf t < n → (∀ f, 0 ≤ f → f ≤ 5 → NE t a b f) → K0 a t = K0 b t
  | 0, t, h, _ => absurd h (Nat.not_lt_zero _)
  | n + 1, t, h, H => by
    have hx : t.un.2.2.2.map (K0 a) = t.un.2.2.2.map (K0 b) := List.map_congr_left fun x hm => I3 n x (by have := Mu hm; omega) fun f f0 f5 v hv => H f f0 f5 v (by
      rw [Hb]
      exact List.mem_append_right _ (List.mem_flatten.2 ⟨_, List.mem_map.2 ⟨x, hm, rfl⟩, hv⟩))
    rw [KA, KA, hx]
    unfold MD
    by_cases c3 : t.un.1 = 3
    · have c1 : ¬ t.un.1 = 1 := by omega
      simp only [if_neg c1, if_pos c3]
      refine decide_eq_decide.2 ⟨fun ⟨k, e⟩ => ⟨k, ?_⟩, fun ⟨k, e⟩ => ⟨k, ?_⟩⟩
      · have hm : t.un.2.2.1 ∈ Gy t.un.2.1 t := by rw [Hb, if_pos ⟨c3, rfl⟩]; simp
        have := H t.un.2.1 k.1 k.2 _ hm
        exact Classical.byContradiction fun hn => this ⟨fun e2 => hn (e2.symm.trans e), .inl e⟩
      · have hm : t.un.2.2.1 ∈ Gy t.un.2.1 t := by rw [Hb, if_pos ⟨c3, rfl⟩]; simp
        have := H t.un.2.1 k.1 k.2 _ hm
        exact Classical.byContradiction fun hn => this ⟨fun e2 => hn (e2.trans e), .inr e⟩
    · rw [if_neg c3, if_neg c3]
theorem LR {t : Tr31} (hc : t.cnt ≤ 1000) (s q : Int) (p : PK) (s' q' : Int) (p' : PK) : ∃ b, Fw t s q p s' q' p' = some b ∧ (b = true → ∀ f, 0 ≤ f → f ≤ 5 → NE t (s, q, p) (s', q', p') f) := by
  have hD : DecidablePred fun f : Nat => ¬ NE t (s, q, p) (s', q', p') (f : Int) := fun _ => Classical.propDecidable _
  have hs := Km 6 (Ed t s q p s' q' p') (fun f => ¬ NE t (s, q, p) (s', q', p') (f : Int)) false (fun k hk => by
    obtain ⟨V, v1, v2, v3, v4⟩ := Lk hc (k : Int)
    have hE : DecidablePred fun v : Int => gt (s, q, p) (k : Int) ≠ gt (s', q', p') (k : Int) ∧ (gt (s, q, p) (k : Int) = v ∨ gt (s', q', p') (k : Int) = v) := fun _ => Classical.propDecidable _
    have h2 : AZ (C4 V (gt (s, q, p) (k : Int)) (gt (s', q', p') (k : Int))) 0 = some (if ∃ v ∈ V, gt (s, q, p) (k : Int) ≠ gt (s', q', p') (k : Int) ∧ (gt (s, q, p) (k : Int) = v ∨ gt (s', q', p') (k : Int) = v) then .inr (.inr (.inr false)) else .inl ()) := by
      have key : ∀ (d i : Nat), i + d = V.length → (∀ v ∈ V.take i, ¬ (gt (s, q, p) (k : Int) ≠ gt (s', q', p') (k : Int) ∧ (gt (s, q, p) (k : Int) = v ∨ gt (s', q', p') (k : Int) = v))) → AZ (C4 V (gt (s, q, p) (k : Int)) (gt (s', q', p') (k : Int))) (i : Int) = some (if ∃ v ∈ V, gt (s, q, p) (k : Int) ≠ gt (s', q', p') (k : Int) ∧ (gt (s, q, p) (k : Int) = v ∨ gt (s', q', p') (k : Int) = v) then .inr (.inr (.inr false)) else .inl ()) := by
        intro d
        induction d with
        | zero =>
          intro i hi hn
          rw [List.take_of_length_le (by omega)] at hn
          rw [if_neg (fun ⟨v, hv, h⟩ => hn v hv h)]
          exact A1 (by rw [C4, if_neg (by omega)])
        | succ d ih =>
          intro i hi hn
          have hil : i < V.length := by omega
          have hg := Ee (List.getElem?_eq_getElem hil)
          by_cases c : gt (s, q, p) (k : Int) ≠ gt (s', q', p') (k : Int) ∧ (gt (s, q, p) (k : Int) = V[i] ∨ gt (s', q', p') (k : Int) = V[i])
          · rw [if_pos ⟨V[i], List.getElem_mem hil, c⟩]
            refine A1 ?_
            rw [C4, if_pos (by omega), if_pos c.1, hg, Option.bind_some]
            by_cases c2 : gt (s, q, p) (k : Int) = V[i]
            · rw [if_pos c2]; rfl
            · rw [if_neg c2, Option.bind_some, decide_eq_true (c.2.resolve_left c2)]; rfl
          · have hst : C4 V (gt (s, q, p) (k : Int)) (gt (s', q', p') (k : Int)) (i : Int) = some (.inl ((i + 1 : Nat) : Int)) := by
              rw [C4, if_pos (by omega)]
              by_cases c1 : gt (s, q, p) (k : Int) ≠ gt (s', q', p') (k : Int)
              · have c2 : ¬ gt (s, q, p) (k : Int) = V[i] := fun e => c ⟨c1, .inl e⟩
                have c3 : ¬ gt (s', q', p') (k : Int) = V[i] := fun e => c ⟨c1, .inr e⟩
                rw [if_pos c1, hg, Option.bind_some, if_neg c2, Option.bind_some, decide_eq_false c3, Option.bind_some, if_neg (by decide), Az (by omega)]; rfl
              · rw [if_neg c1, Option.bind_some, if_neg (by decide), Az (by omega)]; rfl
            rw [Ca hst]
            refine ih (i + 1) (by omega) fun v hv => ?_
            rw [List.take_succ_eq_append_getElem hil] at hv
            rcases List.mem_append.1 hv with h | h
            · exact hn v h
            · rw [List.mem_singleton.1 h]; exact c
      exact key V.length 0 (by omega) (by simp)
    rw [Ed, if_pos (by omega), v1, Option.bind_some, Ld, Option.bind_some, Ld, Option.bind_some, h2]
    by_cases c : ∃ v ∈ V, gt (s, q, p) (k : Int) ≠ gt (s', q', p') (k : Int) ∧ (gt (s, q, p) (k : Int) = v ∨ gt (s', q', p') (k : Int) = v)
    · rw [if_pos c, if_pos (fun hA => by obtain ⟨v, hv, h⟩ := c; exact hA v ((v4 v).1 hv) h)]; rfl
    · rw [if_neg c, if_neg (fun hA => hA fun v hv h => c ⟨v, (v4 v).2 hv, h⟩), Az (by omega)]; rfl) (by rw [Ed, if_neg (by omega)])
  unfold Fw
  rw [hs]
  by_cases c : ∃ k : Nat, k < 6 ∧ ¬ NE t (s, q, p) (s', q', p') (k : Int)
  · rw [if_pos c]; exact ⟨false, rfl, fun h => by cases h⟩
  · rw [if_neg c]
    refine ⟨true, rfl, fun _ f f0 f5 => ?_⟩
    have := Classical.byContradiction fun hn => c ⟨f.toNat, by omega, hn⟩
    rwa [show ((f.toNat : Nat) : Int) = f by omega] at this
theorem Iq (p0 : Tr24) (ok0 : p0.cnt ≤ 1048576) (p1 : Int) {A : Prop} (_ : A) (p2 : Int) {B : Prop} (_ : B) (p3 : PK) {C : Prop} (_ : C) (p4 : Int) {D : Prop} (_ : D) (p5 : Int) {F : Prop} (_ : F) (p6 : PK) {G : Prop} (_ : G) : Eu p0 p1 p2 p3 p4 p5 p6 = some true := by
  have hm := LC (SizeOf.sizeOf p0 + 1) p0 (by omega)
  unfold Eu Gu
  rw [Mw ok0, Option.bind_some, LL ok0, Option.bind_some, Option.bind_some]
  by_cases c : (p0.cnt : Int) ≤ 100
  · rw [decide_eq_true c, if_neg (by decide)]
    obtain ⟨b, b1, b2⟩ := LR (t := mi p0) (by rw [hm]; omega) p1 p2 p3 p4 p5 p6
    rw [b1, Option.bind_some]
    cases b with
    | false => rw [Option.bind_some, if_pos (by decide), JL]; rfl
    | true =>
      rw [Option.bind_some, if_neg (by decide), Lf (by omega), Option.bind_some, Lf (by omega), Option.bind_some, if_pos (I3 (SizeOf.sizeOf (mi p0) + 1) (mi p0) (by omega) (b2 rfl)), JL]; rfl
  · rw [decide_eq_false c, if_pos (by decide), Option.bind_some, if_pos rfl, JL]; rfl
end Go.Proofs.YtepfcpffbabgmaaDoor
