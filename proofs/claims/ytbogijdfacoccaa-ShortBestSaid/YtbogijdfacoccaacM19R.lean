/- Layer 19: the statements. Conditions: none. -/
import Derived.Test.YtbogijdfacoccaacM19T
import Derived.Test.YtbogijdfacoccaacEV
namespace Go.Proofs.Ytbogijdfacoccaa
set_option linter.unusedVariables false
set_option linter.unusedSimpArgs false
open Go Go.RowKit
def Pt (t : Tp) : Int → List Int → Int → Prop
  | u, [], v => u = v
  | u, k :: l, v => ∃ w, E t u w k ∧ Pt t w l v
section
variable {t : Tp} {L c : List Nat} {s : Int}
theorem Pt.snoc : ∀ {l : List Int} {u v w k : Int}, Pt t u l v → E t v w k → Pt t u (l ++ [k]) w
  | [], u, v, w, k, h, he => by have : u = v := h; subst this; exact ⟨w, he, rfl⟩
  | _ :: l, u, v, w, k, ⟨x, hx, h⟩, he => ⟨x, hx, Pt.snoc h he⟩
theorem Pt.inL (hok : Fq t) (hw : Li t L) : ∀ {l : List Int} {u v : Int}, Pt t u l v → ∀ i ∈ l, In L i
  | [], _, _, _ => by simp
  | k :: l, u, v, ⟨x, hx, h⟩ => fun i hi => by
    rcases List.mem_cons.1 hi with rfl | hi
    · exact (hw.cost hok hx).1
    · exact Pt.inL hok hw h i hi
theorem Pt.le (hok : Fq t) (hw : Li t L) (H : Sol t L s c) : ∀ {l : List Int} {u : Int}, Pt t u l s → wg c u ≤ Mz L l ∧ Mz L l ≤ DP
  | [], u, h => by
    have : u = s := h
    subst this
    rw [H.src]; exact ⟨Nat.zero_le _, Nat.zero_le _⟩
  | k :: l, u, ⟨x, hx, h⟩ => by
    obtain ⟨h1, h2⟩ := Pt.le hok hw H h
    obtain ⟨_, hcost⟩ := hw.cost hok hx
    exact ⟨Nat.le_trans (H.edge u x k hx) (GU hcost h1 h2), Ox hcost h2⟩
theorem Pt.val (hok : Fq t) (hw : Li t L) {l : List Int} {u v : Int} (h : Pt t u l v) : Py L l = Mz L l := if_pos (Pt.inL hok hw h)
end
theorem IR (t : Tp) (L : List Nat) (hL : ∀ x ∈ L, GM x) (fr : Int) (ps : List Int) : Do t (nz L) fr ps = some true := by
  unfold Do
  by_cases sm : Ed t (nz L) = true
  · rw [sm, if_neg (by decide)]
    have hsm : t.2.1.length ≤ 30 ∧ t.2.2.length ≤ 12 ∧ L.length ≤ 30 := by
      unfold Ed at sm
      rw [Qc] at sm
      simp only [Bool.and_eq_true, decide_eq_true_eq] at sm
      omega
    have hll : L.length ≤ 1000000 := by omega
    rw [Nm hll, Option.bind_some]
    by_cases ok : Fq t ∧ Li t L
    · rw [decide_eq_true ok, if_neg (by decide)]
      by_cases a1 : fr < 0
      · rw [if_pos a1, Option.bind_some, if_pos rfl, Gq]; rfl
      rw [if_neg a1]
      by_cases a2 : t.1 ≤ fr
      · rw [if_pos a2, Option.bind_some, if_pos rfl, Gq]; rfl
      rw [if_neg a2]
      by_cases a3 : 12 < (ps.length : Int)
      · rw [decide_eq_true a3, Option.bind_some, if_pos rfl, Gq]; rfl
      rw [decide_eq_false a3, Option.bind_some, if_neg (by decide)]
      obtain ⟨hok, hw⟩ := ok
      have hf : VV t fr := ⟨by omega, by omega⟩
      obtain ⟨q, ⟨q1, q2, q3⟩, q4⟩ := Du ps.length (fun (p : Int × List Int) (i : Nat) => (p.1, p.2, (i : Int))) (BW t ps L) (fun p => (p.1, p.2))
        (fun p i => Pt t fr p.2 p.1 ∧ VV t p.1 ∧ p.2.length ≤ i)
        (fun p i hi ⟨i1, i2, i3⟩ => by
          have hg := BS (List.getElem?_eq_getElem hi)
          obtain ⟨R, r1, r2, r3⟩ := Mp hok p.1 ps[i]
          rw [← HH] at r1
          by_cases qq : R.2.2.2 = true ∧ Ow (wg L R.2.2.1) = true
          · rcases r2 with ⟨_, hs⟩ | ⟨hs, _⟩
            · have he : E t p.1 R.1 R.2.2.1 := ⟨ps[i], hs⟩
              refine ⟨(R.1, p.2 ++ [R.2.2.1]), ?_, i1.snoc he, (he.V hok).2.1, by simp; omega⟩
              rw [BW, if_pos (by omega), hg, Option.bind_some, r1, Option.bind_some, if_pos qq.1, NK, decide_eq_true (hw.cost hok he).1, Bool.true_and, qq.2, Option.bind_some, Option.bind_some, if_pos rfl, Gb (by simp; omega), Option.bind_some, Option.bind_some]
              show some (Sum.inl (_, _, BN ((i : Int) + 1))) = _
              rw [BL (by omega)]; rfl
            · rw [qq.1] at hs; cases hs
          · refine ⟨p, ?_, i1, i2, by omega⟩
            rw [BW, if_pos (by omega), hg, Option.bind_some, r1, Option.bind_some]
            by_cases q5 : R.2.2.2 = true
            · rcases r2 with ⟨_, hs⟩ | ⟨hs, _⟩
              · have he : E t p.1 R.1 R.2.2.1 := ⟨ps[i], hs⟩
                rw [if_pos q5, NK, decide_eq_true (hw.cost hok he).1, Bool.true_and, Option.bind_some, Option.bind_some, if_neg (fun hh => qq ⟨q5, hh⟩), Option.bind_some]
                show some (Sum.inl (_, _, BN ((i : Int) + 1))) = _
                rw [BL (by omega)]; rfl
              · rw [q5] at hs; cases hs
            · rw [if_neg q5, Option.bind_some, if_neg (by decide), Option.bind_some]
              show some (Sum.inl (_, _, BN ((i : Int) + 1))) = _
              rw [BL (by omega)]; rfl)
        (fun p _ => by rw [BW, if_neg (by omega)]) (fr, []) ⟨rfl, hf, Nat.le_refl _⟩
      have q4' : AM (BW t ps L) (fr, [], 0) = some (q.1, q.2) := q4
      obtain ⟨c, r, c1, c2⟩ := MW hok hw q2
      have iq : In c q.1 := ⟨q2.1, by rw [c2.len]; exact q2.2⟩
      have icf : In c fr := ⟨hf.1, by rw [c2.len]; exact hf.2⟩
      obtain ⟨k1, k2⟩ := Pt.le hok hw c2.toSol q1
      rw [OV hll, Option.bind_some, Nx hw, q4', Option.bind_some]
      show ((B6 t L q.1).bind fun x17 => _) = _
      rw [c1, Option.bind_some, if_pos c2.len, GB iq, Option.bind_some, c2.src, KW (Nat.zero_le _) (Nat.zero_le _), if_pos (by decide), GB icf, Option.bind_some, OZ L (by omega), q1.val hok hw, Option.bind_some, Of (c2.bd fr hf) k2, KW (c2.bd fr hf) k2, if_pos (by rw [← Bool.decide_or]; exact decide_eq_true (by omega)), Gq]; rfl
    · rw [decide_eq_false ok, if_pos (by decide), Option.bind_some, if_pos rfl, Gq]; rfl
  · rw [if_pos (by simpa using sm), Option.bind_some, if_pos rfl, Gq]; rfl
theorem Im (p0 : Tp) {A : Prop} (_ : A) (p1 : List Int) (ok1 : OD (fun n => (Lit.int .u64 n).wf = true) p1) (p2 : Int) {B : Prop} (_ : B) (p3 : List Int) {C : Prop} (_ : C) : Do p0 p1 p2 p3 = some true := by
  obtain ⟨L, rfl, hL⟩ := QT ok1
  exact IR p0 L hL p2 p3
end Go.Proofs.Ytbogijdfacoccaa
