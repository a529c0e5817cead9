/- Layer 25: the document's walks, good routes. Conditions: none. -/
import Derived.Test.YthhoflfhegfmcaabM21A
import Derived.Test.YthhoflfhegfmcaabA7
namespace Go.Proofs.Ythhoflfhegfmcaa
set_option linter.unusedVariables false
set_option linter.unusedSimpArgs false
open Go Go.RowKit
theorem Mh (q : Int × Int) : ∀ l : List Lk, (l.flatMap FU).count q ≤ 2 * l.length
  | [] => by simp
  | x :: l => by
    have h := Mh q l
    have h2 : (FU x).count q ≤ 2 := List.count_le_length
    rw [List.flatMap_cons, List.count_append, List.length_cons]; omega
theorem NO {t : Tp} (hl : t.2.1.length ≤ 24) (hh : t.2.2.length ≤ 8) (a p : Int) : Ht t a p = some (decide (FG t (a, p))) := by
  obtain ⟨s, h1, h2⟩ := CE t.2.1.length (fun (s : Int) (k : Nat) => (s, (k : Int))) (Fi t a p) id (fun s k => s = (((t.2.1.take k).flatMap FU).count (a, p) : Nat))
    (fun s k hk hI => by
      have hb := Mh (a, p) (t.2.1.take k)
      rw [List.length_take] at hb
      have hx : ∀ c : Prop, [Decidable c] → ∀ s : Int, 0 ≤ s ∧ s ≤ 100 → (if c then some (A3 (s + 1)) else some s) = some (s + (if c then 1 else 0)) := fun c _ s hs => by
        by_cases h : c
        · rw [if_pos h, if_pos h, AJ (by omega)]
        · rw [if_neg h, if_neg h]; simp
      refine ⟨s + (if (decide (t.2.1[k].1 = a) && decide (t.2.1[k].2.1 = p)) = true then 1 else 0) + (if (decide (t.2.1[k].2.2.1 = a) && decide (t.2.1[k].2.2.2.1 = p)) = true then 1 else 0), ?_, ?_⟩
      · rw [Fi, if_pos (by omega), AV (List.getElem?_eq_getElem hk), Option.bind_some, hx _ s (by omega), Option.bind_some, hx _ _ (by split <;> omega), Option.bind_some, AJ (by omega)]; rfl
      · rw [hI, List.take_succ_eq_append_getElem hk, List.flatMap_append, List.count_append, List.flatMap_cons, List.flatMap_nil, List.append_nil]
        have hc : ∀ (x : Lk), (((FU x).count (a, p) : Nat) : Int) = (if (decide (x.1 = a) && decide (x.2.1 = p)) = true then 1 else 0) + (if (decide (x.2.2.1 = a) && decide (x.2.2.2.1 = p)) = true then 1 else 0) := fun x => by
          simp only [FU, List.count_cons, List.count_nil, beq_iff_eq, Prod.mk.injEq, Bool.and_eq_true, decide_eq_true_eq]
          split <;> split <;> rfl
        rw [Int.natCast_add, hc]; omega)
    (fun s _ => by rw [Fi, if_neg (by omega)]; rfl) 0 (by simp)
  have e1 : Au (Fi t a p) (0, 0) = some s := h2
  rw [List.take_length] at h1
  have hb := Mh (a, p) t.2.1
  obtain ⟨s2, g1, g2⟩ := CE t.2.2.length (fun (s : Int) (k : Nat) => (s, (k : Int))) (Fh t a p) id (fun s2 k => s2 = s + ((t.2.2.take k).count (a, p) : Nat))
    (fun s2 k hk hI => by
      have hb2 : (t.2.2.take k).count (a, p) ≤ k := Nat.le_trans List.count_le_length (by rw [List.length_take]; omega)
      refine ⟨s2 + (if t.2.2[k] = (a, p) then 1 else 0), ?_, ?_⟩
      · rw [Fh, if_pos (by omega), AV (List.getElem?_eq_getElem hk), Option.bind_some, Option.bind_some]
        have hd : (if t.2.2[k].1 = a then some (decide (t.2.2[k].2 = p)) else some false) = some (decide (t.2.2[k] = (a, p))) := by
          by_cases c : t.2.2[k].1 = a
          · rw [if_pos c]; congr 1; exact decide_eq_decide.2 ⟨fun h => Prod.ext c h, fun h => by rw [h]⟩
          · rw [if_neg c, decide_eq_false (fun h => c (by rw [h]))]
        rw [hd, Option.bind_some]
        by_cases c : t.2.2[k] = (a, p)
        · rw [decide_eq_true c, if_pos rfl, if_pos c, Option.bind_some, AJ (by omega), AJ (by omega)]; rfl
        · rw [decide_eq_false c, if_neg (by decide), if_neg c, Option.bind_some, AJ (by omega), Int.add_zero]; rfl
      · rw [hI, List.take_succ_eq_append_getElem hk, List.count_append]
        by_cases c : t.2.2[k] = (a, p)
        · rw [if_pos c, c]; simp; omega
        · rw [if_neg c, List.count_eq_zero_of_not_mem (a := (a, p)) (l := [t.2.2[k]]) (by simp; exact fun h => c h.symm)]; omega)
    (fun s _ => by rw [Fh, if_neg (by omega)]; rfl) s (by simp)
  have e2 : Au (Fh t a p) (s, 0) = some s2 := g2
  rw [List.take_length] at g1
  have hcount : ((pl t).count (a, p) : Int) = s2 := by
    unfold pl
    rw [List.count_append, Int.natCast_add, g1, h1]
  unfold Ht
  rw [e1, Option.bind_some, e2, Option.bind_some]
  congr 1
  rw [Bool.eq_iff_iff]
  simp only [Bool.and_eq_true, decide_eq_true_eq]
  have : s2 = 1 ↔ (pl t).count (a, p) = 1 := by omega
  rw [this]
theorem Rn {t : Tp} : Ih t = some (decide (KX t)) := by
  unfold Ih
  by_cases c : t.1 < 1 ∨ 8 < t.1 ∨ 24 < (t.2.1.length : Int) ∨ 8 < (t.2.2.length : Int)
  · rw [if_pos (by simpa using c), decide_eq_false (fun h => by have := h.1; omega)]
  · rw [if_neg (by simpa using c)]
    have hl : t.2.1.length ≤ 24 := by omega
    have hh : t.2.2.length ≤ 8 := by omega
    rw [Eh t.2.1 (by omega) (FN t) (fun l => ¬ PE t l) false (fun k hk => by
      rw [FN, if_pos (by omega), AV (List.getElem?_eq_getElem hk), Option.bind_some, NO hl hh, NO hl hh]
      generalize t.2.1[k] = x
      by_cases c1 : x.1 = x.2.2.1
      · rw [if_pos c1, Option.bind_some, if_pos rfl, if_pos (fun h => h.1 c1)]
      rw [if_neg c1]
      by_cases c2 : x.2.2.2.2.1 < 1
      · rw [if_pos c2, Option.bind_some, if_pos rfl, if_pos (fun h => by have := h.2.1; omega)]
      rw [if_neg c2]
      by_cases c3 : x.2.2.2.2.2 < x.2.2.2.2.1
      · rw [if_pos c3, Option.bind_some, if_pos rfl, if_pos (fun h => by have := h.2.2.1; omega)]
      rw [if_neg c3]
      by_cases c4 : 1000 < x.2.2.2.2.2
      · rw [if_pos c4, Option.bind_some, if_pos rfl, if_pos (fun h => by have := h.2.2.2.1; omega)]
      rw [if_neg c4, Option.bind_some]
      by_cases c5 : FG t (x.1, x.2.1)
      · rw [decide_eq_true c5, if_neg (by decide), Option.bind_some]
        by_cases c6 : FG t (x.2.2.1, x.2.2.2.1)
        · rw [decide_eq_true c6, Option.bind_some, if_neg (by decide), if_neg (fun h => h ⟨c1, by omega, by omega, by omega, c5, c6⟩)]
        · rw [decide_eq_false c6, Option.bind_some, if_pos (by decide), if_pos (fun h => c6 h.2.2.2.2.2)]
      · rw [decide_eq_false c5, if_pos (by decide), Option.bind_some, if_pos rfl, if_pos (fun h => c5 h.2.2.2.2.1)]) (by rw [FN, if_neg (by omega)]),
      Eh t.2.2 (by omega) (FK t) (fun h => ¬ FG t h) false (fun k hk => by
      rw [FK, if_pos (by omega), AV (List.getElem?_eq_getElem hk), Option.bind_some, Option.bind_some, NO hl hh, Option.bind_some]
      by_cases c5 : FG t t.2.2[k]
      · rw [decide_eq_true (show FG t (t.2.2[k].1, t.2.2[k].2) from c5), if_neg (by decide), if_neg (fun h => h c5)]
      · rw [decide_eq_false (show ¬ FG t (t.2.2[k].1, t.2.2[k].2) from c5), if_pos (by decide), if_pos c5]) (by rw [FK, if_neg (by omega)])]
    by_cases d1 : ∃ l ∈ t.2.1, ¬ PE t l
    · rw [if_pos d1]
      show some false = _
      rw [decide_eq_false (fun h => by obtain ⟨l, hl, hn⟩ := d1; exact hn (h.2.1 l hl))]
    · rw [if_neg d1]
      by_cases d2 : ∃ h ∈ t.2.2, ¬ FG t h
      · rw [if_pos d2]
        show some false = _
        rw [decide_eq_false (fun h => by obtain ⟨l, hl, hn⟩ := d2; exact hn (h.2.2 l hl))]
      · rw [if_neg d2]
        show some true = _
        rw [decide_eq_true (⟨by omega, fun l hl => Decidable.not_not.1 fun hn => d1 ⟨l, hl, hn⟩, fun l hl => Decidable.not_not.1 fun hn => d2 ⟨l, hl, hn⟩⟩ : KX t)]
theorem Q9 (t : Tp) (a p : Int) : Hq t a p = Dl t a p := by
  have : HJ t a p = Cy t a p := by
    funext i
    rw [HJ, Cy]
    congr 2
    funext x
    by_cases c1 : a = x.1 ∧ p = x.2.1
    · rw [if_pos c1, if_pos (by simp [c1.1, c1.2])]
    · rw [if_neg c1, if_neg (by simp only [Bool.and_eq_true, decide_eq_true_eq]; exact fun h => c1 ⟨h.1.symm, h.2.symm⟩)]
      by_cases c2 : a = x.2.2.1 ∧ p = x.2.2.2.1
      · rw [if_pos c2, if_pos (by simp [c2.1, c2.2])]
      · rw [if_neg c2, if_neg (by simp only [Bool.and_eq_true, decide_eq_true_eq]; exact fun h => c2 ⟨h.1.symm, h.2.symm⟩)]
  unfold Hq Dl
  rw [this]
theorem Rd {t : Tp} (hl : t.2.1.length ≤ 24) : ∃ r, CX t = some r ∧ Gf t = some r := by
  have key : ∀ (d k : Nat), k + d = t.2.1.length → ∀ s : Int, ∃ r, Au (BA t) (s, (k : Int)) = some r ∧ Au (Ds t) (s, (k : Int)) = some r := by
    intro d
    induction d with
    | zero =>
      intro k hk s
      exact ⟨s, A7 (by rw [BA, if_neg (by omega)]), A7 (by rw [Ds, if_neg (by omega)])⟩
    | succ d ih =>
      intro k hk s
      have hkl : k < t.2.1.length := by omega
      have hg := AV (List.getElem?_eq_getElem hkl)
      obtain ⟨r, h1, h2⟩ := ih (k + 1) (by omega) (max s t.2.1[k].2.2.2.2.2)
      refine ⟨r, ?_, ?_⟩
      · rw [BO (show BA t (s, (k : Int)) = some (.inl (max s t.2.1[k].2.2.2.2.2, ((k + 1 : Nat) : Int))) by rw [BA, if_pos (by omega), hg, Option.bind_some, AJ (by omega)]; rfl)]; exact h1
      · rw [BO (show Ds t (s, (k : Int)) = some (.inl (max s t.2.1[k].2.2.2.2.2, ((k + 1 : Nat) : Int))) by
          rw [Ds, if_pos (by omega), hg, Option.bind_some, Option.bind_some]
          by_cases c : s < t.2.1[k].2.2.2.2.2
          · rw [if_pos c, Option.bind_some, AJ (by omega), Int.max_eq_right (by omega)]; rfl
          · rw [if_neg c, Option.bind_some, AJ (by omega), Int.max_eq_left (by omega)]; rfl)]; exact h2
  obtain ⟨r, h1, h2⟩ := key t.2.1.length 0 (by omega) 0
  have h1' : Au (BA t) (0, 0) = some r := h1
  have h2' : Au (Ds t) (0, 0) = some r := h2
  refine ⟨r, ?_, ?_⟩
  · unfold CX; rw [h1']; rfl
  · unfold Gf; rw [h2']; rfl
theorem QJ {t : Tp} (a p : Int) : Hq t a p = Dl t a p := Q9 t a p
theorem OZ {t : Tp} {r : Rt} (hr : r.length ≤ 12) (hw : ∀ row ∈ r, row.length ≤ 1000000000) : GY t r = some (decide (EY t r)) := by
  unfold GY
  rw [Rn, Option.bind_some]
  by_cases c : KX t
  · rw [decide_eq_true c, if_neg (by decide)]
    by_cases c2 : (r.length : Int) = t.1
    · rw [decide_eq_false (by omega : ¬ (r.length : Int) ≠ t.1), Option.bind_some, if_neg (by decide)]
      rw [Eh r (by omega) (Fx t r) (fun row => ¬ (row.length = t.2.2.length ∧ ∀ p ∈ row, 0 ≤ p ∧ p ≤ 7)) false (fun k hk => by
        have hg := List.getElem?_eq_getElem hk
        have hb := hw _ (List.getElem_mem hk)
        have hix : ix r (k : Int) = some r[k] := AV hg
        rw [Fx, if_pos (by omega), hix, Option.bind_some]
        by_cases d1 : (r[k].length : Int) ≠ (t.2.2.length : Int)
        · rw [if_pos d1, if_pos (fun h => d1 (by omega))]; rfl
        · have hin : Au (DB r (k : Int)) 0 = some (if ∃ y ∈ r[k], ¬ (0 ≤ y ∧ y ≤ 7) then .inr (.inr (.inr false)) else .inl ()) := by
            have key : ∀ (d j : Nat), j + d = r[k].length → (∀ y ∈ r[k].take j, 0 ≤ y ∧ y ≤ 7) → Au (DB r (k : Int)) (j : Int) = some (if ∃ y ∈ r[k], ¬ (0 ≤ y ∧ y ≤ 7) then .inr (.inr (.inr false)) else .inl ()) := by
              intro d
              induction d with
              | zero =>
                intro j hj hn
                rw [List.take_of_length_le (by omega)] at hn
                rw [if_neg (fun ⟨y, hy, h⟩ => h (hn y hy))]
                exact A7 (by rw [DB, hix, Option.bind_some, if_neg (by omega)])
              | succ d ih =>
                intro j hj hn
                have hjl : j < r[k].length := by omega
                have hgj : ix r[k] (j : Int) = some r[k][j] := AV (List.getElem?_eq_getElem hjl)
                by_cases e : 0 ≤ r[k][j] ∧ r[k][j] ≤ 7
                · have hst : DB r (k : Int) (j : Int) = some (.inl ((j + 1 : Nat) : Int)) := by
                    rw [DB, hix, Option.bind_some, if_pos (by omega), Option.bind_some, hgj, Option.bind_some, if_neg (by omega), Option.bind_some, hgj, Option.bind_some, decide_eq_false (by omega), Option.bind_some, if_neg (by decide), AJ (by omega)]; rfl
                  rw [BO hst]
                  refine ih (j + 1) (by omega) (fun y hy => ?_)
                  rw [List.take_succ_eq_append_getElem hjl] at hy
                  rcases List.mem_append.1 hy with h | h
                  · exact hn y h
                  · rw [List.mem_singleton.1 h]; exact e
                · rw [if_pos ⟨_, List.getElem_mem hjl, e⟩]
                  refine A7 ?_
                  rw [DB, hix, Option.bind_some, if_pos (by omega), Option.bind_some, hgj, Option.bind_some]
                  by_cases e1 : r[k][j] < 0
                  · rw [if_pos e1, Option.bind_some, if_pos rfl]
                  · rw [if_neg e1, Option.bind_some, hgj, Option.bind_some, decide_eq_true (by omega), Option.bind_some, if_pos rfl]
            exact key r[k].length 0 (by omega) (by simp)
          rw [if_neg d1, hin]
          by_cases d2 : ∃ y ∈ r[k], ¬ (0 ≤ y ∧ y ≤ 7)
          · rw [if_pos d2, if_pos (fun h => by obtain ⟨y, hy, hn⟩ := d2; exact hn (h.2 y hy))]; rfl
          · rw [if_neg d2, if_neg (fun h => h ⟨by omega, fun p hp => Decidable.not_not.1 fun hn => d2 ⟨p, hp, hn⟩⟩), AJ (by omega)]; rfl) (by rw [Fx, if_neg (by omega)])]
      by_cases d : ∃ row ∈ r, ¬ (row.length = t.2.2.length ∧ ∀ p ∈ row, 0 ≤ p ∧ p ≤ 7)
      · rw [if_pos d]
        show some false = _
        rw [decide_eq_false (fun h => by obtain ⟨row, hm, hn⟩ := d; exact hn (h.2.2 row hm))]
      · rw [if_neg d]
        show some true = _
        rw [decide_eq_true (⟨c, c2, fun row hm => Decidable.not_not.1 fun hn => d ⟨row, hm, hn⟩⟩ : EY t r)]
    · rw [decide_eq_true (show (r.length : Int) ≠ t.1 from c2), Option.bind_some, if_pos rfl, decide_eq_false (fun h => c2 h.2.1)]
  · rw [decide_eq_false c, if_pos (by decide), Option.bind_some, if_pos rfl, decide_eq_false (fun h => c h.1)]
theorem TK {t : Tp} {r : Rt} (ho : EY t r) {sw h : Int} (hs : 0 ≤ sw ∧ sw < t.1) (hh : 0 ≤ h ∧ h < (t.2.2.length : Int)) : JD t r sw h = some ((pe t sw (FQ r sw h)).1, (pe t sw (FQ r sw h)).2.2.2) := by
  obtain ⟨row, e1, e2, e3, _⟩ := ho.port hs hh
  have h2 := ho.2.1
  unfold JD
  rw [if_neg (by omega), if_neg (by omega), if_neg (by omega), e1, Option.bind_some, Option.bind_some, decide_eq_false (by omega), if_neg (by decide), Option.bind_some, e3, Option.bind_some, QJ, Qg ho.1, Option.bind_some]
instance home_dec (t : Tp) (r : Rt) (h sw : Int) : Decidable (KP t r h sw) := inferInstanceAs (Decidable (_ = _))
noncomputable def Pk (t : Tp) (r : Rt) (h : Int) : Nat → Int → Int × Bool
  | 0, a => (a, decide (KP t r h a))
  | n + 1, a => if KP t r h a then (a, false) else match nx t r h a with | none => (-1, false) | some b => Pk t r h n b
theorem TC {t : Tp} {r : Rt} (ho : EY t r) {h : Int} (hh : 0 ≤ h ∧ h < (t.2.2.length : Int)) {n : Nat} (hn : n ≤ 100) : ∀ (d k : Nat) (a : Int), k + d = n → 0 ≤ a ∧ a < t.1 → Ep (Au (D5 t r h (n : Int)) (a, (k : Int))) (fun x1 => some (x1, false)) = some (Pk t r h d a) := by
  have hok := ho.1
  obtain ⟨hst, e0⟩ : ∃ q, ix t.2.2 h = some q := by
    obtain ⟨q, e, _⟩ := KG (l := t.2.2) hh.1 hh.2
    exact ⟨q, e⟩
  have e0' : t.2.2[h.toNat]? = some hst := by
    obtain ⟨q, e, e2⟩ := KG (l := t.2.2) hh.1 hh.2
    rw [e2, ← e, e0]
  have hc : ∀ a : Int, 0 ≤ a ∧ a < t.1 → (if hst.1 = a then (ix t.2.2 h).bind fun x6 => (ix r a).bind fun x7 => (ix x7 h).bind fun x8 => some (decide (x6.2 = x8)) else some false) = some (decide (KP t r h a)) := fun a ha => by
    obtain ⟨row, f1, f2, f3, _⟩ := ho.port ha hh
    have hiff : KP t r h a ↔ hst = (a, FQ r a h) := by unfold KP; rw [e0']; simp
    by_cases c : hst.1 = a
    · rw [if_pos c, e0, Option.bind_some, f1, Option.bind_some, f3, Option.bind_some]
      congr 1
      exact decide_eq_decide.2 (by rw [hiff]; exact ⟨fun h => Prod.ext c h, fun h => by rw [h]⟩)
    · rw [if_neg c, decide_eq_false (fun h => c (by rw [hiff.1 h]))]
  intro d
  induction d with
  | zero =>
    intro k a hk ha
    rw [A7 (e := .inr (a, decide (KP t r h a))) (by
      rw [D5, if_pos (by omega), e0, Option.bind_some]
      rw [show ((some hst).bind fun x6 => (ix r a).bind fun x7 => (ix x7 h).bind fun x8 => some (decide (x6.2 = x8))) = ((ix t.2.2 h).bind fun x6 => (ix r a).bind fun x7 => (ix x7 h).bind fun x8 => some (decide (x6.2 = x8))) by rw [e0], hc a ha, Option.bind_some]
      by_cases c : KP t r h a
      · rw [decide_eq_true c, if_pos rfl, decide_eq_true (by omega)]
      · rw [decide_eq_false c, if_neg (by decide), if_pos (by omega)])]
    rfl
  | succ d ih =>
    intro k a hk ha
    rw [Pk]
    by_cases c : KP t r h a
    · rw [if_pos c, A7 (e := .inr (a, false)) (by
        rw [D5, if_pos (by omega), e0, Option.bind_some]
        rw [show ((some hst).bind fun x6 => (ix r a).bind fun x7 => (ix x7 h).bind fun x8 => some (decide (x6.2 = x8))) = ((ix t.2.2 h).bind fun x6 => (ix r a).bind fun x7 => (ix x7 h).bind fun x8 => some (decide (x6.2 = x8))) by rw [e0], hc a ha, Option.bind_some, decide_eq_true c, if_pos rfl, decide_eq_false (by omega)])]
      rfl
    · rw [if_neg c]
      have hstep : D5 t r h (n : Int) (a, (k : Int)) = (if (!(pe t a (FQ r a h)).2.2.2) = true then some (.inr (.inr (-1, false))) else some (.inl ((pe t a (FQ r a h)).1, ((k + 1 : Nat) : Int)))) := by
        rw [D5, if_pos (by omega), e0, Option.bind_some]
        rw [show ((some hst).bind fun x6 => (ix r a).bind fun x7 => (ix x7 h).bind fun x8 => some (decide (x6.2 = x8))) = ((ix t.2.2 h).bind fun x6 => (ix r a).bind fun x7 => (ix x7 h).bind fun x8 => some (decide (x6.2 = x8))) by rw [e0], hc a ha, Option.bind_some, decide_eq_false c, if_neg (by decide), if_neg (by omega), TK ho ha hh, Option.bind_some, AJ (by omega)]; rfl
      cases hx : nx t r h a with
      | none =>
        have c2 : ¬ (pe t a (FQ r a h)).2.2.2 = true := fun c2 => by unfold nx at hx; rw [if_pos c2] at hx; cases hx
        rw [A7 (e := .inr (-1, false)) (by rw [hstep, if_pos (by simpa using c2)])]; rfl
      | some b =>
        have c2 : (pe t a (FQ r a h)).2.2.2 = true := Classical.byContradiction fun c2 => by unfold nx at hx; rw [if_neg c2] at hx; cases hx
        have hb : (pe t a (FQ r a h)).1 = b := by unfold nx at hx; rw [if_pos c2] at hx; exact Option.some.inj hx
        rw [BO (s' := (b, ((k + 1 : Nat) : Int))) (by rw [hstep, if_neg (by simp [c2]), hb])]
        exact ih (k + 1) b (by omega) (Se hok hx).2
theorem OS {t : Tp} {r : Rt} {h : Int} : ∀ (n : Nat) (a : Int), (Pk t r h n a).2 = true → ∃ l, Wy t r h (a :: l)
  | 0, a, e => ⟨[], .last (of_decide_eq_true e)⟩
  | n + 1, a, e => by
    rw [Pk] at e
    by_cases c : KP t r h a
    · rw [if_pos c] at e; cases e
    · rw [if_neg c] at e
      cases hx : nx t r h a with
      | none => rw [hx] at e; cases e
      | some b =>
        rw [hx] at e
        obtain ⟨l, hl⟩ := OS n b e
        exact ⟨b :: l, .go c hx hl⟩
theorem R3 {t : Tp} {r : Rt} {h : Int} : ∀ (l : List Int) (a : Int), Wy t r h (a :: l) → ∀ n, n ≤ l.length → Pk t r h n a = ((a :: l).getD n 0, decide (n = l.length))
  | [], a, hw, n, hn => by
    obtain rfl : n = 0 := by simpa using hn
    cases hw with
    | last hs => rw [Pk, decide_eq_true hs]; rfl
  | v :: l, a, hw, n, hn => by
    cases hw with
    | go hnh hx hw2 =>
      cases n with
      | zero => rw [Pk, decide_eq_false hnh]; rfl
      | succ n =>
        rw [Pk, if_neg hnh, hx]
        show Pk t r h n v = _
        rw [R3 l v hw2 n (by simpa using hn)]
        simp
theorem TN {t : Tp} {r : Rt} (ho : EY t r) (hr : r.length ≤ 12) (hw : ∀ row ∈ r, row.length ≤ 1000000000) {sw h : Int} (hs : 0 ≤ sw ∧ sw < t.1) (hh : 0 ≤ h ∧ h < (t.2.2.length : Int)) : ∃ q, Ia t r sw h = some q ∧ Nw t r h sw q := by
  have hok := ho.1
  have h8 := hok.1
  have hlen := ho.2.1
  obtain ⟨m, hm⟩ : ∃ m : Nat, t.1 = m := ⟨t.1.toNat, by omega⟩
  have hst : ∀ n : Nat, n ≤ 8 → EP t r sw h (n : Int) = some (Pk t r h n sw) := fun n hn => by
    unfold EP
    exact TC ho hh (by omega) n 0 sw (by omega) hs
  have hhead : Ia t r sw h = Ep (Au (C1 t r sw h) ([], 0)) fun _ => (EP t r sw h t.1).bind fun x7 => (if x7.1 = (-1) then some (([] : List Int), 13) else some (([] : List Int), 12)) := by
    unfold Ia
    rw [OZ hr hw, Option.bind_some, decide_eq_true ho, if_neg (by decide), if_neg (by omega), if_neg (by omega), if_neg (by omega), decide_eq_false (by omega), Option.bind_some, if_neg (by decide)]
  rw [hhead]
  by_cases c : ∃ l, Wy t r h (sw :: l)
  · obtain ⟨l, hl⟩ := c
    have hin := hl.in_ hok (fun s e => by rw [← Option.some.inj e]; exact hs)
    have hle := Jp m (sw :: l) hl.nodup (fun x hx => by have := hin x hx; omega)
    refine ⟨(sw :: l, 0), ?_, .inl ⟨rfl, hl, rfl⟩⟩
    have key : ∀ (d k : Nat), k + d = l.length → Au (C1 t r sw h) ((sw :: l).take k, (k : Int)) = some (.inr (sw :: l, 0)) := by
      intro d
      have hstep : ∀ k : Nat, k ≤ l.length → C1 t r sw h ((sw :: l).take k, (k : Int)) = (if decide (k = l.length) = true then some (.inr (.inr ((sw :: l).take (k + 1), 0))) else some (.inl ((sw :: l).take (k + 1), ((k + 1 : Nat) : Int)))) := fun k hk => by
        have hkl : k < (sw :: l).length := by simp; omega
        have hge : (sw :: l).getD k 0 = (sw :: l)[k] := by rw [List.getD_eq_getElem?_getD, List.getElem?_eq_getElem hkl]; rfl
        have hpos := hin _ (List.getElem_mem hkl)
        rw [List.length_cons] at hle hkl
        rw [C1, if_pos (by omega), hst k (by omega), Option.bind_some, R3 l sw hl k hk, hge, if_neg (by show ¬ (sw :: l)[k] = -1; omega), Dc (by simp; omega), Option.bind_some, AJ (by omega), List.take_succ_eq_append_getElem (by simp; omega)]; rfl
      induction d with
      | zero =>
        intro k hk
        exact A7 (by rw [hstep k (by omega), if_pos (decide_eq_true (by omega)), List.take_of_length_le (by simp; omega)])
      | succ d ih =>
        intro k hk
        rw [BO (by rw [hstep k (by omega), if_neg (by simp; omega)])]
        exact ih (k + 1) (by omega)
    have h0 : Au (C1 t r sw h) ([], 0) = some (.inr (sw :: l, 0)) := key l.length 0 (by omega)
    rw [h0]; rfl
  · have hnf : ∀ n, (Pk t r h n sw).2 = false := fun n => by
      cases e : (Pk t r h n sw).2 with
      | false => rfl
      | true => exact absurd (OS n sw e) c
    have key : ∀ (d k : Nat) (out : List Int), k + d = m → out.length = k → ∃ e : Int, (e = 12 ∨ e = 13) ∧ Ep (Au (C1 t r sw h) (out, (k : Int))) (fun _ => (EP t r sw h t.1).bind fun x7 => (if x7.1 = (-1) then some (([] : List Int), 13) else some (([] : List Int), 12))) = some ([], e) := by
      intro d
      induction d with
      | zero =>
        intro k out hk ho2
        rw [A7 (e := .inl ()) (by rw [C1, if_neg (by omega)])]
        show ∃ e : Int, _ ∧ (EP t r sw h t.1).bind _ = _
        rw [hm, hst m (by omega), Option.bind_some]
        by_cases d : (Pk t r h m sw).1 = -1
        · rw [if_pos d]; exact ⟨13, .inr rfl, rfl⟩
        · rw [if_neg d]; exact ⟨12, .inl rfl, rfl⟩
      | succ d ih =>
        intro k out hk ho2
        by_cases d : (Pk t r h k sw).1 = -1
        · refine ⟨13, .inr rfl, ?_⟩
          rw [A7 (e := .inr ([], 13)) (by rw [C1, if_pos (by omega), hst k (by omega), Option.bind_some, if_pos d])]; rfl
        · rw [BO (s' := (out ++ [(Pk t r h k sw).1], ((k + 1 : Nat) : Int))) (by rw [C1, if_pos (by omega), hst k (by omega), Option.bind_some, if_neg d, Dc (by simp; omega), Option.bind_some, hnf, if_neg (by decide), AJ (by omega)]; rfl)]
          exact ih (k + 1) _ (by omega) (by simp; omega)
    obtain ⟨e, he, h0⟩ := key m 0 [] (by omega) rfl
    exact ⟨([], e), h0, .inr ⟨he, rfl, fun l hl => c ⟨l, hl⟩⟩⟩
open Classical in
theorem Qv {t : Tp} {r : Rt} (hr : r.length ≤ 12) (hw : ∀ row ∈ r, row.length ≤ 1000000000) : Ij t r = some (decide (IQ t r)) := by
  unfold Ij
  rw [OZ hr hw, Option.bind_some]
  by_cases c : EY t r
  · rw [decide_eq_true c, if_neg (by decide)]
    have hlen := c.2.1
    have h8 := c.1.1
    have hin : ∀ (k : Nat), k < r.length → Au (Fc t r (k : Int)) 0 = some (if ∃ h : Nat, h < t.2.2.length ∧ ¬ ∃ l, Wy t r (h : Int) ((k : Int) :: l) then .inr (.inr (.inr false)) else .inl ()) := fun k hk => by
      have := J7 (ε := Int ⊕ (Unit ⊕ Bool)) t.2.2.length (Fc t r (k : Int)) (fun h => if ¬ ∃ l, Wy t r (h : Int) ((k : Int) :: l) then some (.inr (.inr false)) else none) (fun h hh => by
        obtain ⟨q, e, hq⟩ := TN c hr hw (sw := (k : Int)) (h := (h : Int)) (by omega) (by omega)
        rw [Fc, if_pos (by omega), e, Option.bind_some]
        have hz := hq.zero
        by_cases d : ∃ l, Wy t r (h : Int) ((k : Int) :: l)
        · rw [if_neg (fun h => h (hz.2 d)), if_neg (fun h => h d), AJ (by omega)]; rfl
        · rw [if_pos (fun h => d (hz.1 h)), if_pos d]) (by rw [Fc, if_neg (by omega)])
      rw [this]
      by_cases d : ∃ h : Nat, h < t.2.2.length ∧ ¬ ∃ l, Wy t r (h : Int) ((k : Int) :: l)
      · rw [if_pos d]
        obtain ⟨h, h1, h2⟩ := d
        cases e : (List.range t.2.2.length).findSome? (fun h : Nat => if ¬ ∃ l, Wy t r (h : Int) ((k : Int) :: l) then some (.inr (.inr false) : Int ⊕ (Unit ⊕ Bool)) else none) with
        | none =>
          rw [List.findSome?_eq_none_iff] at e
          have := e h (List.mem_range.2 (by omega))
          rw [if_pos h2] at this; cases this
        | some x =>
          obtain ⟨y, _, hy⟩ := List.exists_of_findSome?_eq_some e
          by_cases d2 : ¬ ∃ l, Wy t r (y : Int) ((k : Int) :: l)
          · rw [if_pos d2] at hy; rw [← Option.some.inj hy]
          · rw [if_neg d2] at hy; cases hy
      · rw [if_neg d, Is fun h hh => if_neg fun h2 => d ⟨h, by omega, h2⟩]
    have := J7 (ε := Bool) r.length (Gt t r) (fun k => if ∃ h : Nat, h < t.2.2.length ∧ ¬ ∃ l, Wy t r (h : Int) ((k : Int) :: l) then some false else none) (fun k hk => by
      rw [Gt, if_pos (by omega), hin k hk]
      by_cases d : ∃ h : Nat, h < t.2.2.length ∧ ¬ ∃ l, Wy t r (h : Int) ((k : Int) :: l)
      · rw [if_pos d, if_pos d]; rfl
      · rw [if_neg d, if_neg d, AJ (by omega)]; rfl) (by rw [Gt, if_neg (by omega)])
    rw [this]
    by_cases d : IQ t r
    · rw [decide_eq_true d, Is fun k hk => if_neg fun ⟨h, h1, h2⟩ => h2 (d.2 _ _ (by omega) (by omega))]; rfl
    · rw [decide_eq_false d]
      cases e : (List.range r.length).findSome? (fun k : Nat => if ∃ h : Nat, h < t.2.2.length ∧ ¬ ∃ l, Wy t r (h : Int) ((k : Int) :: l) then some false else none) with
      | none =>
        rw [List.findSome?_eq_none_iff] at e
        refine absurd ⟨c, fun sw h hs hh => Classical.byContradiction fun hn => ?_⟩ d
        have := e sw.toNat (List.mem_range.2 (by omega))
        rw [if_pos ⟨h.toNat, by omega, by rw [show ((h.toNat : Nat) : Int) = h by omega, show ((sw.toNat : Nat) : Int) = sw by omega]; exact hn⟩] at this
        cases this
      | some x =>
        obtain ⟨y, _, hy⟩ := List.exists_of_findSome?_eq_some e
        split at hy
        · rw [← Option.some.inj hy]; rfl
        · cases hy
  · rw [decide_eq_false c, if_pos (by decide), decide_eq_false (fun h => c h.1)]
theorem S4 {t : Tp} (hok : KX t) : ∃ s, CX t = some s ∧ 0 ≤ s ∧ s ≤ 1000 := by
  have h8 := hok.1
  obtain ⟨s, h1, h2⟩ := CE t.2.1.length (fun (s : Int) (k : Nat) => (s, (k : Int))) (BA t) id (fun s k => 0 ≤ s ∧ s ≤ 1000)
    (fun s k hk hI => by
      have hl := (hok.2.1 _ (List.getElem_mem hk)).2.2.2.1
      refine ⟨max s t.2.1[k].2.2.2.2.2, ?_, by omega⟩
      rw [BA, if_pos (by omega), AV (List.getElem?_eq_getElem hk), Option.bind_some, AJ (by omega)]; rfl)
    (fun s _ => by rw [BA, if_neg (by omega)]; rfl) 0 (by omega)
  have e1 : Au (BA t) (0, 0) = some s := h2
  exact ⟨s, by unfold CX; rw [e1]; rfl, h1⟩
noncomputable def FB (t : Tp) : Int := t.1 * (CX t).getD 0
theorem LK {t : Tp} (hok : KX t) : Fj t = some (FB t) ∧ 0 ≤ FB t ∧ FB t ≤ 8000 := by
  obtain ⟨s, e, h0, h1⟩ := S4 hok
  have h8 := hok.1
  have hL : FB t = t.1 * s := by unfold FB; rw [e]; rfl
  have b1 : 0 ≤ t.1 * s := Int.mul_nonneg (by omega) h0
  have b2 : t.1 * s ≤ 8 * 1000 := Int.mul_le_mul (by omega) h1 h0 (by omega)
  rw [hL]
  refine ⟨?_, b1, by omega⟩
  unfold Fj
  rw [e, Option.bind_some, AJ (by omega)]
theorem UQ {t : Tp} (hok : KX t) {miss : Int} (hm : 0 ≤ miss ∧ miss ≤ 1048576) : Gi t miss = some (2 * miss + FB t + 1) := by
  obtain ⟨h1, h2, h3⟩ := LK hok
  unfold Gi
  rw [h1, Option.bind_some, AJ (x := 2 * miss) (by omega), AJ (x := 2 * miss + FB t) (by omega), AJ (by omega)]
theorem Qw (t : Tp) (r : Rt) (hl : r.length ≤ 9223372036854775807) : G0 t r = some (decide ((∀ row ∈ r, row.length ≤ 12) ∧ t.2.1.length ≤ 30 ∧ t.2.2.length ≤ 12 ∧ r.length ≤ 12)) := by
  unfold G0
  rw [Eh r hl (Fw r) (fun row => ¬ row.length ≤ 12) false (fun k hk => by
    rw [Fw, if_pos (by omega), AV (List.getElem?_eq_getElem hk), Option.bind_some]
    by_cases c : r[k].length ≤ 12
    · rw [if_neg (by omega), if_neg (fun h => h c)]
    · rw [if_pos (by omega), if_pos c]) (by rw [Fw, if_neg (by omega)])]
  by_cases c : ∃ row ∈ r, ¬ row.length ≤ 12
  · rw [if_pos c]
    show some false = _
    rw [decide_eq_false (fun h => by obtain ⟨row, hm, hn⟩ := c; exact hn (h.1 row hm))]
  · rw [if_neg c]
    show some _ = some _
    congr 1
    rw [Bool.eq_iff_iff]
    simp only [Bool.and_eq_true, decide_eq_true_eq]
    constructor
    · intro h
      exact ⟨fun row hm => Decidable.not_not.1 fun hn => c ⟨row, hm, hn⟩, by omega⟩
    · intro h; omega
end Go.Proofs.Ythhoflfhegfmcaa
