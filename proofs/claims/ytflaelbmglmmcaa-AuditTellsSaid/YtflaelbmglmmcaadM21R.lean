/- Layer 42: the document's NW, good routes. Conditions: none. -/
import Derived.Test.YtflaelbmglmmcaadM21A
import Derived.Test.YtflaelbmglmmcaadA8
namespace Go.Proofs.Ytflaelbmglmmcaa
set_option linter.unusedVariables false
set_option linter.unusedSimpArgs false
open Go Go.RowKit
theorem Jb (q : Int × Int) : ∀ l : List Lk, (l.flatMap EK).count q ≤ 2 * l.length
  | [] => by simp
  | x :: l => by
    have h := Jb q l
    have h2 : (EK x).count q ≤ 2 := List.count_le_length
    rw [List.flatMap_cons, List.count_append, List.length_cons]; omega
theorem Kr {t : Tp} (hl : t.2.1.length ≤ 24) (hh : t.2.2.length ≤ 8) (a p : Int) : FK t a p = some (decide (Ey t (a, p))) := by
  obtain ⟨s, h1, h2⟩ := EC t.2.1.length (fun (s : Int) (k : Nat) => (s, (k : Int))) (Eh t a p) id (fun s k => s = (((t.2.1.take k).flatMap EK).count (a, p) : Nat))
    (fun s k hk hI => by
      have hb := Jb (a, p) (t.2.1.take k)
      rw [List.length_take] at hb
      have hx : ∀ c : Prop, [Decidable c] → ∀ s : Int, 0 ≤ s ∧ s ≤ 100 → (if c then some (Dz (s + 1)) else some s) = some (s + (if c then 1 else 0)) := fun c _ s hs => by
        by_cases h : c
        · rw [if_pos h, if_pos h, Bn (by omega)]
        · rw [if_neg h, if_neg h]; simp
      refine ⟨s + (if (decide (t.2.1[k].1 = a) && decide (t.2.1[k].2.1 = p)) = true then 1 else 0) + (if (decide (t.2.1[k].2.2.1 = a) && decide (t.2.1[k].2.2.2.1 = p)) = true then 1 else 0), ?_, ?_⟩
      · rw [Eh, if_pos (by omega), A4 (List.getElem?_eq_getElem hk), Option.bind_some, hx _ s (by omega), Option.bind_some, hx _ _ (by split <;> omega), Option.bind_some, Bn (by omega)]; rfl
      · rw [hI, List.take_succ_eq_append_getElem hk, List.flatMap_append, List.count_append, List.flatMap_cons, List.flatMap_nil, List.append_nil]
        have hc : ∀ (x : Lk), (((EK x).count (a, p) : Nat) : Int) = (if (decide (x.1 = a) && decide (x.2.1 = p)) = true then 1 else 0) + (if (decide (x.2.2.1 = a) && decide (x.2.2.2.1 = p)) = true then 1 else 0) := fun x => by
          simp only [EK, List.count_cons, List.count_nil, beq_iff_eq, Prod.mk.injEq, Bool.and_eq_true, decide_eq_true_eq]
          split <;> split <;> rfl
        rw [Int.natCast_add, hc]; omega)
    (fun s _ => by rw [Eh, if_neg (by omega)]; rfl) 0 (by simp)
  have e1 : AM (Eh t a p) (0, 0) = some s := h2
  rw [List.take_length] at h1
  have hb := Jb (a, p) t.2.1
  obtain ⟨s2, g1, g2⟩ := EC t.2.2.length (fun (s : Int) (k : Nat) => (s, (k : Int))) (Eg t a p) id (fun s2 k => s2 = s + ((t.2.2.take k).count (a, p) : Nat))
    (fun s2 k hk hI => by
      have hb2 : (t.2.2.take k).count (a, p) ≤ k := Nat.le_trans List.count_le_length (by rw [List.length_take]; omega)
      refine ⟨s2 + (if t.2.2[k] = (a, p) then 1 else 0), ?_, ?_⟩
      · rw [Eg, if_pos (by omega), A4 (List.getElem?_eq_getElem hk), Option.bind_some, Option.bind_some]
        have hd : (if t.2.2[k].1 = a then some (decide (t.2.2[k].2 = p)) else some false) = some (decide (t.2.2[k] = (a, p))) := by
          by_cases c : t.2.2[k].1 = a
          · rw [if_pos c]; congr 1; exact decide_eq_decide.2 ⟨fun h => Prod.ext c h, fun h => by rw [h]⟩
          · rw [if_neg c, decide_eq_false (fun h => c (by rw [h]))]
        rw [hd, Option.bind_some]
        by_cases c : t.2.2[k] = (a, p)
        · rw [decide_eq_true c, if_pos rfl, if_pos c, Option.bind_some, Bn (by omega), Bn (by omega)]; rfl
        · rw [decide_eq_false c, if_neg (by decide), if_neg c, Option.bind_some, Bn (by omega), Int.add_zero]; rfl
      · rw [hI, List.take_succ_eq_append_getElem hk, List.count_append]
        by_cases c : t.2.2[k] = (a, p)
        · rw [if_pos c, c]; simp; omega
        · rw [if_neg c, List.count_eq_zero_of_not_mem (a := (a, p)) (l := [t.2.2[k]]) (by simp; exact fun h => c h.symm)]; omega)
    (fun s _ => by rw [Eg, if_neg (by omega)]; rfl) s (by simp)
  have e2 : AM (Eg t a p) (s, 0) = some s2 := g2
  rw [List.take_length] at g1
  have hcount : ((pl t).count (a, p) : Int) = s2 := by
    unfold pl
    rw [List.count_append, Int.natCast_add, g1, h1]
  unfold FK
  rw [e1, Option.bind_some, e2, Option.bind_some]
  congr 1
  rw [Bool.eq_iff_iff]
  simp only [Bool.and_eq_true, decide_eq_true_eq]
  have : s2 = 1 ↔ (pl t).count (a, p) = 1 := by omega
  rw [this]
theorem NJ {t : Tp} : Gm t = some (decide (Mr t)) := by
  unfold Gm
  by_cases c : t.1 < 1 ∨ 8 < t.1 ∨ 24 < (t.2.1.length : Int) ∨ 8 < (t.2.2.length : Int)
  · rw [if_pos (by simpa using c), decide_eq_false (fun h => by have := h.1; omega)]
  · rw [if_neg (by simpa using c)]
    have hl : t.2.1.length ≤ 24 := by omega
    have hh : t.2.2.length ≤ 8 := by omega
    rw [DC t.2.1 (by omega) (Ew t) (fun l => ¬ LI t l) false (fun k hk => by
      rw [Ew, if_pos (by omega), A4 (List.getElem?_eq_getElem hk), Option.bind_some, Kr hl hh, Kr hl hh]
      generalize t.2.1[k] = x
      by_cases c1 : x.1 = x.2.2.1
      · rw [if_pos c1, Option.bind_some, if_pos rfl, if_pos (fun h => h.1 c1)]
      rw [if_neg c1]
      by_cases c2 : x.2.2.2.2.1 < 1
      · rw [if_pos c2, Option.bind_some, if_pos rfl, if_pos (fun h => by have := h.2.1; omega)]
      rw [if_neg c2]
      by_cases c3 : x.2.2.2.2.2 < x.2.2.2.2.1
      · rw [if_pos c3, Option.bind_some, if_pos rfl, if_pos (fun h => by have := h.2.2.1; omega)]
      rw [if_neg c3]
      by_cases c4 : 1000 < x.2.2.2.2.2
      · rw [if_pos c4, Option.bind_some, if_pos rfl, if_pos (fun h => by have := h.2.2.2.1; omega)]
      rw [if_neg c4, Option.bind_some]
      by_cases c5 : Ey t (x.1, x.2.1)
      · rw [decide_eq_true c5, if_neg (by decide), Option.bind_some]
        by_cases c6 : Ey t (x.2.2.1, x.2.2.2.1)
        · rw [decide_eq_true c6, Option.bind_some, if_neg (by decide), if_neg (fun h => h ⟨c1, by omega, by omega, by omega, c5, c6⟩)]
        · rw [decide_eq_false c6, Option.bind_some, if_pos (by decide), if_pos (fun h => c6 h.2.2.2.2.2)]
      · rw [decide_eq_false c5, if_pos (by decide), Option.bind_some, if_pos rfl, if_pos (fun h => c5 h.2.2.2.2.1)]) (by rw [Ew, if_neg (by omega)]),
      DC t.2.2 (by omega) (EG t) (fun h => ¬ Ey t h) false (fun k hk => by
      rw [EG, if_pos (by omega), A4 (List.getElem?_eq_getElem hk), Option.bind_some, Option.bind_some, Kr hl hh, Option.bind_some]
      by_cases c5 : Ey t t.2.2[k]
      · rw [decide_eq_true (show Ey t (t.2.2[k].1, t.2.2[k].2) from c5), if_neg (by decide), if_neg (fun h => h c5)]
      · rw [decide_eq_false (show ¬ Ey t (t.2.2[k].1, t.2.2[k].2) from c5), if_pos (by decide), if_pos c5]) (by rw [EG, if_neg (by omega)])]
    by_cases d1 : ∃ l ∈ t.2.1, ¬ LI t l
    · rw [if_pos d1]
      show some false = _
      rw [decide_eq_false (fun h => by obtain ⟨l, hl, hn⟩ := d1; exact hn (h.2.1 l hl))]
    · rw [if_neg d1]
      by_cases d2 : ∃ h ∈ t.2.2, ¬ Ey t h
      · rw [if_pos d2]
        show some false = _
        rw [decide_eq_false (fun h => by obtain ⟨l, hl, hn⟩ := d2; exact hn (h.2.2 l hl))]
      · rw [if_neg d2]
        show some true = _
        rw [decide_eq_true (⟨by omega, fun l hl => Decidable.not_not.1 fun hn => d1 ⟨l, hl, hn⟩, fun l hl => Decidable.not_not.1 fun hn => d2 ⟨l, hl, hn⟩⟩ : Mr t)]
theorem MZ (t : Tp) (a p : Int) : Gl t a p = Di t a p := by
  have : FV t a p = B5 t a p := by
    funext i
    rw [FV, B5]
    congr 2
    funext x
    by_cases c1 : a = x.1 ∧ p = x.2.1
    · rw [if_pos c1, if_pos (by simp [c1.1, c1.2])]
    · rw [if_neg c1, if_neg (by simp only [Bool.and_eq_true, decide_eq_true_eq]; exact fun h => c1 ⟨h.1.symm, h.2.symm⟩)]
      by_cases c2 : a = x.2.2.1 ∧ p = x.2.2.2.1
      · rw [if_pos c2, if_pos (by simp [c2.1, c2.2])]
      · rw [if_neg c2, if_neg (by simp only [Bool.and_eq_true, decide_eq_true_eq]; exact fun h => c2 ⟨h.1.symm, h.2.symm⟩)]
  unfold Gl Di
  rw [this]
def OM (t : Tp) (r : Rt) : Prop := Gx t r ∧ ∀ sw h : Int, 0 ≤ sw ∧ sw < t.1 → 0 ≤ h ∧ h < (t.2.2.length : Int) → ∃ l, Wy t r h (sw :: l)
noncomputable instance OM.dec (t : Tp) (r : Rt) : Decidable (OM t r) := Classical.propDecidable _
theorem Jo.zero {t : Tp} {r : Rt} {h sw : Int} {q : List Int × Int} (hq : Jo t r h sw q) : q.2 = 0 ↔ ∃ l, Wy t r h (sw :: l) := by
  rcases hq with ⟨h1, h2, h3⟩ | ⟨h1, h2, h3⟩
  · refine ⟨fun _ => ?_, fun _ => h1⟩
    cases hl : q.1 with
    | nil => rw [hl] at h3; cases h3
    | cons a l =>
      rw [hl] at h2 h3
      have : a = sw := by simpa using h3
      subst this; exact ⟨l, h2⟩
  · exact ⟨fun h => by omega, fun ⟨l, hl⟩ => absurd hl (h3 l)⟩
open Classical in
theorem Ox {t : Tp} (a p : Int) : Gl t a p = Di t a p := MZ t a p
theorem Ly {t : Tp} {r : Rt} (hr : r.length ≤ 12) (hw : ∀ row ∈ r, row.length ≤ 1000000000) : Gg t r = some (decide (Gx t r)) := by
  unfold Gg
  rw [NJ, Option.bind_some]
  by_cases c : Mr t
  · rw [decide_eq_true c, if_neg (by decide)]
    by_cases c2 : (r.length : Int) = t.1
    · rw [decide_eq_false (by omega : ¬ (r.length : Int) ≠ t.1), Option.bind_some, if_neg (by decide)]
      rw [DC r (by omega) (EB t r) (fun row => ¬ (row.length = t.2.2.length ∧ ∀ p ∈ row, 0 ≤ p ∧ p ≤ 7)) false (fun k hk => by
        have hg := List.getElem?_eq_getElem hk
        have hb := hw _ (List.getElem_mem hk)
        have hix : ix r (k : Int) = some r[k] := A4 hg
        rw [EB, if_pos (by omega), hix, Option.bind_some]
        by_cases d1 : (r[k].length : Int) ≠ (t.2.2.length : Int)
        · rw [if_pos d1, if_pos (fun h => d1 (by omega))]; rfl
        · have hin : AM (C0 r (k : Int)) 0 = some (if ∃ y ∈ r[k], ¬ (0 ≤ y ∧ y ≤ 7) then .inr (.inr (.inr false)) else .inl ()) := by
            have key : ∀ (d j : Nat), j + d = r[k].length → (∀ y ∈ r[k].take j, 0 ≤ y ∧ y ≤ 7) → AM (C0 r (k : Int)) (j : Int) = some (if ∃ y ∈ r[k], ¬ (0 ≤ y ∧ y ≤ 7) then .inr (.inr (.inr false)) else .inl ()) := by
              intro d
              induction d with
              | zero =>
                intro j hj hn
                rw [List.take_of_length_le (by omega)] at hn
                rw [if_neg (fun ⟨y, hy, h⟩ => h (hn y hy))]
                exact A5 (by rw [C0, hix, Option.bind_some, if_neg (by omega)])
              | succ d ih =>
                intro j hj hn
                have hjl : j < r[k].length := by omega
                have hgj : ix r[k] (j : Int) = some r[k][j] := A4 (List.getElem?_eq_getElem hjl)
                by_cases e : 0 ≤ r[k][j] ∧ r[k][j] ≤ 7
                · have hst : C0 r (k : Int) (j : Int) = some (.inl ((j + 1 : Nat) : Int)) := by
                    rw [C0, hix, Option.bind_some, if_pos (by omega), Option.bind_some, hgj, Option.bind_some, if_neg (by omega), Option.bind_some, hgj, Option.bind_some, decide_eq_false (by omega), Option.bind_some, if_neg (by decide), Bn (by omega)]; rfl
                  rw [BU hst]
                  refine ih (j + 1) (by omega) (fun y hy => ?_)
                  rw [List.take_succ_eq_append_getElem hjl] at hy
                  rcases List.mem_append.1 hy with h | h
                  · exact hn y h
                  · rw [List.mem_singleton.1 h]; exact e
                · rw [if_pos ⟨_, List.getElem_mem hjl, e⟩]
                  refine A5 ?_
                  rw [C0, hix, Option.bind_some, if_pos (by omega), Option.bind_some, hgj, Option.bind_some]
                  by_cases e1 : r[k][j] < 0
                  · rw [if_pos e1, Option.bind_some, if_pos rfl]
                  · rw [if_neg e1, Option.bind_some, hgj, Option.bind_some, decide_eq_true (by omega), Option.bind_some, if_pos rfl]
            exact key r[k].length 0 (by omega) (by simp)
          rw [if_neg d1, hin]
          by_cases d2 : ∃ y ∈ r[k], ¬ (0 ≤ y ∧ y ≤ 7)
          · rw [if_pos d2, if_pos (fun h => by obtain ⟨y, hy, hn⟩ := d2; exact hn (h.2 y hy))]; rfl
          · rw [if_neg d2, if_neg (fun h => h ⟨by omega, fun p hp => Decidable.not_not.1 fun hn => d2 ⟨p, hp, hn⟩⟩), Bn (by omega)]; rfl) (by rw [EB, if_neg (by omega)])]
      by_cases d : ∃ row ∈ r, ¬ (row.length = t.2.2.length ∧ ∀ p ∈ row, 0 ≤ p ∧ p ≤ 7)
      · rw [if_pos d]
        show some false = _
        rw [decide_eq_false (fun h => by obtain ⟨row, hm, hn⟩ := d; exact hn (h.2.2 row hm))]
      · rw [if_neg d]
        show some true = _
        rw [decide_eq_true (⟨c, c2, fun row hm => Decidable.not_not.1 fun hn => d ⟨row, hm, hn⟩⟩ : Gx t r)]
    · rw [decide_eq_true (show (r.length : Int) ≠ t.1 from c2), Option.bind_some, if_pos rfl, decide_eq_false (fun h => c2 h.2.1)]
  · rw [decide_eq_false c, if_pos (by decide), Option.bind_some, if_pos rfl, decide_eq_false (fun h => c h.1)]
theorem Oo {t : Tp} {r : Rt} (ho : Gx t r) {sw h : Int} (hs : 0 ≤ sw ∧ sw < t.1) (hh : 0 ≤ h ∧ h < (t.2.2.length : Int)) : GQ t r sw h = some ((pe t sw (Ix r sw h)).1, (pe t sw (Ix r sw h)).2.2.2) := by
  obtain ⟨row, e1, e2, e3, _⟩ := ho.port hs hh
  have h2 := ho.2.1
  unfold GQ
  rw [if_neg (by omega), if_neg (by omega), if_neg (by omega), e1, Option.bind_some, Option.bind_some, decide_eq_false (by omega), if_neg (by decide), Option.bind_some, e3, Option.bind_some, Ox, OV ho.1, Option.bind_some]
instance home_dec (t : Tp) (r : Rt) (h sw : Int) : Decidable (Ib t r h sw) := inferInstanceAs (Decidable (_ = _))
noncomputable def LH (t : Tp) (r : Rt) (h : Int) : Nat → Int → Int × Bool
  | 0, a => (a, decide (Ib t r h a))
  | n + 1, a => if Ib t r h a then (a, false) else match nx t r h a with | none => (-1, false) | some b => LH t r h n b
theorem Ov {t : Tp} {r : Rt} (ho : Gx t r) {h : Int} (hh : 0 ≤ h ∧ h < (t.2.2.length : Int)) {n : Nat} (hn : n ≤ 100) : ∀ (d k : Nat) (a : Int), k + d = n → 0 ≤ a ∧ a < t.1 → D6 (AM (Dq t r h (n : Int)) (a, (k : Int))) (fun x1 => some (x1, false)) = some (LH t r h d a) := by
  have hok := ho.1
  obtain ⟨hst, e0⟩ : ∃ q, ix t.2.2 h = some q := by
    obtain ⟨q, e, _⟩ := GZ (l := t.2.2) hh.1 hh.2
    exact ⟨q, e⟩
  have e0' : t.2.2[h.toNat]? = some hst := by
    obtain ⟨q, e, e2⟩ := GZ (l := t.2.2) hh.1 hh.2
    rw [e2, ← e, e0]
  have hc : ∀ a : Int, 0 ≤ a ∧ a < t.1 → (if hst.1 = a then (ix t.2.2 h).bind fun x6 => (ix r a).bind fun x7 => (ix x7 h).bind fun x8 => some (decide (x6.2 = x8)) else some false) = some (decide (Ib t r h a)) := fun a ha => by
    obtain ⟨row, f1, f2, f3, _⟩ := ho.port ha hh
    have hiff : Ib t r h a ↔ hst = (a, Ix r a h) := by unfold Ib; rw [e0']; simp
    by_cases c : hst.1 = a
    · rw [if_pos c, e0, Option.bind_some, f1, Option.bind_some, f3, Option.bind_some]
      congr 1
      exact decide_eq_decide.2 (by rw [hiff]; exact ⟨fun h => Prod.ext c h, fun h => by rw [h]⟩)
    · rw [if_neg c, decide_eq_false (fun h => c (by rw [hiff.1 h]))]
  intro d
  induction d with
  | zero =>
    intro k a hk ha
    rw [A5 (e := .inr (a, decide (Ib t r h a))) (by
      rw [Dq, if_pos (by omega), e0, Option.bind_some]
      rw [show ((some hst).bind fun x6 => (ix r a).bind fun x7 => (ix x7 h).bind fun x8 => some (decide (x6.2 = x8))) = ((ix t.2.2 h).bind fun x6 => (ix r a).bind fun x7 => (ix x7 h).bind fun x8 => some (decide (x6.2 = x8))) by rw [e0], hc a ha, Option.bind_some]
      by_cases c : Ib t r h a
      · rw [decide_eq_true c, if_pos rfl, decide_eq_true (by omega)]
      · rw [decide_eq_false c, if_neg (by decide), if_pos (by omega)])]
    rfl
  | succ d ih =>
    intro k a hk ha
    rw [LH]
    by_cases c : Ib t r h a
    · rw [if_pos c, A5 (e := .inr (a, false)) (by
        rw [Dq, if_pos (by omega), e0, Option.bind_some]
        rw [show ((some hst).bind fun x6 => (ix r a).bind fun x7 => (ix x7 h).bind fun x8 => some (decide (x6.2 = x8))) = ((ix t.2.2 h).bind fun x6 => (ix r a).bind fun x7 => (ix x7 h).bind fun x8 => some (decide (x6.2 = x8))) by rw [e0], hc a ha, Option.bind_some, decide_eq_true c, if_pos rfl, decide_eq_false (by omega)])]
      rfl
    · rw [if_neg c]
      have hstep : Dq t r h (n : Int) (a, (k : Int)) = (if (!(pe t a (Ix r a h)).2.2.2) = true then some (.inr (.inr (-1, false))) else some (.inl ((pe t a (Ix r a h)).1, ((k + 1 : Nat) : Int)))) := by
        rw [Dq, if_pos (by omega), e0, Option.bind_some]
        rw [show ((some hst).bind fun x6 => (ix r a).bind fun x7 => (ix x7 h).bind fun x8 => some (decide (x6.2 = x8))) = ((ix t.2.2 h).bind fun x6 => (ix r a).bind fun x7 => (ix x7 h).bind fun x8 => some (decide (x6.2 = x8))) by rw [e0], hc a ha, Option.bind_some, decide_eq_false c, if_neg (by decide), if_neg (by omega), Oo ho ha hh, Option.bind_some, Bn (by omega)]; rfl
      cases hx : nx t r h a with
      | none =>
        have c2 : ¬ (pe t a (Ix r a h)).2.2.2 = true := fun c2 => by unfold nx at hx; rw [if_pos c2] at hx; cases hx
        rw [A5 (e := .inr (-1, false)) (by rw [hstep, if_pos (by simpa using c2)])]; rfl
      | some b =>
        have c2 : (pe t a (Ix r a h)).2.2.2 = true := Classical.byContradiction fun c2 => by unfold nx at hx; rw [if_neg c2] at hx; cases hx
        have hb : (pe t a (Ix r a h)).1 = b := by unfold nx at hx; rw [if_pos c2] at hx; exact Option.some.inj hx
        rw [BU (s' := (b, ((k + 1 : Nat) : Int))) (by rw [hstep, if_neg (by simp [c2]), hb])]
        exact ih (k + 1) b (by omega) (NF hok hx).2
theorem Lb {t : Tp} {r : Rt} {h : Int} : ∀ (n : Nat) (a : Int), (LH t r h n a).2 = true → ∃ l, Wy t r h (a :: l)
  | 0, a, e => ⟨[], .last (of_decide_eq_true e)⟩
  | n + 1, a, e => by
    rw [LH] at e
    by_cases c : Ib t r h a
    · rw [if_pos c] at e; cases e
    · rw [if_neg c] at e
      cases hx : nx t r h a with
      | none => rw [hx] at e; cases e
      | some b =>
        rw [hx] at e
        obtain ⟨l, hl⟩ := Lb n b e
        exact ⟨b :: l, .go c hx hl⟩
theorem NH {t : Tp} {r : Rt} {h : Int} : ∀ (l : List Int) (a : Int), Wy t r h (a :: l) → ∀ n, n ≤ l.length → LH t r h n a = ((a :: l).getD n 0, decide (n = l.length))
  | [], a, hw, n, hn => by
    obtain rfl : n = 0 := by simpa using hn
    cases hw with
    | last hs => rw [LH, decide_eq_true hs]; rfl
  | v :: l, a, hw, n, hn => by
    cases hw with
    | go hnh hx hw2 =>
      cases n with
      | zero => rw [LH, decide_eq_false hnh]; rfl
      | succ n =>
        rw [LH, if_neg hnh, hx]
        show LH t r h n v = _
        rw [NH l v hw2 n (by simpa using hn)]
        simp
theorem Oz {t : Tp} {r : Rt} (ho : Gx t r) (hr : r.length ≤ 12) (hw : ∀ row ∈ r, row.length ≤ 1000000000) {sw h : Int} (hs : 0 ≤ sw ∧ sw < t.1) (hh : 0 ≤ h ∧ h < (t.2.2.length : Int)) : ∃ q, Eo t r sw h = some q ∧ Jo t r h sw q := by
  have hok := ho.1
  have h8 := hok.1
  have hlen := ho.2.1
  obtain ⟨m, hm⟩ : ∃ m : Nat, t.1 = m := ⟨t.1.toNat, by omega⟩
  have hst : ∀ n : Nat, n ≤ 8 → DT t r sw h (n : Int) = some (LH t r h n sw) := fun n hn => by
    unfold DT
    exact Ov ho hh (by omega) n 0 sw (by omega) hs
  have hhead : Eo t r sw h = D6 (AM (Ct t r sw h) ([], 0)) fun _ => (DT t r sw h t.1).bind fun x7 => (if x7.1 = (-1) then some (([] : List Int), 13) else some (([] : List Int), 12)) := by
    unfold Eo
    rw [Ly hr hw, Option.bind_some, decide_eq_true ho, if_neg (by decide), if_neg (by omega), if_neg (by omega), if_neg (by omega), decide_eq_false (by omega), Option.bind_some, if_neg (by decide)]
  rw [hhead]
  by_cases c : ∃ l, Wy t r h (sw :: l)
  · obtain ⟨l, hl⟩ := c
    have hin := hl.in_ hok (fun s e => by rw [← Option.some.inj e]; exact hs)
    have hle := GK m (sw :: l) hl.nodup (fun x hx => by have := hin x hx; omega)
    refine ⟨(sw :: l, 0), ?_, .inl ⟨rfl, hl, rfl⟩⟩
    have key : ∀ (d k : Nat), k + d = l.length → AM (Ct t r sw h) ((sw :: l).take k, (k : Int)) = some (.inr (sw :: l, 0)) := by
      intro d
      have hstep : ∀ k : Nat, k ≤ l.length → Ct t r sw h ((sw :: l).take k, (k : Int)) = (if decide (k = l.length) = true then some (.inr (.inr ((sw :: l).take (k + 1), 0))) else some (.inl ((sw :: l).take (k + 1), ((k + 1 : Nat) : Int)))) := fun k hk => by
        have hkl : k < (sw :: l).length := by simp; omega
        have hge : (sw :: l).getD k 0 = (sw :: l)[k] := by rw [List.getD_eq_getElem?_getD, List.getElem?_eq_getElem hkl]; rfl
        have hpos := hin _ (List.getElem_mem hkl)
        rw [List.length_cons] at hle hkl
        rw [Ct, if_pos (by omega), hst k (by omega), Option.bind_some, NH l sw hl k hk, hge, if_neg (by show ¬ (sw :: l)[k] = -1; omega), Eu (by simp; omega), Option.bind_some, Bn (by omega), List.take_succ_eq_append_getElem (by simp; omega)]; rfl
      induction d with
      | zero =>
        intro k hk
        exact A5 (by rw [hstep k (by omega), if_pos (decide_eq_true (by omega)), List.take_of_length_le (by simp; omega)])
      | succ d ih =>
        intro k hk
        rw [BU (by rw [hstep k (by omega), if_neg (by simp; omega)])]
        exact ih (k + 1) (by omega)
    have h0 : AM (Ct t r sw h) ([], 0) = some (.inr (sw :: l, 0)) := key l.length 0 (by omega)
    rw [h0]; rfl
  · have hnf : ∀ n, (LH t r h n sw).2 = false := fun n => by
      cases e : (LH t r h n sw).2 with
      | false => rfl
      | true => exact absurd (Lb n sw e) c
    have key : ∀ (d k : Nat) (out : List Int), k + d = m → out.length = k → ∃ e : Int, (e = 12 ∨ e = 13) ∧ D6 (AM (Ct t r sw h) (out, (k : Int))) (fun _ => (DT t r sw h t.1).bind fun x7 => (if x7.1 = (-1) then some (([] : List Int), 13) else some (([] : List Int), 12))) = some ([], e) := by
      intro d
      induction d with
      | zero =>
        intro k out hk ho2
        rw [A5 (e := .inl ()) (by rw [Ct, if_neg (by omega)])]
        show ∃ e : Int, _ ∧ (DT t r sw h t.1).bind _ = _
        rw [hm, hst m (by omega), Option.bind_some]
        by_cases d : (LH t r h m sw).1 = -1
        · rw [if_pos d]; exact ⟨13, .inr rfl, rfl⟩
        · rw [if_neg d]; exact ⟨12, .inl rfl, rfl⟩
      | succ d ih =>
        intro k out hk ho2
        by_cases d : (LH t r h k sw).1 = -1
        · refine ⟨13, .inr rfl, ?_⟩
          rw [A5 (e := .inr ([], 13)) (by rw [Ct, if_pos (by omega), hst k (by omega), Option.bind_some, if_pos d])]; rfl
        · rw [BU (s' := (out ++ [(LH t r h k sw).1], ((k + 1 : Nat) : Int))) (by rw [Ct, if_pos (by omega), hst k (by omega), Option.bind_some, if_neg d, Eu (by simp; omega), Option.bind_some, hnf, if_neg (by decide), Bn (by omega)]; rfl)]
          exact ih (k + 1) _ (by omega) (by simp; omega)
    obtain ⟨e, he, h0⟩ := key m 0 [] (by omega) rfl
    exact ⟨([], e), h0, .inr ⟨he, rfl, fun l hl => c ⟨l, hl⟩⟩⟩
end Go.Proofs.Ytflaelbmglmmcaa
