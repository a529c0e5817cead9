/- Layer 42: the document's Mg, good routes. Conditions: none. -/
import Derived.Test.YtflaelbmglmmcaaeM21A
import Derived.Test.YtflaelbmglmmcaaeA8
namespace Go.Proofs.Ytflaelbmglmmcaa
set_option linter.unusedVariables false
set_option linter.unusedSimpArgs false
open Go Go.RowKit
theorem H5 (q : Int × Int) : ∀ l : List Lk, (l.flatMap Ea).count q ≤ 2 * l.length
  | [] => by simp
  | x :: l => by
    have h := H5 q l
    have h2 : (Ea x).count q ≤ 2 := List.count_le_length
    rw [List.flatMap_cons, List.count_append, List.length_cons]; omega
theorem Jn {t : Tp} (hl : t.2.1.length ≤ 24) (hh : t.2.2.length ≤ 8) (a p : Int) : ES t a p = some (decide (D6 t (a, p))) := by
  obtain ⟨s, h1, h2⟩ := FB t.2.1.length (fun (s : Int) (k : Nat) => (s, (k : Int))) (DL t a p) id (fun s k => s = (((t.2.1.take k).flatMap Ea).count (a, p) : Nat))
    (fun s k hk hI => by
      have hb := H5 (a, p) (t.2.1.take k)
      rw [List.length_take] at hb
      have hx : ∀ c : Prop, [Decidable c] → ∀ s : Int, 0 ≤ s ∧ s ≤ 100 → (if c then some (DH (s + 1)) else some s) = some (s + (if c then 1 else 0)) := fun c _ s hs => by
        by_cases h : c
        · rw [if_pos h, if_pos h, BE (by omega)]
        · rw [if_neg h, if_neg h]; simp
      refine ⟨s + (if (decide (t.2.1[k].1 = a) && decide (t.2.1[k].2.1 = p)) = true then 1 else 0) + (if (decide (t.2.1[k].2.2.1 = a) && decide (t.2.1[k].2.2.2.1 = p)) = true then 1 else 0), ?_, ?_⟩
      · rw [DL, if_pos (by omega), A9 (List.getElem?_eq_getElem hk), Option.bind_some, hx _ s (by omega), Option.bind_some, hx _ _ (by split <;> omega), Option.bind_some, BE (by omega)]; rfl
      · rw [hI, List.take_succ_eq_append_getElem hk, List.flatMap_append, List.count_append, List.flatMap_cons, List.flatMap_nil, List.append_nil]
        have hc : ∀ (x : Lk), (((Ea x).count (a, p) : Nat) : Int) = (if (decide (x.1 = a) && decide (x.2.1 = p)) = true then 1 else 0) + (if (decide (x.2.2.1 = a) && decide (x.2.2.2.1 = p)) = true then 1 else 0) := fun x => by
          simp only [Ea, List.count_cons, List.count_nil, beq_iff_eq, Prod.mk.injEq, Bool.and_eq_true, decide_eq_true_eq]
          split <;> split <;> rfl
        rw [Int.natCast_add, hc]; omega)
    (fun s _ => by rw [DL, if_neg (by omega)]; rfl) 0 (by simp)
  have e1 : AQ (DL t a p) (0, 0) = some s := h2
  rw [List.take_length] at h1
  have hb := H5 (a, p) t.2.1
  obtain ⟨s2, g1, g2⟩ := FB t.2.2.length (fun (s : Int) (k : Nat) => (s, (k : Int))) (DO t a p) id (fun s2 k => s2 = s + ((t.2.2.take k).count (a, p) : Nat))
    (fun s2 k hk hI => by
      have hb2 : (t.2.2.take k).count (a, p) ≤ k := Nat.le_trans List.count_le_length (by rw [List.length_take]; omega)
      refine ⟨s2 + (if t.2.2[k] = (a, p) then 1 else 0), ?_, ?_⟩
      · rw [DO, if_pos (by omega), A9 (List.getElem?_eq_getElem hk), Option.bind_some, Option.bind_some]
        have hd : (if t.2.2[k].1 = a then some (decide (t.2.2[k].2 = p)) else some false) = some (decide (t.2.2[k] = (a, p))) := by
          by_cases c : t.2.2[k].1 = a
          · rw [if_pos c]; congr 1; exact decide_eq_decide.2 ⟨fun h => Prod.ext c h, fun h => by rw [h]⟩
          · rw [if_neg c, decide_eq_false (fun h => c (by rw [h]))]
        rw [hd, Option.bind_some]
        by_cases c : t.2.2[k] = (a, p)
        · rw [decide_eq_true c, if_pos rfl, if_pos c, Option.bind_some, BE (by omega), BE (by omega)]; rfl
        · rw [decide_eq_false c, if_neg (by decide), if_neg c, Option.bind_some, BE (by omega), Int.add_zero]; rfl
      · rw [hI, List.take_succ_eq_append_getElem hk, List.count_append]
        by_cases c : t.2.2[k] = (a, p)
        · rw [if_pos c, c]; simp; omega
        · rw [if_neg c, List.count_eq_zero_of_not_mem (a := (a, p)) (l := [t.2.2[k]]) (by simp; exact fun h => c h.symm)]; omega)
    (fun s _ => by rw [DO, if_neg (by omega)]; rfl) s (by simp)
  have e2 : AQ (DO t a p) (s, 0) = some s2 := g2
  rw [List.take_length] at g1
  have hcount : ((pl t).count (a, p) : Int) = s2 := by
    unfold pl
    rw [List.count_append, Int.natCast_add, g1, h1]
  unfold ES
  rw [e1, Option.bind_some, e2, Option.bind_some]
  congr 1
  rw [Bool.eq_iff_iff]
  simp only [Bool.and_eq_true, decide_eq_true_eq]
  have : s2 = 1 ↔ (pl t).count (a, p) = 1 := by omega
  rw [this]
theorem L7 {t : Tp} : Fy t = some (decide (KX t)) := by
  unfold Fy
  by_cases c : t.1 < 1 ∨ 8 < t.1 ∨ 24 < (t.2.1.length : Int) ∨ 8 < (t.2.2.length : Int)
  · rw [if_pos (by simpa using c), decide_eq_false (fun h => by have := h.1; omega)]
  · rw [if_neg (by simpa using c)]
    have hl : t.2.1.length ≤ 24 := by omega
    have hh : t.2.2.length ≤ 8 := by omega
    rw [EQ t.2.1 (by omega) (DS t) (fun l => ¬ Kq t l) false (fun k hk => by
      rw [DS, if_pos (by omega), A9 (List.getElem?_eq_getElem hk), Option.bind_some, Jn hl hh, Jn hl hh]
      generalize t.2.1[k] = x
      by_cases c1 : x.1 = x.2.2.1
      · rw [if_pos c1, Option.bind_some, if_pos rfl, if_pos (fun h => h.1 c1)]
      rw [if_neg c1]
      by_cases c2 : x.2.2.2.2.1 < 1
      · rw [if_pos c2, Option.bind_some, if_pos rfl, if_pos (fun h => by have := h.2.1; omega)]
      rw [if_neg c2]
      by_cases c3 : x.2.2.2.2.2 < x.2.2.2.2.1
      · rw [if_pos c3, Option.bind_some, if_pos rfl, if_pos (fun h => by have := h.2.2.1; omega)]
      rw [if_neg c3]
      by_cases c4 : 1000 < x.2.2.2.2.2
      · rw [if_pos c4, Option.bind_some, if_pos rfl, if_pos (fun h => by have := h.2.2.2.1; omega)]
      rw [if_neg c4, Option.bind_some]
      by_cases c5 : D6 t (x.1, x.2.1)
      · rw [decide_eq_true c5, if_neg (by decide), Option.bind_some]
        by_cases c6 : D6 t (x.2.2.1, x.2.2.2.1)
        · rw [decide_eq_true c6, Option.bind_some, if_neg (by decide), if_neg (fun h => h ⟨c1, by omega, by omega, by omega, c5, c6⟩)]
        · rw [decide_eq_false c6, Option.bind_some, if_pos (by decide), if_pos (fun h => c6 h.2.2.2.2.2)]
      · rw [decide_eq_false c5, if_pos (by decide), Option.bind_some, if_pos rfl, if_pos (fun h => c5 h.2.2.2.2.1)]) (by rw [DS, if_neg (by omega)]),
      EQ t.2.2 (by omega) (DY t) (fun h => ¬ D6 t h) false (fun k hk => by
      rw [DY, if_pos (by omega), A9 (List.getElem?_eq_getElem hk), Option.bind_some, Option.bind_some, Jn hl hh, Option.bind_some]
      by_cases c5 : D6 t t.2.2[k]
      · rw [decide_eq_true (show D6 t (t.2.2[k].1, t.2.2[k].2) from c5), if_neg (by decide), if_neg (fun h => h c5)]
      · rw [decide_eq_false (show ¬ D6 t (t.2.2[k].1, t.2.2[k].2) from c5), if_pos (by decide), if_pos c5]) (by rw [DY, if_neg (by omega)])]
    by_cases d1 : ∃ l ∈ t.2.1, ¬ Kq t l
    · rw [if_pos d1]
      show some false = _
      rw [decide_eq_false (fun h => by obtain ⟨l, hl, hn⟩ := d1; exact hn (h.2.1 l hl))]
    · rw [if_neg d1]
      by_cases d2 : ∃ h ∈ t.2.2, ¬ D6 t h
      · rw [if_pos d2]
        show some false = _
        rw [decide_eq_false (fun h => by obtain ⟨l, hl, hn⟩ := d2; exact hn (h.2.2 l hl))]
      · rw [if_neg d2]
        show some true = _
        rw [decide_eq_true (⟨by omega, fun l hl => Decidable.not_not.1 fun hn => d1 ⟨l, hl, hn⟩, fun l hl => Decidable.not_not.1 fun hn => d2 ⟨l, hl, hn⟩⟩ : KX t)]
theorem Lt (t : Tp) (a p : Int) : FF t a p = CU t a p := by
  have : Fg t a p = BU t a p := by
    funext i
    rw [Fg, BU]
    congr 2
    funext x
    by_cases c1 : a = x.1 ∧ p = x.2.1
    · rw [if_pos c1, if_pos (by simp [c1.1, c1.2])]
    · rw [if_neg c1, if_neg (by simp only [Bool.and_eq_true, decide_eq_true_eq]; exact fun h => c1 ⟨h.1.symm, h.2.symm⟩)]
      by_cases c2 : a = x.2.2.1 ∧ p = x.2.2.2.1
      · rw [if_pos c2, if_pos (by simp [c2.1, c2.2])]
      · rw [if_neg c2, if_neg (by simp only [Bool.and_eq_true, decide_eq_true_eq]; exact fun h => c2 ⟨h.1.symm, h.2.symm⟩)]
  unfold FF CU
  rw [this]
def Ja (t : Tp) (r : Rt) : Prop := FC t r ∧ ∀ sw h : Int, 0 ≤ sw ∧ sw < t.1 → 0 ≤ h ∧ h < (t.2.2.length : Int) → ∃ l, Wy t r h (sw :: l)
noncomputable instance Ja.dec (t : Tp) (r : Rt) : Decidable (Ja t r) := Classical.propDecidable _
theorem ID.zero {t : Tp} {r : Rt} {h sw : Int} {q : List Int × Int} (hq : ID t r h sw q) : q.2 = 0 ↔ ∃ l, Wy t r h (sw :: l) := by
  rcases hq with ⟨h1, h2, h3⟩ | ⟨h1, h2, h3⟩
  · refine ⟨fun _ => ?_, fun _ => h1⟩
    cases hl : q.1 with
    | nil => rw [hl] at h3; cases h3
    | cons a l =>
      rw [hl] at h2 h3
      have : a = sw := by simpa using h3
      subst this; exact ⟨l, h2⟩
  · exact ⟨fun h => by omega, fun ⟨l, hl⟩ => absurd hl (h3 l)⟩
open Classical in
theorem Np {t : Tp} (a p : Int) : FF t a p = CU t a p := Lt t a p
theorem Ij {t : Tp} {r : Rt} (hr : r.length ≤ 12) (hw : ∀ row ∈ r, row.length ≤ 1000000000) : EP t r = some (decide (FC t r)) := by
  unfold EP
  rw [L7, Option.bind_some]
  by_cases c : KX t
  · rw [decide_eq_true c, if_neg (by decide)]
    by_cases c2 : (r.length : Int) = t.1
    · rw [decide_eq_false (by omega : ¬ (r.length : Int) ≠ t.1), Option.bind_some, if_neg (by decide)]
      rw [EQ r (by omega) (DT t r) (fun row => ¬ (row.length = t.2.2.length ∧ ∀ p ∈ row, 0 ≤ p ∧ p ≤ 7)) false (fun k hk => by
        have hg := List.getElem?_eq_getElem hk
        have hb := hw _ (List.getElem_mem hk)
        have hix : ix r (k : Int) = some r[k] := A9 hg
        rw [DT, if_pos (by omega), hix, Option.bind_some]
        by_cases d1 : (r[k].length : Int) ≠ (t.2.2.length : Int)
        · rw [if_pos d1, if_pos (fun h => d1 (by omega))]; rfl
        · have hin : AQ (CL r (k : Int)) 0 = some (if ∃ y ∈ r[k], ¬ (0 ≤ y ∧ y ≤ 7) then .inr (.inr (.inr false)) else .inl ()) := by
            have key : ∀ (d j : Nat), j + d = r[k].length → (∀ y ∈ r[k].take j, 0 ≤ y ∧ y ≤ 7) → AQ (CL r (k : Int)) (j : Int) = some (if ∃ y ∈ r[k], ¬ (0 ≤ y ∧ y ≤ 7) then .inr (.inr (.inr false)) else .inl ()) := by
              intro d
              induction d with
              | zero =>
                intro j hj hn
                rw [List.take_of_length_le (by omega)] at hn
                rw [if_neg (fun ⟨y, hy, h⟩ => h (hn y hy))]
                exact A1 (by rw [CL, hix, Option.bind_some, if_neg (by omega)])
              | succ d ih =>
                intro j hj hn
                have hjl : j < r[k].length := by omega
                have hgj : ix r[k] (j : Int) = some r[k][j] := A9 (List.getElem?_eq_getElem hjl)
                by_cases e : 0 ≤ r[k][j] ∧ r[k][j] ≤ 7
                · have hst : CL r (k : Int) (j : Int) = some (.inl ((j + 1 : Nat) : Int)) := by
                    rw [CL, hix, Option.bind_some, if_pos (by omega), Option.bind_some, hgj, Option.bind_some, if_neg (by omega), Option.bind_some, hgj, Option.bind_some, decide_eq_false (by omega), Option.bind_some, if_neg (by decide), BE (by omega)]; rfl
                  rw [B8 hst]
                  refine ih (j + 1) (by omega) (fun y hy => ?_)
                  rw [List.take_succ_eq_append_getElem hjl] at hy
                  rcases List.mem_append.1 hy with h | h
                  · exact hn y h
                  · rw [List.mem_singleton.1 h]; exact e
                · rw [if_pos ⟨_, List.getElem_mem hjl, e⟩]
                  refine A1 ?_
                  rw [CL, hix, Option.bind_some, if_pos (by omega), Option.bind_some, hgj, Option.bind_some]
                  by_cases e1 : r[k][j] < 0
                  · rw [if_pos e1, Option.bind_some, if_pos rfl]
                  · rw [if_neg e1, Option.bind_some, hgj, Option.bind_some, decide_eq_true (by omega), Option.bind_some, if_pos rfl]
            exact key r[k].length 0 (by omega) (by simp)
          rw [if_neg d1, hin]
          by_cases d2 : ∃ y ∈ r[k], ¬ (0 ≤ y ∧ y ≤ 7)
          · rw [if_pos d2, if_pos (fun h => by obtain ⟨y, hy, hn⟩ := d2; exact hn (h.2 y hy))]; rfl
          · rw [if_neg d2, if_neg (fun h => h ⟨by omega, fun p hp => Decidable.not_not.1 fun hn => d2 ⟨p, hp, hn⟩⟩), BE (by omega)]; rfl) (by rw [DT, if_neg (by omega)])]
      by_cases d : ∃ row ∈ r, ¬ (row.length = t.2.2.length ∧ ∀ p ∈ row, 0 ≤ p ∧ p ≤ 7)
      · rw [if_pos d]
        show some false = _
        rw [decide_eq_false (fun h => by obtain ⟨row, hm, hn⟩ := d; exact hn (h.2.2 row hm))]
      · rw [if_neg d]
        show some true = _
        rw [decide_eq_true (⟨c, c2, fun row hm => Decidable.not_not.1 fun hn => d ⟨row, hm, hn⟩⟩ : FC t r)]
    · rw [decide_eq_true (show (r.length : Int) ≠ t.1 from c2), Option.bind_some, if_pos rfl, decide_eq_false (fun h => c2 h.2.1)]
  · rw [decide_eq_false c, if_pos (by decide), Option.bind_some, if_pos rfl, decide_eq_false (fun h => c h.1)]
theorem MY {t : Tp} {r : Rt} (ho : FC t r) {sw h : Int} (hs : 0 ≤ sw ∧ sw < t.1) (hh : 0 ≤ h ∧ h < (t.2.2.length : Int)) : F2 t r sw h = some ((pe t sw (HC r sw h)).1, (pe t sw (HC r sw h)).2.2.2) := by
  obtain ⟨row, e1, e2, e3, _⟩ := ho.port hs hh
  have h2 := ho.2.1
  unfold F2
  rw [if_neg (by omega), if_neg (by omega), if_neg (by omega), e1, Option.bind_some, Option.bind_some, decide_eq_false (by omega), if_neg (by decide), Option.bind_some, e3, Option.bind_some, Np, ND ho.1, Option.bind_some]
instance home_dec (t : Tp) (r : Rt) (h sw : Int) : Decidable (Hk t r h sw) := inferInstanceAs (Decidable (_ = _))
noncomputable def Kn (t : Tp) (r : Rt) (h : Int) : Nat → Int → Int × Bool
  | 0, a => (a, decide (Hk t r h a))
  | n + 1, a => if Hk t r h a then (a, false) else match nx t r h a with | none => (-1, false) | some b => Kn t r h n b
theorem Nb {t : Tp} {r : Rt} (ho : FC t r) {h : Int} (hh : 0 ≤ h ∧ h < (t.2.2.length : Int)) {n : Nat} (hn : n ≤ 100) : ∀ (d k : Nat) (a : Int), k + d = n → 0 ≤ a ∧ a < t.1 → D7 (AQ (C9 t r h (n : Int)) (a, (k : Int))) (fun x1 => some (x1, false)) = some (Kn t r h d a) := by
  have hok := ho.1
  obtain ⟨hst, e0⟩ : ∃ q, ix t.2.2 h = some q := by
    obtain ⟨q, e, _⟩ := Gm (l := t.2.2) hh.1 hh.2
    exact ⟨q, e⟩
  have e0' : t.2.2[h.toNat]? = some hst := by
    obtain ⟨q, e, e2⟩ := Gm (l := t.2.2) hh.1 hh.2
    rw [e2, ← e, e0]
  have hc : ∀ a : Int, 0 ≤ a ∧ a < t.1 → (if hst.1 = a then (ix t.2.2 h).bind fun x6 => (ix r a).bind fun x7 => (ix x7 h).bind fun x8 => some (decide (x6.2 = x8)) else some false) = some (decide (Hk t r h a)) := fun a ha => by
    obtain ⟨row, f1, f2, f3, _⟩ := ho.port ha hh
    have hiff : Hk t r h a ↔ hst = (a, HC r a h) := by unfold Hk; rw [e0']; simp
    by_cases c : hst.1 = a
    · rw [if_pos c, e0, Option.bind_some, f1, Option.bind_some, f3, Option.bind_some]
      congr 1
      exact decide_eq_decide.2 (by rw [hiff]; exact ⟨fun h => Prod.ext c h, fun h => by rw [h]⟩)
    · rw [if_neg c, decide_eq_false (fun h => c (by rw [hiff.1 h]))]
  intro d
  induction d with
  | zero =>
    intro k a hk ha
    rw [A1 (e := .inr (a, decide (Hk t r h a))) (by
      rw [C9, if_pos (by omega), e0, Option.bind_some]
      rw [show ((some hst).bind fun x6 => (ix r a).bind fun x7 => (ix x7 h).bind fun x8 => some (decide (x6.2 = x8))) = ((ix t.2.2 h).bind fun x6 => (ix r a).bind fun x7 => (ix x7 h).bind fun x8 => some (decide (x6.2 = x8))) by rw [e0], hc a ha, Option.bind_some]
      by_cases c : Hk t r h a
      · rw [decide_eq_true c, if_pos rfl, decide_eq_true (by omega)]
      · rw [decide_eq_false c, if_neg (by decide), if_pos (by omega)])]
    rfl
  | succ d ih =>
    intro k a hk ha
    rw [Kn]
    by_cases c : Hk t r h a
    · rw [if_pos c, A1 (e := .inr (a, false)) (by
        rw [C9, if_pos (by omega), e0, Option.bind_some]
        rw [show ((some hst).bind fun x6 => (ix r a).bind fun x7 => (ix x7 h).bind fun x8 => some (decide (x6.2 = x8))) = ((ix t.2.2 h).bind fun x6 => (ix r a).bind fun x7 => (ix x7 h).bind fun x8 => some (decide (x6.2 = x8))) by rw [e0], hc a ha, Option.bind_some, decide_eq_true c, if_pos rfl, decide_eq_false (by omega)])]
      rfl
    · rw [if_neg c]
      have hstep : C9 t r h (n : Int) (a, (k : Int)) = (if (!(pe t a (HC r a h)).2.2.2) = true then some (.inr (.inr (-1, false))) else some (.inl ((pe t a (HC r a h)).1, ((k + 1 : Nat) : Int)))) := by
        rw [C9, if_pos (by omega), e0, Option.bind_some]
        rw [show ((some hst).bind fun x6 => (ix r a).bind fun x7 => (ix x7 h).bind fun x8 => some (decide (x6.2 = x8))) = ((ix t.2.2 h).bind fun x6 => (ix r a).bind fun x7 => (ix x7 h).bind fun x8 => some (decide (x6.2 = x8))) by rw [e0], hc a ha, Option.bind_some, decide_eq_false c, if_neg (by decide), if_neg (by omega), MY ho ha hh, Option.bind_some, BE (by omega)]; rfl
      cases hx : nx t r h a with
      | none =>
        have c2 : ¬ (pe t a (HC r a h)).2.2.2 = true := fun c2 => by unfold nx at hx; rw [if_pos c2] at hx; cases hx
        rw [A1 (e := .inr (-1, false)) (by rw [hstep, if_pos (by simpa using c2)])]; rfl
      | some b =>
        have c2 : (pe t a (HC r a h)).2.2.2 = true := Classical.byContradiction fun c2 => by unfold nx at hx; rw [if_neg c2] at hx; cases hx
        have hb : (pe t a (HC r a h)).1 = b := by unfold nx at hx; rw [if_pos c2] at hx; exact Option.some.inj hx
        rw [B8 (s' := (b, ((k + 1 : Nat) : Int))) (by rw [hstep, if_neg (by simp [c2]), hb])]
        exact ih (k + 1) b (by omega) (Mr hok hx).2
theorem J6 {t : Tp} {r : Rt} {h : Int} : ∀ (n : Nat) (a : Int), (Kn t r h n a).2 = true → ∃ l, Wy t r h (a :: l)
  | 0, a, e => ⟨[], .last (of_decide_eq_true e)⟩
  | n + 1, a, e => by
    rw [Kn] at e
    by_cases c : Hk t r h a
    · rw [if_pos c] at e; cases e
    · rw [if_neg c] at e
      cases hx : nx t r h a with
      | none => rw [hx] at e; cases e
      | some b =>
        rw [hx] at e
        obtain ⟨l, hl⟩ := J6 n b e
        exact ⟨b :: l, .go c hx hl⟩
theorem MJ {t : Tp} {r : Rt} {h : Int} : ∀ (l : List Int) (a : Int), Wy t r h (a :: l) → ∀ n, n ≤ l.length → Kn t r h n a = ((a :: l).getD n 0, decide (n = l.length))
  | [], a, hw, n, hn => by
    obtain rfl : n = 0 := by simpa using hn
    cases hw with
    | last hs => rw [Kn, decide_eq_true hs]; rfl
  | v :: l, a, hw, n, hn => by
    cases hw with
    | go hnh hx hw2 =>
      cases n with
      | zero => rw [Kn, decide_eq_false hnh]; rfl
      | succ n =>
        rw [Kn, if_neg hnh, hx]
        show Kn t r h n v = _
        rw [MJ l v hw2 n (by simpa using hn)]
        simp
theorem Jx {t : Tp} {r : Rt} (ho : FC t r) (hr : r.length ≤ 12) (hw : ∀ row ∈ r, row.length ≤ 1000000000) {sw h : Int} (hs : 0 ≤ sw ∧ sw < t.1) (hh : 0 ≤ h ∧ h < (t.2.2.length : Int)) : ∃ q, Dn t r sw h = some q ∧ ID t r h sw q := by
  have hok := ho.1
  have h8 := hok.1
  have hlen := ho.2.1
  obtain ⟨m, hm⟩ : ∃ m : Nat, t.1 = m := ⟨t.1.toNat, by omega⟩
  have hst : ∀ n : Nat, n ≤ 8 → Dq t r sw h (n : Int) = some (Kn t r h n sw) := fun n hn => by
    unfold Dq
    exact Nb ho hh (by omega) n 0 sw (by omega) hs
  have hhead : Dn t r sw h = D7 (AQ (Cj t r sw h) ([], 0)) fun _ => (Dq t r sw h t.1).bind fun x7 => (if x7.1 = (-1) then some (([] : List Int), 13) else some (([] : List Int), 12)) := by
    unfold Dn
    rw [Ij hr hw, Option.bind_some, decide_eq_true ho, if_neg (by decide), if_neg (by omega), if_neg (by omega), if_neg (by omega), decide_eq_false (by omega), Option.bind_some, if_neg (by decide)]
  rw [hhead]
  by_cases c : ∃ l, Wy t r h (sw :: l)
  · obtain ⟨l, hl⟩ := c
    have hin := hl.in_ hok (fun s e => by rw [← Option.some.inj e]; exact hs)
    have hle := Ff m (sw :: l) hl.nodup (fun x hx => by have := hin x hx; omega)
    refine ⟨(sw :: l, 0), ?_, .inl ⟨rfl, hl, rfl⟩⟩
    have key : ∀ (d k : Nat), k + d = l.length → AQ (Cj t r sw h) ((sw :: l).take k, (k : Int)) = some (.inr (sw :: l, 0)) := by
      intro d
      have hstep : ∀ k : Nat, k ≤ l.length → Cj t r sw h ((sw :: l).take k, (k : Int)) = (if decide (k = l.length) = true then some (.inr (.inr ((sw :: l).take (k + 1), 0))) else some (.inl ((sw :: l).take (k + 1), ((k + 1 : Nat) : Int)))) := fun k hk => by
        have hkl : k < (sw :: l).length := by simp; omega
        have hge : (sw :: l).getD k 0 = (sw :: l)[k] := by rw [List.getD_eq_getElem?_getD, List.getElem?_eq_getElem hkl]; rfl
        have hpos := hin _ (List.getElem_mem hkl)
        rw [List.length_cons] at hle hkl
        rw [Cj, if_pos (by omega), hst k (by omega), Option.bind_some, MJ l sw hl k hk, hge, if_neg (by show ¬ (sw :: l)[k] = -1; omega), Ek (by simp; omega), Option.bind_some, BE (by omega), List.take_succ_eq_append_getElem (by simp; omega)]; rfl
      induction d with
      | zero =>
        intro k hk
        exact A1 (by rw [hstep k (by omega), if_pos (decide_eq_true (by omega)), List.take_of_length_le (by simp; omega)])
      | succ d ih =>
        intro k hk
        rw [B8 (by rw [hstep k (by omega), if_neg (by simp; omega)])]
        exact ih (k + 1) (by omega)
    have h0 : AQ (Cj t r sw h) ([], 0) = some (.inr (sw :: l, 0)) := key l.length 0 (by omega)
    rw [h0]; rfl
  · have hnf : ∀ n, (Kn t r h n sw).2 = false := fun n => by
      cases e : (Kn t r h n sw).2 with
      | false => rfl
      | true => exact absurd (J6 n sw e) c
    have key : ∀ (d k : Nat) (out : List Int), k + d = m → out.length = k → ∃ e : Int, (e = 12 ∨ e = 13) ∧ D7 (AQ (Cj t r sw h) (out, (k : Int))) (fun _ => (Dq t r sw h t.1).bind fun x7 => (if x7.1 = (-1) then some (([] : List Int), 13) else some (([] : List Int), 12))) = some ([], e) := by
      intro d
      induction d with
      | zero =>
        intro k out hk ho2
        rw [A1 (e := .inl ()) (by rw [Cj, if_neg (by omega)])]
        show ∃ e : Int, _ ∧ (Dq t r sw h t.1).bind _ = _
        rw [hm, hst m (by omega), Option.bind_some]
        by_cases d : (Kn t r h m sw).1 = -1
        · rw [if_pos d]; exact ⟨13, .inr rfl, rfl⟩
        · rw [if_neg d]; exact ⟨12, .inl rfl, rfl⟩
      | succ d ih =>
        intro k out hk ho2
        by_cases d : (Kn t r h k sw).1 = -1
        · refine ⟨13, .inr rfl, ?_⟩
          rw [A1 (e := .inr ([], 13)) (by rw [Cj, if_pos (by omega), hst k (by omega), Option.bind_some, if_pos d])]; rfl
        · rw [B8 (s' := (out ++ [(Kn t r h k sw).1], ((k + 1 : Nat) : Int))) (by rw [Cj, if_pos (by omega), hst k (by omega), Option.bind_some, if_neg d, Ek (by simp; omega), Option.bind_some, hnf, if_neg (by decide), BE (by omega)]; rfl)]
          exact ih (k + 1) _ (by omega) (by simp; omega)
    obtain ⟨e, he, h0⟩ := key m 0 [] (by omega) rfl
    exact ⟨([], e), h0, .inr ⟨he, rfl, fun l hl => c ⟨l, hl⟩⟩⟩
open Classical in
theorem NB {t : Tp} {r : Rt} (hr : r.length ≤ 12) (hw : ∀ row ∈ r, row.length ≤ 1000000000) : Fv t r = some (decide (Ja t r)) := by
  unfold Fv
  rw [Ij hr hw, Option.bind_some]
  by_cases c : FC t r
  · rw [decide_eq_true c, if_neg (by decide)]
    have hlen := c.2.1
    have h8 := c.1.1
    have hin : ∀ (k : Nat), k < r.length → AQ (DM t r (k : Int)) 0 = some (if ∃ h : Nat, h < t.2.2.length ∧ ¬ ∃ l, Wy t r (h : Int) ((k : Int) :: l) then .inr (.inr (.inr false)) else .inl ()) := fun k hk => by
      have := KC (ε := Int ⊕ (Unit ⊕ Bool)) t.2.2.length (DM t r (k : Int)) (fun h => if ¬ ∃ l, Wy t r (h : Int) ((k : Int) :: l) then some (.inr (.inr false)) else none) (fun h hh => by
        obtain ⟨q, e, hq⟩ := Jx c hr hw (sw := (k : Int)) (h := (h : Int)) (by omega) (by omega)
        rw [DM, if_pos (by omega), e, Option.bind_some]
        have hz := hq.zero
        by_cases d : ∃ l, Wy t r (h : Int) ((k : Int) :: l)
        · rw [if_neg (fun h => h (hz.2 d)), if_neg (fun h => h d), BE (by omega)]; rfl
        · rw [if_pos (fun h => d (hz.1 h)), if_pos d]) (by rw [DM, if_neg (by omega)])
      rw [this]
      by_cases d : ∃ h : Nat, h < t.2.2.length ∧ ¬ ∃ l, Wy t r (h : Int) ((k : Int) :: l)
      · rw [if_pos d]
        obtain ⟨h, h1, h2⟩ := d
        cases e : (List.range t.2.2.length).findSome? (fun h : Nat => if ¬ ∃ l, Wy t r (h : Int) ((k : Int) :: l) then some (.inr (.inr false) : Int ⊕ (Unit ⊕ Bool)) else none) with
        | none =>
          rw [List.findSome?_eq_none_iff] at e
          have := e h (List.mem_range.2 (by omega))
          rw [if_pos h2] at this; cases this
        | some x =>
          obtain ⟨y, _, hy⟩ := List.exists_of_findSome?_eq_some e
          by_cases d2 : ¬ ∃ l, Wy t r (y : Int) ((k : Int) :: l)
          · rw [if_pos d2] at hy; rw [← Option.some.inj hy]
          · rw [if_neg d2] at hy; cases hy
      · rw [if_neg d, Hd fun h hh => if_neg fun h2 => d ⟨h, by omega, h2⟩]
    have := KC (ε := Bool) r.length (Eu t r) (fun k => if ∃ h : Nat, h < t.2.2.length ∧ ¬ ∃ l, Wy t r (h : Int) ((k : Int) :: l) then some false else none) (fun k hk => by
      rw [Eu, if_pos (by omega), hin k hk]
      by_cases d : ∃ h : Nat, h < t.2.2.length ∧ ¬ ∃ l, Wy t r (h : Int) ((k : Int) :: l)
      · rw [if_pos d, if_pos d]; rfl
      · rw [if_neg d, if_neg d, BE (by omega)]; rfl) (by rw [Eu, if_neg (by omega)])
    rw [this]
    by_cases d : Ja t r
    · rw [decide_eq_true d, Hd fun k hk => if_neg fun ⟨h, h1, h2⟩ => h2 (d.2 _ _ (by omega) (by omega))]; rfl
    · rw [decide_eq_false d]
      cases e : (List.range r.length).findSome? (fun k : Nat => if ∃ h : Nat, h < t.2.2.length ∧ ¬ ∃ l, Wy t r (h : Int) ((k : Int) :: l) then some false else none) with
      | none =>
        rw [List.findSome?_eq_none_iff] at e
        refine absurd ⟨c, fun sw h hs hh => Classical.byContradiction fun hn => ?_⟩ d
        have := e sw.toNat (List.mem_range.2 (by omega))
        rw [if_pos ⟨h.toNat, by omega, by rw [show ((h.toNat : Nat) : Int) = h by omega, show ((sw.toNat : Nat) : Int) = sw by omega]; exact hn⟩] at this
        cases this
      | some x =>
        obtain ⟨y, _, hy⟩ := List.exists_of_findSome?_eq_some e
        split at hy
        · rw [← Option.some.inj hy]; rfl
        · cases hy
  · rw [decide_eq_false c, if_pos (by decide), decide_eq_false (fun h => c h.1)]
end Go.Proofs.Ytflaelbmglmmcaa
