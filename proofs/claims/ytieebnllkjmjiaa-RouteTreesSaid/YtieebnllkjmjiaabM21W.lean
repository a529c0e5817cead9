/- Layer 19: walks. Conditions: none. -/
import Derived.Test.YtieebnllkjmjiaabM19O
namespace Go.Proofs.Ytieebnllkjmjiaa
set_option linter.unusedVariables false
set_option linter.unusedSimpArgs false
open Go Go.RowKit
theorem OJ {α : Type} {l : List α} (h : l.Nodup) {i j : Nat} {a : α} (hi : l[i]? = some a) (hj : l[j]? = some a) : i = j := by
  obtain ⟨l1, e1⟩ := List.getElem?_eq_some_iff.1 hi
  obtain ⟨l2, e2⟩ := List.getElem?_eq_some_iff.1 hj
  have hp := List.pairwise_iff_getElem.1 h
  rcases Nat.lt_trichotomy i j with c | c | c
  · exact absurd (e1.trans e2.symm) (hp i j l1 l2 c)
  · exact c
  · exact absurd (e2.trans e1.symm) (hp j i l2 l1 c)
theorem O4 {t : Tp} (hok : C6 t) {q : Int × Int} (hq : q ∈ pl t) : D5 t q := by
  unfold pl at hq
  rcases List.mem_append.1 hq with h | h
  · obtain ⟨x, hx, h⟩ := List.mem_flatMap.1 h
    obtain ⟨_, _, _, _, k5, k6⟩ := hok.2.1 x hx
    rcases List.mem_cons.1 h with h | h
    · rw [h]; exact k5
    · rw [List.mem_singleton.1 h]; exact k6
  · exact hok.2.2 q h
theorem LG {t : Tp} (hok : C6 t) : t.2.2.Nodup := by
  have h : (pl t).Nodup := Fg.2 fun q hq => (O4 hok hq).2.2.2.2
  unfold pl at h
  exact (List.nodup_append.1 h).2.1
theorem KH (t : Tp) (hh : t.2.2.length ≤ 8) (a p : Int) : ∃ r, CP t a p = some r ∧ ((r = -1 ∧ (a, p) ∉ t.2.2) ∨ ∃ j : Nat, r = (j : Int) ∧ t.2.2[j]? = some (a, p)) := by
  have key : ∀ (d k : Nat), k + d = t.2.2.length → (a, p) ∉ t.2.2.take k → ∃ r, Fv (AA (AG t.2.2 (a, p)) (k : Int)) (fun _ => some (-1)) = some r ∧ ((r = -1 ∧ (a, p) ∉ t.2.2) ∨ ∃ j : Nat, r = (j : Int) ∧ t.2.2[j]? = some (a, p)) := by
    intro d
    induction d with
    | zero =>
      intro k hk hn
      rw [List.take_of_length_le (by omega)] at hn
      exact ⟨-1, by rw [AZ (by rw [AG, if_neg (by omega)])]; rfl, .inl ⟨rfl, hn⟩⟩
    | succ d ih =>
      intro k hk hn
      have hkl : k < t.2.2.length := by omega
      have hg := List.getElem?_eq_getElem hkl
      by_cases c : a = t.2.2[k].1 ∧ p = t.2.2[k].2
      · exact ⟨(k : Int), by rw [AZ (by rw [AG, if_pos (by omega), Bd hg, Option.bind_some, if_pos c])]; rfl, .inr ⟨k, rfl, by rw [hg, show t.2.2[k] = (a, p) from Prod.ext c.1.symm c.2.symm]⟩⟩
      · have hst : AG t.2.2 (a, p) (k : Int) = some (.inl ((k + 1 : Nat) : Int)) := by
          rw [AG, if_pos (by omega), Bd hg, Option.bind_some, if_neg c, AY (by omega)]; rfl
        rw [Ch hst]
        refine ih (k + 1) (by omega) (fun hm => ?_)
        rw [List.take_succ_eq_append_getElem hkl] at hm
        rcases List.mem_append.1 hm with h | h
        · exact hn h
        · rw [List.mem_singleton] at h
          exact c ⟨by rw [← h], by rw [← h]⟩
  obtain ⟨r, h1, h2⟩ := key t.2.2.length 0 (by omega) (by simp)
  refine ⟨r, ?_, h2⟩
  unfold CP A7
  have h1' : Fv (AA (AG t.2.2 (a, p)) 0) (fun _ => some (-1)) = some r := h1
  rw [h1']; rfl
theorem Nh {t : Tp} (hok : C6 t) {h : Int} (h0 : 0 ≤ h) (h1 : h < (t.2.2.length : Int)) (a p : Int) : ∃ r, CP t a p = some r ∧ (r = h ↔ t.2.2[h.toNat]? = some (a, p)) := by
  obtain ⟨r, e, hr⟩ := KH t (by have := hok.1; omega) a p
  refine ⟨r, e, ?_⟩
  rcases hr with ⟨h2, h3⟩ | ⟨j, h2, h3⟩
  · exact ⟨fun hh => by omega, fun hh => absurd (List.mem_of_getElem? hh) h3⟩
  · constructor
    · intro hh
      rw [show h.toNat = j by omega]; exact h3
    · intro hh
      have := OJ (LG hok) hh h3
      omega
noncomputable def pe (t : Tp) (a p : Int) : Pr := (Cx t a p).getD (0, 0, 0, false)
theorem PV {t : Tp} (hok : C6 t) (a p : Int) : Cx t a p = some (pe t a p) := by
  obtain ⟨R, e, _⟩ := HT hok.1.2.2.1 a p
  unfold pe; rw [e]; rfl
theorem QC {t : Tp} (hok : C6 t) {a p : Int} (h : (pe t a p).2.2.2 = true) : (0 ≤ a ∧ a < t.1) ∧ 0 ≤ (pe t a p).1 ∧ (pe t a p).1 < t.1 := by
  obtain ⟨R, e, hR⟩ := HT hok.1.2.2.1 a p
  have he : pe t a p = R := by unfold pe; rw [e]; rfl
  rw [he] at h ⊢
  rcases hR with ⟨h1, _⟩ | ⟨i, x, hi, hs⟩
  · rw [h1] at h; cases h
  · obtain ⟨m1, m2⟩ := Lf hs
    have hx := List.mem_of_getElem? hi
    have hp : ∀ q ∈ CO x, q ∈ pl t := fun q hq => by
      unfold pl; exact List.mem_append_left _ (List.mem_flatMap.2 ⟨x, hx, hq⟩)
    obtain ⟨a1, a2, _⟩ := O4 hok (hp _ m1)
    obtain ⟨b1, b2, _⟩ := O4 hok (hp _ m2)
    exact ⟨⟨a1, a2⟩, b1, b2⟩
abbrev Rt := List (List Int)
abbrev JA (t : Tp) (r : Rt) : Prop := C6 t ∧ (r.length : Int) = t.1 ∧ ∀ row ∈ r, row.length = t.2.2.length ∧ ∀ p ∈ row, 0 ≤ p ∧ p ≤ 7
def JP (r : Rt) (sw h : Int) : Int := (r.getD sw.toNat []).getD h.toNat 0
theorem JA.row {t : Tp} {r : Rt} (ho : JA t r) {sw : Int} (hs : 0 ≤ sw ∧ sw < t.1) : ∃ row, ix r sw = some row ∧ r[sw.toNat]? = some row ∧ row.length = t.2.2.length ∧ (∀ p ∈ row, 0 ≤ p ∧ p ≤ 7) ∧ r.getD sw.toNat [] = row := by
  obtain ⟨_, h2, h3⟩ := ho
  obtain ⟨row, e1, e2⟩ := M9 (l := r) hs.1 (by omega)
  obtain ⟨k1, k2⟩ := h3 row (List.mem_of_getElem? e2)
  exact ⟨row, e1, e2, k1, k2, by rw [List.getD_eq_getElem?_getD, e2]; rfl⟩
theorem JA.port {t : Tp} {r : Rt} (ho : JA t r) {sw h : Int} (hs : 0 ≤ sw ∧ sw < t.1) (hh : 0 ≤ h ∧ h < (t.2.2.length : Int)) : ∃ row, ix r sw = some row ∧ (row.length : Int) = t.2.2.length ∧ ix row h = some (JP r sw h) ∧ 0 ≤ JP r sw h ∧ JP r sw h ≤ 7 := by
  obtain ⟨row, e1, e2, e3, e4, e5⟩ := ho.row hs
  obtain ⟨p, f1, f2⟩ := M9 (l := row) hh.1 (by omega)
  have : JP r sw h = p := by unfold JP; rw [e5, List.getD_eq_getElem?_getD, f2]; rfl
  rw [this]
  obtain ⟨g1, g2⟩ := e4 p (List.mem_of_getElem? f2)
  exact ⟨row, e1, by omega, f1, g1, g2⟩
theorem Mr {l : List Int} (hl : l.length ≤ 1000000000) : A5 l = some (decide (∃ x ∈ l, ¬ (0 ≤ x ∧ x ≤ 7))) := by
  have key : ∀ (d k : Nat), k + d = l.length → (∀ x ∈ l.take k, (0 ≤ x ∧ x ≤ 7)) → ∃ i : Int, Fv (AA (AV l) (k : Int)) (fun _ => some (-1)) = some i ∧ (0 ≤ i ↔ ∃ x ∈ l, ¬ (0 ≤ x ∧ x ≤ 7)) := by
    intro d
    induction d with
    | zero =>
      intro k hk hn
      rw [List.take_of_length_le (by omega)] at hn
      exact ⟨-1, by rw [AZ (by rw [AV, if_neg (by omega)])]; rfl, ⟨fun h => by omega, fun ⟨x, hx, h⟩ => absurd (hn x hx) h⟩⟩
    | succ d ih =>
      intro k hk hn
      have hkl : k < l.length := by omega
      have hg := List.getElem?_eq_getElem hkl
      have hw : BS l[k] = true ↔ ¬ (0 ≤ l[k] ∧ l[k] ≤ 7) := by
        unfold BS; simp only [Bool.or_eq_true, decide_eq_true_eq]; omega
      by_cases c : BS l[k] = true
      · exact ⟨(k : Int), by rw [AZ (by rw [AV, if_pos (by omega), Bd hg, Option.bind_some, if_pos c])]; rfl, ⟨fun _ => ⟨_, List.getElem_mem hkl, hw.1 c⟩, fun _ => by omega⟩⟩
      · have hst : AV l (k : Int) = some (.inl ((k + 1 : Nat) : Int)) := by
          rw [AV, if_pos (by omega), Bd hg, Option.bind_some, if_neg c, AY (by omega)]; rfl
        rw [Ch hst]
        refine ih (k + 1) (by omega) (fun x hx => ?_)
        rw [List.take_succ_eq_append_getElem hkl] at hx
        rcases List.mem_append.1 hx with h | h
        · exact hn x h
        · rw [List.mem_singleton.1 h]; exact Decidable.not_not.1 (fun hc => c (hw.2 hc))
  obtain ⟨i, h1, h2⟩ := key l.length 0 (by omega) (by simp)
  have h1' : Fv (AA (AV l) 0) (fun _ => some (-1)) = some i := h1
  unfold A5 Bq
  rw [h1', Option.bind_some]
  congr 1
  exact decide_eq_decide.2 h2
theorem Pk {t : Tp} {r : Rt} (hr : r.length ≤ 12) (hw : ∀ row ∈ r, row.length ≤ 1000000000) : CM t r = some (decide (JA t r)) := by
  unfold CM
  rw [MD, Option.bind_some]
  by_cases c : C6 t
  · rw [decide_eq_true c, if_neg (by decide)]
    by_cases c2 : (r.length : Int) = t.1
    · rw [decide_eq_false (by omega : ¬ (r.length : Int) ≠ t.1), Option.bind_some, if_neg (by decide)]
      rw [EY r (by omega) (Co t r) (fun row => ¬ (row.length = t.2.2.length ∧ ∀ p ∈ row, 0 ≤ p ∧ p ≤ 7)) false (fun k hk => by
        rw [Co, if_pos (by omega), Bd (List.getElem?_eq_getElem hk), Option.bind_some]
        have hb := hw _ (List.getElem_mem hk)
        generalize r[k] = x at hb ⊢
        by_cases d1 : (x.length : Int) ≠ (t.2.2.length : Int)
        · rw [if_pos d1, Option.bind_some, if_pos rfl, if_pos (fun h => d1 (by omega))]
        · rw [if_neg d1, Mr (by omega), Option.bind_some]
          by_cases d2 : ∃ y ∈ x, ¬ (0 ≤ y ∧ y ≤ 7)
          · rw [decide_eq_true d2, Option.bind_some, if_pos rfl, if_pos (fun h => by obtain ⟨y, hy, hn⟩ := d2; exact hn (h.2 y hy))]
          · rw [decide_eq_false d2, Option.bind_some, if_neg (by decide), if_neg (fun h => h ⟨by omega, fun p hp => Decidable.not_not.1 fun hn => d2 ⟨p, hp, hn⟩⟩)]) (by rw [Co, if_neg (by omega)])]
      by_cases d : ∃ row ∈ r, ¬ (row.length = t.2.2.length ∧ ∀ p ∈ row, 0 ≤ p ∧ p ≤ 7)
      · rw [if_pos d]
        show some false = _
        rw [decide_eq_false (fun h => by obtain ⟨row, hm, hn⟩ := d; exact hn (h.2.2 row hm))]
      · rw [if_neg d]
        show some true = _
        rw [decide_eq_true (⟨c, c2, fun row hm => Decidable.not_not.1 fun hn => d ⟨row, hm, hn⟩⟩ : JA t r)]
    · rw [decide_eq_true (show (r.length : Int) ≠ t.1 from c2), Option.bind_some, if_pos rfl, decide_eq_false (fun h => c2 h.2.1)]
  · rw [decide_eq_false c, if_pos (by decide), Option.bind_some, if_pos rfl, decide_eq_false (fun h => c h.1)]
def Ni (t : Tp) (r : Rt) (h sw : Int) : Prop := t.2.2[h.toNat]? = some (sw, JP r sw h)
noncomputable def nx (t : Tp) (r : Rt) (h sw : Int) : Option Int := if (pe t sw (JP r sw h)).2.2.2 = true then some (pe t sw (JP r sw h)).1 else none
inductive Wy (t : Tp) (r : Rt) (h : Int) : List Int → Prop
  | last {s : Int} : Ni t r h s → Wy t r h [s]
  | go {s v : Int} {l : List Int} : ¬ Ni t r h s → nx t r h s = some v → Wy t r h (v :: l) → Wy t r h (s :: v :: l)
theorem QT {t : Tp} {r : Rt} (hok : C6 t) {h s v : Int} (e : nx t r h s = some v) : (0 ≤ s ∧ s < t.1) ∧ 0 ≤ v ∧ v < t.1 := by
  unfold nx at e
  by_cases c : (pe t s (JP r s h)).2.2.2 = true
  · rw [if_pos c] at e
    have := QC hok c
    rw [← Option.some.inj e]; exact this
  · rw [if_neg c] at e; cases e
theorem Wy.det {t : Tp} {r : Rt} {h : Int} {a b : List Int} (ha : Wy t r h a) : Wy t r h b → a.head? = b.head? → a = b := by
  induction ha generalizing b with
  | last hs =>
    intro hb e
    cases hb with
    | last _ => simp at e; rw [e]
    | go hn _ _ => simp at e; rw [e] at hs; exact absurd hs hn
  | go hn hx hw ih =>
    intro hb e
    cases hb with
    | last hs => simp at e; rw [← e] at hs; exact absurd hs hn
    | go hn2 hx2 hw2 =>
      simp at e
      subst e
      have := Option.some.inj (hx.symm.trans hx2)
      subst this
      rw [ih hw2 rfl]
theorem Wy.tail {t : Tp} {r : Rt} {h : Int} : ∀ {a b : List Int}, Wy t r h (a ++ b) → b ≠ [] → Wy t r h b
  | [], b, hw, _ => hw
  | [x], b, hw, hb => by
    cases b with
    | nil => exact absurd rfl hb
    | cons y b =>
      cases hw with
      | go _ _ h => exact h
  | x :: y :: a, b, hw, hb => by
    cases hw with
    | go _ _ h => exact Wy.tail (a := y :: a) h hb
theorem Wy.nodup {t : Tp} {r : Rt} {h : Int} : ∀ {a : List Int}, Wy t r h a → a.Nodup
  | [], _ => List.nodup_nil
  | x :: a, hw => by
    rw [List.nodup_cons]
    constructor
    · intro hm
      obtain ⟨p, q, e⟩ := List.append_of_mem hm
      have h2 : Wy t r h (x :: q) := Wy.tail (a := x :: p) (b := x :: q) (by rw [List.cons_append, ← e]; exact hw) (by simp)
      have h3 := congrArg List.length (Wy.det hw h2 rfl)
      have h4 := congrArg List.length e
      simp only [List.length_cons, List.length_append] at h3 h4; omega
    · cases a with
      | nil => exact List.nodup_nil
      | cons y a => exact Wy.nodup (Wy.tail (a := [x]) hw (by simp))
theorem Ju (l : List Int) (hl : l.length ≤ 1000000000) (x : Int) : BM l x = some (decide (x ∈ l)) := by
  unfold BM
  rw [EY l (by omega) (Bu l x) (fun y => x = y) true (fun k hk => by
    rw [Bu, if_pos (by omega), Bd (List.getElem?_eq_getElem hk), Option.bind_some]) (by rw [Bu, if_neg (by omega)])]
  by_cases c : x ∈ l
  · rw [if_pos ⟨x, c, rfl⟩, decide_eq_true c]; rfl
  · rw [if_neg (fun ⟨y, hy, e⟩ => c (e ▸ hy)), decide_eq_false c]; rfl
theorem LU {t : Tp} {r : Rt} (ho : JA t r) {sw h : Int} (hs : 0 ≤ sw ∧ sw < t.1) (hh : 0 ≤ h ∧ h < (t.2.2.length : Int)) : DR t r sw h = some ((pe t sw (JP r sw h)).1, (pe t sw (JP r sw h)).2.2.2) := by
  obtain ⟨row, e1, e2, e3, _⟩ := ho.port hs hh
  have h2 := ho.2.1
  unfold DR
  rw [if_neg (by omega), if_neg (by omega), if_neg (by omega), e1, Option.bind_some, Option.bind_some, decide_eq_false (by omega), if_neg (by decide), Option.bind_some, e3, Option.bind_some, PV ho.1, Option.bind_some]
def KS (t : Tp) (r : Rt) (h sw : Int) (q : List Int × Int) : Prop := (q.2 = 0 ∧ Wy t r h q.1 ∧ q.1.head? = some sw) ∨ ((q.2 = 12 ∨ q.2 = 13) ∧ q.1 = [] ∧ ∀ l, ¬ Wy t r h (sw :: l))
theorem Qo {t : Tp} {r : Rt} (ho : JA t r) {sw h : Int} (hs : 0 ≤ sw ∧ sw < t.1) (hh : 0 ≤ h ∧ h < (t.2.2.length : Int)) : ∃ q, Dg t r sw h = some q ∧ KS t r h sw q := by
  have hok := ho.1
  have h8 : t.1 ≤ 8 := hok.1.2.1
  obtain ⟨e, he, hP⟩ := OL (step := B0 t r h)
    (fun s => ∃ pre, s.2 = pre ++ [s.1] ∧ s.2.Nodup ∧ (∀ x ∈ s.2, 0 ≤ x ∧ x < t.1) ∧ s.2.head? = some sw ∧ (∀ l, Wy t r h (s.1 :: l) → Wy t r h (pre ++ s.1 :: l)) ∧ ∀ l, Wy t r h (sw :: l) → ∃ l', sw :: l = pre ++ s.1 :: l' ∧ Wy t r h (s.1 :: l'))
    (fun s => 9 - s.2.length)
    (fun e => match e with | .inl w => Wy t r h w ∧ w.head? = some sw | .inr q => (q.2 = 12 ∨ q.2 = 13) ∧ q.1 = [] ∧ ∀ l, ¬ Wy t r h (sw :: l))
    (by
      rintro ⟨a, w⟩ ⟨pre, e1, e2, e3, e4, e5, e6⟩
      simp only at e1 e2 e3 e4 e5 e6
      have ha := e3 a (by rw [e1]; simp)
      have hlen : w.length ≤ 8 := Nat.le_trans (Cy t.1.toNat w e2 (fun x hx => by have := e3 x hx; omega)) (by omega)
      obtain ⟨row, f1, f2, f3, _⟩ := ho.port ha hh
      obtain ⟨k, g1, g2⟩ := Nh hok hh.1 hh.2 a (JP r a h)
      by_cases c : k = h
      · refine .inr ⟨.inl w, ?_, ?_, e4⟩
        · rw [B0, f1, Option.bind_some, f3, Option.bind_some, g1, Option.bind_some, if_neg (by simpa using c)]
        · rw [e1]; exact e5 [] (.last (g2.1 c))
      · have hnh : ¬ Ni t r h a := fun hm => c (g2.2 hm)
        by_cases c2 : (pe t a (JP r a h)).2.2.2 = true
        · have hnx : nx t r h a = some (pe t a (JP r a h)).1 := by unfold nx; rw [if_pos c2]
          have hv := (QT hok hnx).2
          by_cases c3 : (pe t a (JP r a h)).1 ∈ w
          · refine .inr ⟨.inr ([], 12), ?_, .inl rfl, rfl, fun l hl => ?_⟩
            · rw [B0, f1, Option.bind_some, f3, Option.bind_some, g1, Option.bind_some, if_pos c, LU ho ha hh, Option.bind_some, if_neg (by simp [c2]), Ju w (by omega), Option.bind_some, decide_eq_true c3, if_pos rfl]
            · obtain ⟨l', k1, k2⟩ := e6 l hl
              cases k2 with
              | last hm => exact hnh hm
              | go _ hx hw =>
                rename_i v l2 _
                have hv2 := Option.some.inj (hx.symm.trans hnx)
                have hnd := Wy.nodup hl
                rw [k1, show pre ++ a :: v :: l2 = w ++ v :: l2 by rw [e1]; simp] at hnd
                exact (List.nodup_append.1 hnd).2.2 v (by rw [hv2]; exact c3) v (List.mem_cons_self ..) rfl
          · refine .inl ⟨((pe t a (JP r a h)).1, w ++ [(pe t a (JP r a h)).1]), ?_, ⟨w, rfl, ?_, ?_, ?_, ?_, ?_⟩, ?_⟩
            · rw [B0, f1, Option.bind_some, f3, Option.bind_some, g1, Option.bind_some, if_pos c, LU ho ha hh, Option.bind_some, if_neg (by simp [c2]), Ju w (by omega), Option.bind_some, decide_eq_false c3, if_neg (by decide), Di (by simp; omega), Option.bind_some]
            · rw [List.nodup_append]
              exact ⟨e2, by simp, fun x hx y hy => by rw [List.mem_singleton.1 hy]; intro ee; subst ee; exact c3 hx⟩
            · intro x hx
              rcases List.mem_append.1 hx with hx | hx
              · exact e3 x hx
              · rw [List.mem_singleton.1 hx]; exact hv
            · rw [List.head?_append, e4]; rfl
            · intro l hl
              have := e5 ((pe t a (JP r a h)).1 :: l) (.go hnh hnx hl)
              simp only
              rw [e1, List.append_assoc]; exact this
            · intro l hl
              obtain ⟨l', k1, k2⟩ := e6 l hl
              cases k2 with
              | last hm => exact absurd hm hnh
              | go _ hx hw =>
                rename_i v l2 _
                have hv2 := Option.some.inj (hx.symm.trans hnx)
                subst hv2
                exact ⟨l2, by rw [k1, e1]; simp, hw⟩
            · simp; omega
        · refine .inr ⟨.inr ([], 13), ?_, .inr rfl, rfl, fun l hl => ?_⟩
          · rw [B0, f1, Option.bind_some, f3, Option.bind_some, g1, Option.bind_some, if_pos c, LU ho ha hh, Option.bind_some, if_pos (by simpa using c2)]
          · obtain ⟨l', k1, k2⟩ := e6 l hl
            cases k2 with
            | last hm => exact hnh hm
            | go _ hx hw =>
              unfold nx at hx
              rw [if_neg c2] at hx; cases hx)
    (sw, [sw]) ⟨[], rfl, by simp, by simpa using hs, rfl, fun l h => h, fun l h => ⟨l, rfl, h⟩⟩
  unfold Dg
  rw [he]
  cases e with
  | inl w => exact ⟨(w, 0), rfl, .inl ⟨rfl, hP⟩⟩
  | inr q => exact ⟨q, rfl, .inr hP⟩
theorem KS.of {t : Tp} {r : Rt} {h sw : Int} {q : List Int × Int} (hq : KS t r h sw q) {l : List Int} (hl : Wy t r h (sw :: l)) : q = (sw :: l, 0) := by
  rcases hq with ⟨h1, h2, h3⟩ | ⟨_, _, h3⟩
  · exact Prod.ext (Wy.det h2 hl h3) h1
  · exact absurd hl (h3 l)
def KW (t : Tp) (r : Rt) : Prop := JA t r ∧ ∀ sw h : Int, 0 ≤ sw ∧ sw < t.1 → 0 ≤ h ∧ h < (t.2.2.length : Int) → ∃ l, Wy t r h (sw :: l)
noncomputable instance KW.dec (t : Tp) (r : Rt) : Decidable (KW t r) := Classical.propDecidable _
theorem KS.zero {t : Tp} {r : Rt} {h sw : Int} {q : List Int × Int} (hq : KS t r h sw q) : q.2 = 0 ↔ ∃ l, Wy t r h (sw :: l) := by
  rcases hq with ⟨h1, h2, h3⟩ | ⟨h1, h2, h3⟩
  · refine ⟨fun _ => ?_, fun _ => h1⟩
    cases hl : q.1 with
    | nil => rw [hl] at h3; cases h3
    | cons a l =>
      rw [hl] at h2 h3
      have : a = sw := by simpa using h3
      subst this; exact ⟨l, h2⟩
  · exact ⟨fun h => by omega, fun ⟨l, hl⟩ => absurd hl (h3 l)⟩
open Classical in
theorem Qf {t : Tp} {r : Rt} (hr : r.length ≤ 12) (hw : ∀ row ∈ r, row.length ≤ 1000000000) : CS t r = some (decide (KW t r)) := by
  unfold CS
  rw [Pk hr hw, Option.bind_some]
  by_cases c : JA t r
  · rw [decide_eq_true c, if_neg (by decide)]
    have hlen := c.2.1
    have hin : ∀ (k : Nat), k < r.length → ∃ row, ix r (k : Int) = some row ∧ AA (Cl t r (k : Int) row) 0 = some (if ∃ h : Nat, h < t.2.2.length ∧ ¬ ∃ l, Wy t r (h : Int) ((k : Int) :: l) then .inr (.inr (.inr false)) else .inl ()) := fun k hk => by
      obtain ⟨row, f1, f2, f3, _⟩ := c.row (sw := (k : Int)) (by omega)
      refine ⟨row, f1, ?_⟩
      have := Mo (ε := Int ⊕ (Unit ⊕ Bool)) row.length (Cl t r (k : Int) row) (fun h => if ¬ ∃ l, Wy t r (h : Int) ((k : Int) :: l) then some (.inr (.inr false)) else none) (fun h hh => by
        obtain ⟨q, e, hq⟩ := Qo c (sw := (k : Int)) (h := (h : Int)) (by omega) (by omega)
        rw [Cl, if_pos (by omega), e, Option.bind_some]
        have hz := hq.zero
        by_cases d : ∃ l, Wy t r (h : Int) ((k : Int) :: l)
        · rw [if_neg (fun h => h (hz.2 d)), if_neg (fun h => h d), AY (by omega)]; rfl
        · rw [if_pos (fun h => d (hz.1 h)), if_pos d]) (by rw [Cl, if_neg (by omega)])
      rw [this]
      by_cases d : ∃ h : Nat, h < t.2.2.length ∧ ¬ ∃ l, Wy t r (h : Int) ((k : Int) :: l)
      · rw [if_pos d]
        obtain ⟨h, h1, h2⟩ := d
        cases e : (List.range row.length).findSome? (fun h : Nat => if ¬ ∃ l, Wy t r (h : Int) ((k : Int) :: l) then some (.inr (.inr false) : Int ⊕ (Unit ⊕ Bool)) else none) with
        | none =>
          rw [List.findSome?_eq_none_iff] at e
          have := e h (List.mem_range.2 (by omega))
          rw [if_pos h2] at this; cases this
        | some x =>
          obtain ⟨y, _, hy⟩ := List.exists_of_findSome?_eq_some e
          by_cases d2 : ¬ ∃ l, Wy t r (y : Int) ((k : Int) :: l)
          · rw [if_pos d2] at hy; rw [← Option.some.inj hy]
          · rw [if_neg d2] at hy; cases hy
      · rw [if_neg d, HZ fun h hh => if_neg fun h2 => d ⟨h, by omega, h2⟩]
    have := Mo (ε := Bool) r.length (CD t r) (fun k => if ∃ h : Nat, h < t.2.2.length ∧ ¬ ∃ l, Wy t r (h : Int) ((k : Int) :: l) then some false else none) (fun k hk => by
      obtain ⟨row, f1, f2⟩ := hin k hk
      rw [CD, if_pos (by omega), f1, Option.bind_some, f2]
      by_cases d : ∃ h : Nat, h < t.2.2.length ∧ ¬ ∃ l, Wy t r (h : Int) ((k : Int) :: l)
      · rw [if_pos d, if_pos d]; rfl
      · rw [if_neg d, if_neg d, AY (by omega)]; rfl) (by rw [CD, if_neg (by omega)])
    rw [this]
    by_cases d : KW t r
    · rw [decide_eq_true d, HZ fun k hk => if_neg fun ⟨h, h1, h2⟩ => h2 (d.2 _ _ (by omega) (by omega))]; rfl
    · rw [decide_eq_false d]
      cases e : (List.range r.length).findSome? (fun k : Nat => if ∃ h : Nat, h < t.2.2.length ∧ ¬ ∃ l, Wy t r (h : Int) ((k : Int) :: l) then some false else none) with
      | none =>
        rw [List.findSome?_eq_none_iff] at e
        refine absurd ⟨c, fun sw h hs hh => Classical.byContradiction fun hn => ?_⟩ d
        have := e sw.toNat (List.mem_range.2 (by omega))
        rw [if_pos ⟨h.toNat, by omega, by rw [show ((h.toNat : Nat) : Int) = h by omega, show ((sw.toNat : Nat) : Int) = sw by omega]; exact hn⟩] at this
        cases this
      | some x =>
        obtain ⟨y, _, hy⟩ := List.exists_of_findSome?_eq_some e
        split at hy
        · rw [← Option.some.inj hy]; rfl
        · cases hy
  · rw [decide_eq_false c, if_pos (by decide), decide_eq_false (fun h => c h.1)]
theorem Pg {t : Tp} (hok : C6 t) {u : Int} {x : Sd} (hx : Fy t u x) : ∃ b, Cx t u x.1 = some (x.2.1, b, x.2.2, true) := by
  obtain ⟨R, r1, _, r3⟩ := MK hok u x.1
  obtain ⟨e1, e2⟩ := r3 x hx rfl
  have a : x.2.1 = R.1 := by rw [e2]
  have b : x.2.2 = R.2.2.1 := by rw [e2]
  exact ⟨R.2.1, by rw [r1, a, b, ← e1]⟩
end Go.Proofs.Ytieebnllkjmjiaa
