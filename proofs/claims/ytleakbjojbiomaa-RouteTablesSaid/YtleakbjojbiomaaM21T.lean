/- Layer 21: the tables of switches. Conditions: none. -/
import Derived.Test.YtleakbjojbiomaaLP
import Derived.Test.YtleakbjojbiomaaEVT
import Derived.Test.YtleakbjojbiomaaT4
namespace Go.Proofs.Ytleakbjojbiomaa
set_option linter.unusedVariables false
set_option linter.unusedSimpArgs false
open Go Go.RowKit
abbrev Lk := Int × Int × Int × Int × Int × Int
abbrev Tp := Int × List Lk × List (Int × Int)
abbrev ends2 (l : Lk) : List (Int × Int) := [(l.1, l.2.1), (l.2.2.1, l.2.2.2.1)]
def pl (t : Tp) : List (Int × Int) := t.2.1.flatMap ends2 ++ t.2.2
abbrev PortOk (t : Tp) (q : Int × Int) : Prop := 0 ≤ q.1 ∧ q.1 < t.1 ∧ 0 ≤ q.2 ∧ q.2 ≤ 7 ∧ (pl t).count q = 1
abbrev LinkOk (t : Tp) (l : Lk) : Prop := l.1 ≠ l.2.2.1 ∧ 1 ≤ l.2.2.2.2.1 ∧ l.2.2.2.2.1 ≤ l.2.2.2.2.2 ∧ l.2.2.2.2.2 ≤ 1000 ∧ PortOk t (l.1, l.2.1) ∧ PortOk t (l.2.2.1, l.2.2.2.1)
abbrev OkT (t : Tp) : Prop := (1 ≤ t.1 ∧ t.1 ≤ 8 ∧ t.2.1.length ≤ 24 ∧ t.2.2.length ≤ 8) ∧ (∀ l ∈ t.2.1, LinkOk t l) ∧ ∀ h ∈ t.2.2, PortOk t h
theorem flat_cnt (q : Int × Int) : ∀ l : List Lk, (l.flatMap ends2).count q ≤ 2 * l.length
  | [] => by simp
  | x :: l => by
    have h := flat_cnt q l
    have h2 : (ends2 x).count q ≤ 2 := List.count_le_length
    rw [List.flatMap_cons, List.count_append, List.length_cons]; omega
theorem port_eq {t : Tp} (hl : t.2.1.length ≤ 24) (hh : t.2.2.length ≤ 8) (a p : Int) : r17_port t a p = some (decide (PortOk t (a, p))) := by
  obtain ⟨s, h1, h2⟩ := loop_cnt t.2.1.length (fun (s : Int) (k : Nat) => (s, (k : Int))) (r17_port_l1 t a p) id (fun s k => s = (((t.2.1.take k).flatMap ends2).count (a, p) : Nat))
    (fun s k hk hI => by
      have hb := flat_cnt (a, p) (t.2.1.take k)
      rw [List.length_take] at hb
      have hx : ∀ c : Prop, [Decidable c] → ∀ s : Int, 0 ≤ s ∧ s ≤ 100 → (if c then some (w64 (s + 1)) else some s) = some (s + (if c then 1 else 0)) := fun c _ s hs => by
        by_cases h : c
        · rw [if_pos h, if_pos h, w64_id (by omega)]
        · rw [if_neg h, if_neg h]; simp
      refine ⟨s + (if (decide (t.2.1[k].1 = a) && decide (t.2.1[k].2.1 = p)) = true then 1 else 0) + (if (decide (t.2.1[k].2.2.1 = a) && decide (t.2.1[k].2.2.2.1 = p)) = true then 1 else 0), ?_, ?_⟩
      · rw [r17_port_l1, if_pos (by omega), ix_nat (List.getElem?_eq_getElem hk), Option.bind_some, hx _ s (by omega), Option.bind_some, hx _ _ (by split <;> omega), Option.bind_some, w64_id (by omega)]; rfl
      · rw [hI, List.take_succ_eq_append_getElem hk, List.flatMap_append, List.count_append, List.flatMap_cons, List.flatMap_nil, List.append_nil]
        have hc : ∀ (x : Lk), (((ends2 x).count (a, p) : Nat) : Int) = (if (decide (x.1 = a) && decide (x.2.1 = p)) = true then 1 else 0) + (if (decide (x.2.2.1 = a) && decide (x.2.2.2.1 = p)) = true then 1 else 0) := fun x => by
          simp only [ends2, List.count_cons, List.count_nil, beq_iff_eq, Prod.mk.injEq, Bool.and_eq_true, decide_eq_true_eq]
          split <;> split <;> rfl
        rw [Int.natCast_add, hc]; omega)
    (fun s _ => by rw [r17_port_l1, if_neg (by omega)]; rfl) 0 (by simp)
  have e1 : loopW (r17_port_l1 t a p) (0, 0) = some s := h2
  rw [List.take_length] at h1
  have hb := flat_cnt (a, p) t.2.1
  obtain ⟨s2, g1, g2⟩ := loop_cnt t.2.2.length (fun (s : Int) (k : Nat) => (s, (k : Int))) (r17_port_l2 t a p) id (fun s2 k => s2 = s + ((t.2.2.take k).count (a, p) : Nat))
    (fun s2 k hk hI => by
      have hb2 : (t.2.2.take k).count (a, p) ≤ k := Nat.le_trans List.count_le_length (by rw [List.length_take]; omega)
      refine ⟨s2 + (if t.2.2[k] = (a, p) then 1 else 0), ?_, ?_⟩
      · rw [r17_port_l2, if_pos (by omega), ix_nat (List.getElem?_eq_getElem hk), Option.bind_some, Option.bind_some]
        have hd : (if t.2.2[k].1 = a then some (decide (t.2.2[k].2 = p)) else some false) = some (decide (t.2.2[k] = (a, p))) := by
          by_cases c : t.2.2[k].1 = a
          · rw [if_pos c]; congr 1; exact decide_eq_decide.2 ⟨fun h => Prod.ext c h, fun h => by rw [h]⟩
          · rw [if_neg c, decide_eq_false (fun h => c (by rw [h]))]
        rw [hd, Option.bind_some]
        by_cases c : t.2.2[k] = (a, p)
        · rw [decide_eq_true c, if_pos rfl, if_pos c, Option.bind_some, w64_id (by omega), w64_id (by omega)]; rfl
        · rw [decide_eq_false c, if_neg (by decide), if_neg c, Option.bind_some, w64_id (by omega), Int.add_zero]; rfl
      · rw [hI, List.take_succ_eq_append_getElem hk, List.count_append]
        by_cases c : t.2.2[k] = (a, p)
        · rw [if_pos c, c]; simp; omega
        · rw [if_neg c, List.count_eq_zero_of_not_mem (a := (a, p)) (l := [t.2.2[k]]) (by simp; exact fun h => c h.symm)]; omega)
    (fun s _ => by rw [r17_port_l2, if_neg (by omega)]; rfl) s (by simp)
  have e2 : loopW (r17_port_l2 t a p) (s, 0) = some s2 := g2
  rw [List.take_length] at g1
  have hcount : ((pl t).count (a, p) : Int) = s2 := by
    unfold pl
    rw [List.count_append, Int.natCast_add, g1, h1]
  unfold r17_port
  rw [e1, Option.bind_some, e2, Option.bind_some]
  congr 1
  rw [Bool.eq_iff_iff]
  simp only [Bool.and_eq_true, decide_eq_true_eq]
  have : s2 = 1 ↔ (pl t).count (a, p) = 1 := by omega
  rw [this]
theorem rright17 {t : Tp} : r17_Right t = some (decide (OkT t)) := by
  unfold r17_Right
  by_cases c : t.1 < 1 ∨ 8 < t.1 ∨ 24 < (t.2.1.length : Int) ∨ 8 < (t.2.2.length : Int)
  · rw [if_pos (by simpa using c), decide_eq_false (fun h => by have := h.1; omega)]
  · rw [if_neg (by simpa using c)]
    have hl : t.2.1.length ≤ 24 := by omega
    have hh : t.2.2.length ≤ 8 := by omega
    rw [search_in t.2.1 (by omega) (r17_Right_l1 t) (fun l => ¬ LinkOk t l) false (fun k hk => by
      rw [r17_Right_l1, if_pos (by omega), ix_nat (List.getElem?_eq_getElem hk), Option.bind_some, port_eq hl hh, port_eq hl hh]
      generalize t.2.1[k] = x
      by_cases c1 : x.1 = x.2.2.1
      · rw [if_pos c1, Option.bind_some, if_pos rfl, if_pos (fun h => h.1 c1)]
      rw [if_neg c1]
      by_cases c2 : x.2.2.2.2.1 < 1
      · rw [if_pos c2, Option.bind_some, if_pos rfl, if_pos (fun h => by have := h.2.1; omega)]
      rw [if_neg c2]
      by_cases c3 : x.2.2.2.2.2 < x.2.2.2.2.1
      · rw [if_pos c3, Option.bind_some, if_pos rfl, if_pos (fun h => by have := h.2.2.1; omega)]
      rw [if_neg c3]
      by_cases c4 : 1000 < x.2.2.2.2.2
      · rw [if_pos c4, Option.bind_some, if_pos rfl, if_pos (fun h => by have := h.2.2.2.1; omega)]
      rw [if_neg c4, Option.bind_some]
      by_cases c5 : PortOk t (x.1, x.2.1)
      · rw [decide_eq_true c5, if_neg (by decide), Option.bind_some]
        by_cases c6 : PortOk t (x.2.2.1, x.2.2.2.1)
        · rw [decide_eq_true c6, Option.bind_some, if_neg (by decide), if_neg (fun h => h ⟨c1, by omega, by omega, by omega, c5, c6⟩)]
        · rw [decide_eq_false c6, Option.bind_some, if_pos (by decide), if_pos (fun h => c6 h.2.2.2.2.2)]
      · rw [decide_eq_false c5, if_pos (by decide), Option.bind_some, if_pos rfl, if_pos (fun h => c5 h.2.2.2.2.1)]) (by rw [r17_Right_l1, if_neg (by omega)]),
      search_in t.2.2 (by omega) (r17_Right_l2 t) (fun h => ¬ PortOk t h) false (fun k hk => by
      rw [r17_Right_l2, if_pos (by omega), ix_nat (List.getElem?_eq_getElem hk), Option.bind_some, Option.bind_some, port_eq hl hh, Option.bind_some]
      by_cases c5 : PortOk t t.2.2[k]
      · rw [decide_eq_true (show PortOk t (t.2.2[k].1, t.2.2[k].2) from c5), if_neg (by decide), if_neg (fun h => h c5)]
      · rw [decide_eq_false (show ¬ PortOk t (t.2.2[k].1, t.2.2[k].2) from c5), if_pos (by decide), if_pos c5]) (by rw [r17_Right_l2, if_neg (by omega)])]
    by_cases d1 : ∃ l ∈ t.2.1, ¬ LinkOk t l
    · rw [if_pos d1]
      show some false = _
      rw [decide_eq_false (fun h => by obtain ⟨l, hl, hn⟩ := d1; exact hn (h.2.1 l hl))]
    · rw [if_neg d1]
      by_cases d2 : ∃ h ∈ t.2.2, ¬ PortOk t h
      · rw [if_pos d2]
        show some false = _
        rw [decide_eq_false (fun h => by obtain ⟨l, hl, hn⟩ := d2; exact hn (h.2.2 l hl))]
      · rw [if_neg d2]
        show some true = _
        rw [decide_eq_true (⟨by omega, fun l hl => Decidable.not_not.1 fun hn => d1 ⟨l, hl, hn⟩, fun l hl => Decidable.not_not.1 fun hn => d2 ⟨l, hl, hn⟩⟩ : OkT t)]
abbrev Rt := List (List Int)
abbrev RtOk (t : Tp) (r : Rt) : Prop := OkT t ∧ (r.length : Int) = t.1 ∧ ∀ row ∈ r, row.length = t.2.2.length ∧ ∀ p ∈ row, 0 ≤ p ∧ p ≤ 7
theorem RtOk.row {t : Tp} {r : Rt} (ho : RtOk t r) {sw : Int} (hs : 0 ≤ sw ∧ sw < t.1) : ∃ row, ix r sw = some row ∧ r[sw.toNat]? = some row ∧ row.length = t.2.2.length ∧ (∀ p ∈ row, 0 ≤ p ∧ p ≤ 7) ∧ r.getD sw.toNat [] = row := by
  obtain ⟨_, h2, h3⟩ := ho
  obtain ⟨row, e1, e2⟩ := ix_getD (l := r) hs.1 (by omega)
  obtain ⟨k1, k2⟩ := h3 row (List.mem_of_getElem? e2)
  exact ⟨row, e1, e2, k1, k2, by rw [List.getD_eq_getElem?_getD, e2]; rfl⟩
theorem rright21 {t : Tp} {r : Rt} (hr : r.length ≤ 12) (hw : ∀ row ∈ r, row.length ≤ 1000000000) : r21_Right t r = some (decide (RtOk t r)) := by
  unfold r21_Right
  rw [rright17, Option.bind_some]
  by_cases c : OkT t
  · rw [decide_eq_true c, if_neg (by decide)]
    by_cases c2 : (r.length : Int) = t.1
    · rw [decide_eq_false (by omega : ¬ (r.length : Int) ≠ t.1), Option.bind_some, if_neg (by decide)]
      rw [search_in r (by omega) (r21_Right_l1 t r) (fun row => ¬ (row.length = t.2.2.length ∧ ∀ p ∈ row, 0 ≤ p ∧ p ≤ 7)) false (fun k hk => by
        have hg := List.getElem?_eq_getElem hk
        have hb := hw _ (List.getElem_mem hk)
        have hix : ix r (k : Int) = some r[k] := ix_nat hg
        rw [r21_Right_l1, if_pos (by omega), hix, Option.bind_some]
        by_cases d1 : (r[k].length : Int) ≠ (t.2.2.length : Int)
        · rw [if_pos d1, if_pos (fun h => d1 (by omega))]; rfl
        · have hin : loopW (r21_Right_l2 r (k : Int)) 0 = some (if ∃ y ∈ r[k], ¬ (0 ≤ y ∧ y ≤ 7) then .inr (.inr (.inr false)) else .inl ()) := by
            have key : ∀ (d j : Nat), j + d = r[k].length → (∀ y ∈ r[k].take j, 0 ≤ y ∧ y ≤ 7) → loopW (r21_Right_l2 r (k : Int)) (j : Int) = some (if ∃ y ∈ r[k], ¬ (0 ≤ y ∧ y ≤ 7) then .inr (.inr (.inr false)) else .inl ()) := by
              intro d
              induction d with
              | zero =>
                intro j hj hn
                rw [List.take_of_length_le (by omega)] at hn
                rw [if_neg (fun ⟨y, hy, h⟩ => h (hn y hy))]
                exact loopW_end (by rw [r21_Right_l2, hix, Option.bind_some, if_neg (by omega)])
              | succ d ih =>
                intro j hj hn
                have hjl : j < r[k].length := by omega
                have hgj : ix r[k] (j : Int) = some r[k][j] := ix_nat (List.getElem?_eq_getElem hjl)
                by_cases e : 0 ≤ r[k][j] ∧ r[k][j] ≤ 7
                · have hst : r21_Right_l2 r (k : Int) (j : Int) = some (.inl ((j + 1 : Nat) : Int)) := by
                    rw [r21_Right_l2, hix, Option.bind_some, if_pos (by omega), Option.bind_some, hgj, Option.bind_some, if_neg (by omega), Option.bind_some, hgj, Option.bind_some, decide_eq_false (by omega), Option.bind_some, if_neg (by decide), w64_id (by omega)]; rfl
                  rw [loopW_go hst]
                  refine ih (j + 1) (by omega) (fun y hy => ?_)
                  rw [List.take_succ_eq_append_getElem hjl] at hy
                  rcases List.mem_append.1 hy with h | h
                  · exact hn y h
                  · rw [List.mem_singleton.1 h]; exact e
                · rw [if_pos ⟨_, List.getElem_mem hjl, e⟩]
                  refine loopW_end ?_
                  rw [r21_Right_l2, hix, Option.bind_some, if_pos (by omega), Option.bind_some, hgj, Option.bind_some]
                  by_cases e1 : r[k][j] < 0
                  · rw [if_pos e1, Option.bind_some, if_pos rfl]
                  · rw [if_neg e1, Option.bind_some, hgj, Option.bind_some, decide_eq_true (by omega), Option.bind_some, if_pos rfl]
            exact key r[k].length 0 (by omega) (by simp)
          rw [if_neg d1, hin]
          by_cases d2 : ∃ y ∈ r[k], ¬ (0 ≤ y ∧ y ≤ 7)
          · rw [if_pos d2, if_pos (fun h => by obtain ⟨y, hy, hn⟩ := d2; exact hn (h.2 y hy))]; rfl
          · rw [if_neg d2, if_neg (fun h => h ⟨by omega, fun p hp => Decidable.not_not.1 fun hn => d2 ⟨p, hp, hn⟩⟩), w64_id (by omega)]; rfl) (by rw [r21_Right_l1, if_neg (by omega)])]
      by_cases d : ∃ row ∈ r, ¬ (row.length = t.2.2.length ∧ ∀ p ∈ row, 0 ≤ p ∧ p ≤ 7)
      · rw [if_pos d]
        show some false = _
        rw [decide_eq_false (fun h => by obtain ⟨row, hm, hn⟩ := d; exact hn (h.2.2 row hm))]
      · rw [if_neg d]
        show some true = _
        rw [decide_eq_true (⟨c, c2, fun row hm => Decidable.not_not.1 fun hn => d ⟨row, hm, hn⟩⟩ : RtOk t r)]
    · rw [decide_eq_true (show (r.length : Int) ≠ t.1 from c2), Option.bind_some, if_pos rfl, decide_eq_false (fun h => c2 h.2.1)]
  · rw [decide_eq_false c, if_pos (by decide), Option.bind_some, if_pos rfl, decide_eq_false (fun h => c h.1)]
theorem small21 (t : Tp) (r : Rt) (hl : r.length ≤ 9223372036854775807) : L21_small t r = some (decide ((∀ row ∈ r, row.length ≤ 12) ∧ t.2.1.length ≤ 30 ∧ t.2.2.length ≤ 12 ∧ r.length ≤ 12)) := by
  unfold L21_small
  rw [search_in r hl (L21_small_l1 r) (fun row => ¬ row.length ≤ 12) false (fun k hk => by
    rw [L21_small_l1, if_pos (by omega), ix_nat (List.getElem?_eq_getElem hk), Option.bind_some]
    by_cases c : r[k].length ≤ 12
    · rw [if_neg (by omega), if_neg (fun h => h c)]
    · rw [if_pos (by omega), if_pos c]) (by rw [L21_small_l1, if_neg (by omega)])]
  by_cases c : ∃ row ∈ r, ¬ row.length ≤ 12
  · rw [if_pos c]
    show some false = _
    rw [decide_eq_false (fun h => by obtain ⟨row, hm, hn⟩ := c; exact hn (h.1 row hm))]
  · rw [if_neg c]
    show some _ = some _
    congr 1
    rw [Bool.eq_iff_iff]
    simp only [Bool.and_eq_true, decide_eq_true_eq]
    constructor
    · intro h
      exact ⟨fun row hm => Decidable.not_not.1 fun hn => c ⟨row, hm, hn⟩, by omega⟩
    · intro h; omega
/-! ### The table of a switch -/
abbrev Mh := Int × (Int × Int × Int × Int) × (Int × Int × Int × Int)
abbrev Ru := Int × Mh × List (Int × Int × Int)
abbrev Pk := Int × Int × Int × Int
abbrev mh (h : Int) : Mh := (-1, (0, h, 0, 0), (0, 255, 0, 0))
abbrev rl (h q : Int) : Ru := (10, mh h, [(2, 0, q)])
def tab (row : List Int) : List Ru := (List.range row.length).map fun (h : Nat) => rl (h : Int) (row.getD h 0)
theorem tab_len (row : List Int) : (tab row).length = row.length := by unfold tab; simp
theorem tab_get {row : List Int} {k : Nat} (h : k < row.length) : ix (tab row) (k : Int) = some (rl (k : Int) (row.getD k 0)) := by
  refine ix_nat ?_
  unfold tab
  rw [List.getElem?_map, List.getElem?_range h]; rfl
theorem plain_is {h q : Int} (hh : 0 ≤ h ∧ h ≤ 7) : rule_Plain 1 h 10 q = some (rl h q) := rule_Plain_le 60 1 h 10 q _ (by
  rcases (show h = 0 ∨ h = 1 ∨ h = 2 ∨ h = 3 ∨ h = 4 ∨ h = 5 ∨ h = 6 ∨ h = 7 by omega) with rfl | rfl | rfl | rfl | rfl | rfl | rfl | rfl <;> kernel_rfl)
theorem right_is {h q : Int} (hh : 0 ≤ h ∧ h ≤ 7) (hq : 0 ≤ q ∧ q ≤ 7) : rule_Right (rl h q) 8 = some true := rule_Right_le 60 (rl h q) 8 _ (by
  rcases (show h = 0 ∨ h = 1 ∨ h = 2 ∨ h = 3 ∨ h = 4 ∨ h = 5 ∨ h = 6 ∨ h = 7 by omega) with rfl | rfl | rfl | rfl | rfl | rfl | rfl | rfl <;>
  rcases (show q = 0 ∨ q = 1 ∨ q = 2 ∨ q = 3 ∨ q = 4 ∨ q = 5 ∨ q = 6 ∨ q = 7 by omega) with rfl | rfl | rfl | rfl | rfl | rfl | rfl | rfl <;> kernel_rfl)
theorem actrun_is (q : Int) (p : Pk) : act_Run [(2, 0, q)] p = some [(q, p)] := act_Run_le 60 _ _ _ (by kernel_rfl)
theorem table_is {r : Rt} {sw : Int} {row : List Int} (h0 : 0 ≤ sw ∧ sw < (r.length : Int)) (hr : ix r sw = some row) (hl : row.length ≤ 8) : route_Table r sw = some (tab row) := by
  obtain ⟨R, h1, h2⟩ := loop_cnt row.length (fun (R : List Ru) (k : Nat) => (R, (k : Int))) (route_Table_l1 row) id (fun R k => R = (List.range k).map fun (h : Nat) => rl (h : Int) (row.getD h 0)) (fun R k hk hI => by
    have hb : R.length ≤ 8 := by rw [hI, List.length_map, List.length_range]; omega
    refine ⟨R ++ [rl (k : Int) (row.getD k 0)], ?_, by rw [hI, List.range_succ, List.map_append]; rfl⟩
    have hg : row.getD k 0 = row[k] := by rw [List.getD_eq_getElem?_getD, List.getElem?_eq_getElem hk]; rfl
    rw [hg, route_Table_l1, if_pos (by omega), ix_nat (List.getElem?_eq_getElem hk), Option.bind_some, plain_is (by omega), Option.bind_some, app_is (by simp; omega), Option.bind_some, w64_id (by omega)]; rfl)
    (fun R _ => by rw [route_Table_l1, if_neg (by omega)]; rfl) [] rfl
  unfold route_Table
  rw [if_neg (by simp; omega), hr, Option.bind_some, show loopW (route_Table_l1 row) ([], 0) = some R from h2, h1]; rfl
theorem and0 (x : Int) : andI .i64 x 0 = 0 := by
  show IntKind.i64.wrap ((BitVec.ofInt 64 x &&& BitVec.ofInt 64 0).toNat : Int) = 0
  rw [show BitVec.ofInt 64 0 = 0#64 from rfl, BitVec.and_zero]; rfl
theorem and255 {a h : Int} (ha : 0 ≤ a ∧ a ≤ 255) (hh : 0 ≤ h ∧ h ≤ 7) : andI .i64 (xorI .i64 a h) 255 = 0 ↔ a = h := by
  have key : ∀ a : Fin 256, ∀ h : Fin 8, (decide (andI .i64 (xorI .i64 (a.val : Int) (h.val : Int)) 255 = 0) == decide (a.val = h.val)) = true := by decide +kernel
  have := key ⟨a.toNat, by omega⟩ ⟨h.toNat, by omega⟩
  simp only [show ((a.toNat : Nat) : Int) = a by omega, show ((h.toNat : Nat) : Int) = h by omega, beq_iff_eq, decide_eq_decide] at this
  rw [this]; omega
theorem hits_is {h port : Int} {p : Pk} (hp : 0 ≤ p.2.1 ∧ p.2.1 ≤ 255) (hh : 0 ≤ h ∧ h ≤ 7) : match_Hits (mh h) port p = some (decide (p.2.1 = h)) := by
  have s0 : match_Hits_l1 (mh h) p 0 = some (.inl 1) := by
    rw [match_Hits_l1, if_pos (by decide)]
    show (if andI .i64 (xorI .i64 p.1 0) 0 ≠ 0 then _ else _ : Option (Int ⊕ (Unit ⊕ Bool))) = _
    rw [if_neg (by rw [and0]; decide)]; rfl
  have s1 : match_Hits_l1 (mh h) p 1 = if p.2.1 = h then some (.inl 2) else some (.inr (.inr false)) := by
    rw [match_Hits_l1, if_pos (by decide)]
    show (if andI .i64 (xorI .i64 p.2.1 h) 255 ≠ 0 then _ else _ : Option (Int ⊕ (Unit ⊕ Bool))) = _
    by_cases c : p.2.1 = h
    · rw [if_pos c, if_neg (fun hn => hn ((and255 hp hh).2 c))]; rfl
    · rw [if_neg c, if_pos (fun hn => c ((and255 hp hh).1 hn))]
  have s2 : match_Hits_l1 (mh h) p 2 = some (.inl 3) := by
    rw [match_Hits_l1, if_pos (by decide)]
    show (if andI .i64 (xorI .i64 p.2.2.1 0) 0 ≠ 0 then _ else _ : Option (Int ⊕ (Unit ⊕ Bool))) = _
    rw [if_neg (by rw [and0]; decide)]; rfl
  have s3 : match_Hits_l1 (mh h) p 3 = some (.inl 4) := by
    rw [match_Hits_l1, if_pos (by decide)]
    show (if andI .i64 (xorI .i64 p.2.2.2 0) 0 ≠ 0 then _ else _ : Option (Int ⊕ (Unit ⊕ Bool))) = _
    rw [if_neg (by rw [and0]; decide)]; rfl
  have s4 : match_Hits_l1 (mh h) p 4 = some (.inr (.inl ())) := by rw [match_Hits_l1, if_neg (by decide)]
  unfold match_Hits
  rw [if_neg (by simp), loopW_go s0]
  by_cases c : p.2.1 = h
  · rw [if_pos c] at s1
    rw [loopW_go s1, loopW_go s2, loopW_go s3, loopW_end s4, decide_eq_true c]; rfl
  · rw [if_neg c] at s1
    rw [loopW_end s1, decide_eq_false c]; rfl
theorem find_is {row : List Int} {port : Int} {p : Pk} (hp : 0 ≤ p.2.1 ∧ p.2.1 ≤ 255) (hl : row.length ≤ 8) : table_Find (tab row) port p = some (if p.2.1 < (row.length : Int) then p.2.1 else -1) := by
  have step : ∀ k : Nat, k < row.length → slices_IndexFunc_api_Rule_api_Rule_l1 (tab row) port p (k : Int) = if p.2.1 = (k : Int) then some (.inr (.inr (k : Int))) else some (.inl ((k + 1 : Nat) : Int)) := fun k hk => by
    rw [slices_IndexFunc_api_Rule_api_Rule_l1, if_pos (by rw [tab_len]; omega), tab_get hk, Option.bind_some]
    unfold table_Find_1
    rw [hits_is hp (by omega), Option.bind_some, Option.bind_some]
    by_cases c : p.2.1 = (k : Int)
    · rw [if_pos (decide_eq_true c), if_pos c]
    · rw [if_neg (by rw [decide_eq_false c]; decide), if_neg c, w64_id (by omega)]; rfl
  have key : ∀ (d k : Nat), k + d = row.length → (k : Int) ≤ p.2.1 → loopW (slices_IndexFunc_api_Rule_api_Rule_l1 (tab row) port p) (k : Int) = some (if p.2.1 < (row.length : Int) then .inr p.2.1 else .inl ()) := by
    intro d
    induction d with
    | zero =>
      intro k hk hkp
      rw [if_neg (by omega)]
      exact loopW_end (by rw [slices_IndexFunc_api_Rule_api_Rule_l1, if_neg (by rw [tab_len]; omega)])
    | succ d ih =>
      intro k hk hkp
      have hs := step k (by omega)
      by_cases c : p.2.1 = (k : Int)
      · rw [if_pos c] at hs
        rw [loopW_end hs, if_pos (by omega), c]
      · rw [if_neg c] at hs
        rw [loopW_go hs]
        exact ih (k + 1) (by omega) (by omega)
  unfold table_Find slices_IndexFunc_api_Rule_api_Rule
  rw [show loopW (slices_IndexFunc_api_Rule_api_Rule_l1 (tab row) port p) 0 = _ from key row.length 0 (by omega) (by omega)]
  by_cases c : p.2.1 < (row.length : Int)
  · rw [if_pos c, if_pos c]; rfl
  · rw [if_neg c, if_neg c]; rfl
theorem run_is {row : List Int} {port : Int} {p : Pk} (hp : 0 ≤ p.2.1 ∧ p.2.1 ≤ 255) (hl : row.length ≤ 8) : table_Run (tab row) port p = some (if p.2.1 < (row.length : Int) then [(row.getD p.2.1.toNat 0, p)] else []) := by
  unfold table_Run
  rw [find_is hp hl, Option.bind_some]
  by_cases c : p.2.1 < (row.length : Int)
  · have hg : ix (tab row) p.2.1 = some (rl p.2.1 (row.getD p.2.1.toNat 0)) := by
      have := tab_get (row := row) (k := p.2.1.toNat) (by omega)
      rw [show ((p.2.1.toNat : Nat) : Int) = p.2.1 by omega] at this; exact this
    rw [if_pos c, if_pos c, if_neg (by omega), hg, Option.bind_some, actrun_is]; rfl
  · rw [if_neg c, if_neg c, if_pos (by decide)]
theorem mput_new {κ ν : Type} [DecidableEq κ] : ∀ {l : List (κ × ν)} {x : κ} {v : ν}, (∀ e ∈ l, e.1 ≠ x) → mput l x v = l ++ [(x, v)]
  | [], _, _, _ => rfl
  | p :: l, x, v, h => by
    unfold mput
    rw [if_neg (fun e => h p (List.mem_cons_self ..) e.symm), mput_new fun e he => h e (List.mem_cons_of_mem _ he)]; rfl
theorem tright_is {row : List Int} (hl : row.length ≤ 8) (hq : ∀ q ∈ row, 0 ≤ q ∧ q ≤ 7) : table_Right (tab row) 8 8 = some true := by
  obtain ⟨R, h1, h2⟩ := loop_cnt row.length (fun (R : List ((Int × Mh) × Unit)) (k : Nat) => ((k : Int), R)) (table_Right_l1 (tab row) 8) (fun R => .inl R) (fun R k => R.length = k ∧ ∀ e ∈ R, e.1.2.2.1.2.1 < (k : Int)) (fun R k hk hI => by
    obtain ⟨i1, i2⟩ := hI
    have hb : 0 ≤ row.getD k 0 ∧ row.getD k 0 ≤ 7 := by
      rw [List.getD_eq_getElem?_getD, List.getElem?_eq_getElem hk]; exact hq _ (List.getElem_mem hk)
    have hnew : mput R ((10, mh (k : Int)) : Int × Mh) () = R ++ [((10, mh (k : Int)), ())] := mput_new fun e he h => by
      have := i2 e he
      rw [h] at this
      exact Int.lt_irrefl _ this
    refine ⟨R ++ [((10, mh (k : Int)), ())], ?_, by simp [i1], fun e he => ?_⟩
    · rw [table_Right_l1, if_pos (by rw [tab_len]; omega), tab_get hk, Option.bind_some, right_is (by omega) hb, Option.bind_some, if_neg (by decide)]
      have ha : (if 0 < (k : Int) then (ix (tab row) (w64 ((k : Int) - 1))).bind fun x7 => some (rule_Ahead (rl (k : Int) (row.getD k 0)) x7) else some false) = some false := by
        by_cases c : 0 < k
        · rw [if_pos (by omega), show w64 ((k : Int) - 1) = ((k - 1 : Nat) : Int) by rw [w64_id (by omega)]; omega, tab_get (by omega), Option.bind_some]; rfl
        · rw [if_neg (by omega)]
      rw [ha, Option.bind_some, if_neg (by decide), w64_id (by omega)]
      show some (Sum.inl (_, mput R ((10, mh (k : Int)) : Int × Mh) ())) = _
      rw [hnew]; rfl
    · rcases List.mem_append.1 he with he | he
      · have := i2 e he; omega
      · rw [List.mem_singleton.1 he]; show (k : Int) < _; omega) (fun R _ => by rw [table_Right_l1, if_neg (by rw [tab_len]; omega)]) [] ⟨rfl, fun e he => by cases he⟩
  unfold table_Right
  rw [if_neg (by rw [tab_len]; omega), show loopW (table_Right_l1 (tab row) 8) (0, []) = some (.inl R) from h2]
  show some (decide ((R.length : Int) = ((tab row).length : Int))) = some true
  rw [h1.1, tab_len, decide_eq_true rfl]
theorem pright_is (p : Pk) : ∃ b, r07_Right p = some b ∧ (b = true → 0 ≤ p.2.1 ∧ p.2.1 ≤ 255) := by
  have step : ∀ (f x : Int), f < 4 → 0 ≤ f → ix ([p.1, p.2.1, p.2.2.1, p.2.2.2] : List Int) f = some x → r07_Right_l1 p f = if x < 0 ∨ r07_Top f < x then some (.inr (.inr false)) else some (.inl (f + 1)) := fun f x h1 h2 hx => by
    rw [r07_Right_l1, if_pos h1, hx, Option.bind_some]
    by_cases c : x < 0
    · rw [if_pos c, if_pos (.inl c), Option.bind_some, if_pos rfl]
    · rw [if_neg c, Option.bind_some, Option.bind_some]
      by_cases d : r07_Top f < x
      · rw [if_pos (decide_eq_true d), if_pos (.inr d)]
      · rw [if_neg (by rw [decide_eq_false d]; decide), if_neg (by omega), w64_id (by omega)]
  have s0 := step 0 p.1 (by decide) (by decide) rfl
  have s1 := step 1 p.2.1 (by decide) (by decide) rfl
  have s2 := step 2 p.2.2.1 (by decide) (by decide) rfl
  have s3 := step 3 p.2.2.2 (by decide) (by decide) rfl
  have s4 : r07_Right_l1 p 4 = some (.inr (.inl ())) := by rw [r07_Right_l1, if_neg (by decide)]
  have ht : r07_Top 1 = 255 := by decide
  unfold r07_Right
  by_cases c0 : p.1 < 0 ∨ r07_Top 0 < p.1
  · rw [if_pos c0] at s0
    rw [loopW_end s0]; exact ⟨_, rfl, fun h => by cases h⟩
  · rw [if_neg c0] at s0
    rw [loopW_go s0]
    by_cases c1 : p.2.1 < 0 ∨ r07_Top 1 < p.2.1
    · rw [if_pos c1] at s1
      rw [show (0 : Int) + 1 = 1 from rfl, loopW_end s1]; exact ⟨_, rfl, fun h => by cases h⟩
    · rw [if_neg c1] at s1
      have hb : 0 ≤ p.2.1 ∧ p.2.1 ≤ 255 := by rw [ht] at c1; omega
      rw [show (0 : Int) + 1 = 1 from rfl, loopW_go s1]
      by_cases c2 : p.2.2.1 < 0 ∨ r07_Top 2 < p.2.2.1
      · rw [if_pos c2] at s2
        rw [show (1 : Int) + 1 = 2 from rfl, loopW_end s2]; exact ⟨_, rfl, fun _ => hb⟩
      · rw [if_neg c2] at s2
        rw [show (1 : Int) + 1 = 2 from rfl, loopW_go s2]
        by_cases c3 : p.2.2.2 < 0 ∨ r07_Top 3 < p.2.2.2
        · rw [if_pos c3] at s3
          rw [show (2 : Int) + 1 = 3 from rfl, loopW_end s3]; exact ⟨_, rfl, fun _ => hb⟩
        · rw [if_neg c3] at s3
          rw [show (2 : Int) + 1 = 3 from rfl, loopW_go s3, show (3 : Int) + 1 = 4 from rfl, loopW_end s4]; exact ⟨_, rfl, fun _ => hb⟩
theorem RouteTables_core (p0 : Tp) (p1 : Rt) (hl : p1.length ≤ 9223372036854775807) (p2 p3 : Int) (p4 : Pk) : L21_RouteTables p0 p1 p2 p3 p4 = some true := by
  unfold L21_RouteTables
  rw [small21 p0 p1 hl, Option.bind_some, awake21]
  by_cases c0 : (∀ row ∈ p1, row.length ≤ 12) ∧ p0.2.1.length ≤ 30 ∧ p0.2.2.length ≤ 12 ∧ p1.length ≤ 12
  · rw [decide_eq_true c0, if_neg (by decide)]
    have hr := c0.2.2.2
    have hw : ∀ row ∈ p1, row.length ≤ 1000000000 := fun row hm => by have := c0.1 row hm; omega
    rw [rright21 hr hw, Option.bind_some]
    by_cases c1 : RtOk p0 p1
    · rw [decide_eq_true c1, if_neg (by decide)]
      by_cases c2 : p2 < 0
      · rw [if_pos c2]; rfl
      · rw [if_neg c2]
        by_cases c3 : (p1.length : Int) ≤ p2
        · rw [if_pos c3]; rfl
        · rw [if_neg c3]
          obtain ⟨b, e, hb⟩ := pright_is p4
          rw [e, Option.bind_some, Option.bind_some]
          cases b with
          | false => rfl
          | true =>
            have hp := hb rfl
            rw [if_neg (by decide)]
            have hlen := c1.2.1
            have h8 := c1.1.1
            obtain ⟨row, a1, a2, a3, a4⟩ := c1.row (sw := p2) (by omega)
            have hrl : row.length ≤ 8 := by omega
            rw [table_is (by omega) a1 hrl, Option.bind_some, run_is hp hrl, Option.bind_some]
            by_cases c4 : (p0.2.2.length : Int) ≤ p4.2.1
            · rw [if_pos c4, if_neg (show ¬ p4.2.1 < (row.length : Int) by omega), if_pos (by rfl)]; rfl
            · rw [if_neg c4, tright_is hrl a4.1, Option.bind_some, if_pos rfl, if_pos (show p4.2.1 < (row.length : Int) by omega)]
              have hg : ix row p4.2.1 = some (row.getD p4.2.1.toNat 0) := by
                have hk : p4.2.1.toNat < row.length := by omega
                have := ix_nat (l := row) (List.getElem?_eq_getElem hk)
                rw [show ((p4.2.1.toNat : Nat) : Int) = p4.2.1 by omega] at this
                rw [this, List.getD_eq_getElem?_getD, List.getElem?_eq_getElem hk]; rfl
              rw [if_pos (by rfl), a1, show ix [(row.getD p4.2.1.toNat 0, p4)] 0 = some (row.getD p4.2.1.toNat 0, p4) from rfl, Option.bind_some, Option.bind_some, hg, Option.bind_some, if_pos ⟨rfl, rfl, rfl, rfl, rfl⟩]; rfl
    · rw [decide_eq_false c1, if_pos (by decide)]; rfl
  · rw [decide_eq_false c0, if_pos (by decide)]; rfl
theorem RouteTables_true (p0 : Tp) {A : Prop} (_ : A) (p1 : Rt) (ok1 : okL (okL (fun n => (Lit.int .i64 n).wf = true)) p1) (p2 : Int) {B : Prop} (_ : B) (p3 : Int) {C : Prop} (_ : C) (p4 : Pk) {D : Prop} (_ : D) : L21_RouteTables p0 p1 p2 p3 p4 = some true := RouteTables_core p0 p1 ok1.1 p2 p3 p4
end Go.Proofs.Ytleakbjojbiomaa
