/- Layer 9: texts, bytes. Conditions: none. -/
import Derived.Test.YtefiglmpdajonaaDoorM09
namespace Go.Proofs.YtefiglmpdajonaaDoor
set_option linter.unusedVariables false
set_option linter.unusedSimpArgs false
open Go Go.RowKit
theorem num_byte (b : UInt8) (t : List UInt8) (ht : t.length ≤ 900000) : octet_Reader_Num (b :: t, 0) 1 = some ((b.toNat : Int), (t, 0)) := by
  rw [rnumR_eq _ _ (by simp; omega), preN_ok (by decide), show ((b :: t, 0) : List UInt8 × Int) = ([b] ++ t, 0) from rfl, takeR_app [b] t 1 rfl, val_one, w64_id (by have := b.toNat_lt; omega)]
theorem be1_byte {v : Int} (h : By v) : ∃ x : UInt8, be 1 v = [x] ∧ (x.toNat : Int) = v := by
  have h1 := h.1
  have h2 := h.2
  refine ⟨UInt8.ofNat (v % 256).toNat, rfl, ?_⟩
  rw [UInt8.toNat_ofNat_of_lt' (by show (v % 256).toNat < 256; omega)]; omega
theorem rtextA_step {ports : Int} (hp : ports ≤ 256) {l : List A3} (h : OkAs ports l) {k : Nat} (hk : k < l.length) (s : List UInt8) (hs : s.length ≤ 1000) : r09_Text_l1 l (s, (k : Int)) = some (.inl (s ++ ([44, 32] ++ wordA l[k]), ((k + 1 : Nat) : Int))) := by
  have ho := h.2 _ (List.getElem_mem hk)
  have hl := h.1
  obtain ⟨b1, b2, b3⟩ := oka_by hp ho
  have hd := d3_len l[k].2.2.toNat
  have hn := nameF_len l[k].2.1.toNat
  rw [r09_Text_l1, if_pos (by omega), ix_nat (List.getElem?_eq_getElem hk), w64_id (by omega)]
  simp only [Option.bind_some]
  rw [digits_d3 b3]
  simp only [Option.bind_some]
  unfold wordA
  rcases ho with ⟨h1, h2, h3⟩ | ⟨h1, h2, h3, h4⟩ | ⟨h1, h2, h3⟩
  · have hix : ix ([([115, 114, 99, 32] : List UInt8), ([100, 115, 116, 32] : List UInt8), ([107, 105, 110, 100, 32] : List UInt8), ([116, 97, 103, 32] : List UInt8)] : List (List UInt8)) l[k].2.1 = some (nameA l[k].2.1 ++ [32]) := by
      have : l[k].2.1 = 0 ∨ l[k].2.1 = 1 ∨ l[k].2.1 = 2 ∨ l[k].2.1 = 3 := by omega
      rcases this with e | e | e | e <;> rw [e] <;> rfl
    have hna : (nameA l[k].2.1).length ≤ 4 := hn
    rw [if_pos h1, if_pos h1, hix, app_is (by simp; omega)]
    simp only [Option.bind_some]
    rw [app_is (by simp; omega)]
    simp only [Option.bind_some]
    rw [app_is (by simp; omega)]
    simp
  · rw [if_neg (by omega), if_neg (by omega), if_neg (by omega), if_pos h1, app_is (by simp; omega)]
    simp only [Option.bind_some]
    rw [app_is (by simp; omega)]
    simp
  · rw [if_neg (by omega), if_pos h1, if_neg (by omega), if_neg (by omega), app_is (by simp; omega)]
    simp
theorem racttexts_eq {ports : Int} (hp : ports ≤ 256) {l : List A3} (h : OkAs ports l) : r09_Text l = some (textA l) := by
  have hl := h.1
  obtain ⟨s, h1, h2⟩ := loop_cnt l.length (fun (s : List UInt8) (k : Nat) => (s, (k : Int))) (r09_Text_l1 l) id (fun s k => s = Lib.joinTail [44, 32] ((l.take k).map wordA))
    (fun s k hk hI => by
      have hlen : s.length ≤ 1000 := by
        rw [hI]
        have := tailA_len (l.take k)
        rw [List.length_take] at this; omega
      refine ⟨_, rtextA_step hp h hk s hlen, ?_⟩
      rw [hI, List.take_succ_eq_append_getElem hk, List.map_append, joinTail_app]
      simp [Lib.joinTail])
    (fun s _ => by rw [r09_Text_l1, if_neg (by omega)]; rfl) [] (by simp [Lib.joinTail])
  have e : loopW (r09_Text_l1 l) (([] : List UInt8), 0) = some s := h2
  rw [List.take_length] at h1
  unfold r09_Text textA
  rw [e, Option.bind_some, h1]
  by_cases c : l = []
  · subst c; rfl
  · have hj := join_tail (l := l.map wordA) (by simpa using c)
    have ht := tailA_len l
    rw [if_neg c, hj, if_neg (by simp), subl_is (by simp; omega), Int.toNat_natCast, List.take_of_length_le (Nat.le_refl _)]
    rfl
def byte3 (a : A3) : List UInt8 := be 1 a.1 ++ be 1 a.2.1 ++ be 1 a.2.2
def codeA (l : List A3) : List UInt8 := be 1 (l.length : Int) ++ (l.map byte3).flatten
theorem byte3_len (a : A3) : (byte3 a).length = 3 := by simp [byte3, be]
theorem flat_len (l : List A3) : ((l.map byte3).flatten).length = 3 * l.length := by
  induction l with
  | nil => rfl
  | cons a l ih => simp [byte3_len, ih]; omega
theorem actcode_eq {ports : Int} (hp : ports ≤ 256) {l : List A3} (h : OkAs ports l) : act_Code l = some (codeA l) := by
  have hl := h.1
  obtain ⟨s, h1, h2⟩ := loop_cnt l.length (fun (s : List UInt8) (k : Nat) => ((k : Int), s)) (act_Code_l1 l) id (fun s k => s = be 1 (l.length : Int) ++ ((l.take k).map byte3).flatten)
    (fun s k hk hI => by
      obtain ⟨b1, b2, b3⟩ := oka_by hp (h.2 _ (List.getElem_mem hk))
      have hlen : s.length ≤ 100 := by
        rw [hI, List.length_append, flat_len, List.length_take]
        simp [be]; omega
      refine ⟨s ++ byte3 l[k], ?_, ?_⟩
      · rw [act_Code_l1, if_pos (by omega), ix_nat (List.getElem?_eq_getElem hk), Option.bind_some, num_eq, Option.bind_some, num_eq, Option.bind_some, num_eq, num1 b1, num1 b2, num1 b3, app_is (by simp [be]), Option.bind_some, Option.bind_some, app_is (by simp [be]), Option.bind_some, app_is (by simp [be]; omega), Option.bind_some, w64_id (by omega)]; rfl
      · rw [hI, List.take_succ_eq_append_getElem hk, List.map_append, List.flatten_append]
        simp)
    (fun s _ => by rw [act_Code_l1, if_neg (by omega)]; rfl) (be 1 (l.length : Int)) (by simp)
  have e : loopW (act_Code_l1 l) (0, be 1 (l.length : Int)) = some s := h2
  rw [List.take_length] at h1
  unfold act_Code codeA
  rw [num_eq, Option.bind_some, num1 (by constructor <;> omega), app_is (by simp [be]), Option.bind_some, List.nil_append, e, Option.bind_some, lenB_is (by rw [h1, List.length_append, flat_len]; simp [be]; omega), h1]; rfl
theorem ractcode_eq {ports : Int} (hp : ports ≤ 256) {l : List A3} (h : OkAs ports l) : r09_Code l = some (codeA l) := by
  have hl := h.1
  obtain ⟨s, h1, h2⟩ := loop_cnt l.length (fun (s : List UInt8) (k : Nat) => (s, (k : Int))) (r09_Code_l1 l) id (fun s k => s = be 1 (l.length : Int) ++ ((l.take k).map byte3).flatten)
    (fun s k hk hI => by
      obtain ⟨b1, b2, b3⟩ := oka_by hp (h.2 _ (List.getElem_mem hk))
      have c1 := b1.2
      have c2 := b2.2
      have c3 := b3.2
      have hlen : s.length ≤ 100 := by
        rw [hI, List.length_append, flat_len, List.length_take]
        simp [be]; omega
      refine ⟨s ++ byte3 l[k], ?_, ?_⟩
      · rw [r09_Code_l1, if_pos (by omega), ix_nat (List.getElem?_eq_getElem hk)]
        simp only [Option.bind_some]
        rw [rnum_eq _ _ (by omega), rnum_eq _ _ (by omega), rnum_eq _ _ (by omega), num1 b1, num1 b2, num1 b3]
        simp only [Option.bind_some]
        rw [app_is (by simp [be]; omega)]
        simp only [Option.bind_some]
        rw [app_is (by simp [be]; omega)]
        simp only [Option.bind_some]
        rw [app_is (by simp [be]; omega), Option.bind_some, w64_id (by omega)]
        simp [byte3]
      · rw [hI, List.take_succ_eq_append_getElem hk, List.map_append, List.flatten_append]
        simp)
    (fun s _ => by rw [r09_Code_l1, if_neg (by omega)]; rfl) (be 1 (l.length : Int)) (by simp)
  have e : loopW (r09_Code_l1 l) (be 1 (l.length : Int), 0) = some s := h2
  rw [List.take_length] at h1
  unfold r09_Code codeA
  rw [rnum_eq _ _ (by omega), Option.bind_some, num1 (by constructor <;> omega), e, h1]; rfl
theorem codeA_len {ports : Int} {l : List A3} (h : OkAs ports l) : (codeA l).length ≤ 49 := by
  have := h.1
  unfold codeA
  rw [List.length_append, flat_len]
  simp [be]; omega
/-! ### Searches -/
def Wr (f : Int) (a : A3) : Prop := a.1 = 1 ∧ a.2.1 = f
instance (f : Int) : DecidablePred (Wr f) := fun a => inferInstanceAs (Decidable (a.1 = 1 ∧ a.2.1 = f))
theorem writes_eq {l : List A3} (hl : l.length ≤ 1000) (f : Int) : act_Writes l f = some (decide (∃ a ∈ l, Wr f a)) := by
  unfold act_Writes
  rw [search_in l (by omega) (act_Writes_l1 l f) (Wr f) true (fun k hk => by
    rw [act_Writes_l1, if_pos (by omega), ix_nat (List.getElem?_eq_getElem hk), Option.bind_some]
    by_cases c : Wr f l[k]
    · rw [if_pos c, if_pos (by rw [← Bool.decide_and]; exact decide_eq_true c)]
    · rw [if_neg c, if_neg (fun h => c (of_decide_eq_true (by rw [← Bool.decide_and] at h; exact h)))]) (by rw [act_Writes_l1, if_neg (by omega)])]
  by_cases h : ∃ a ∈ l, Wr f a
  · rw [if_pos h, decide_eq_true h]; rfl
  · rw [if_neg h, decide_eq_false h]; rfl
theorem foldl_or {α : Type} (p : α → Prop) [DecidablePred p] : ∀ (l : List α) (b : Bool), l.foldl (fun s a => s || decide (p a)) b = (b || decide (∃ a ∈ l, p a))
  | [], b => by simp
  | a :: l, b => by
    rw [List.foldl_cons, foldl_or p l, Bool.or_assoc]
    congr 1
    simp
theorem wrote_eq {l : List A3} (hl : l.length ≤ 1000) (f : Int) : loopW (L09_ActTells_l1 l f) (false, 0) = some (decide (∃ a ∈ l, Wr f a)) := by
  have := (loop_flist l (fun (s : Bool) (k : Nat) => (s, (k : Int))) (fun s a => s || decide (Wr f a)) (L09_ActTells_l1 l f) id (fun _ _ => True) false trivial
    (fun s k hk _ => ⟨by
      have hx := ix_nat (List.getElem?_eq_getElem hk)
      rw [L09_ActTells_l1, if_pos (by omega), hx, w64_id (by omega)]
      cases s with
      | true => rfl
      | false =>
        rw [if_neg (by decide), Option.bind_some]
        by_cases c1 : l[k].1 = 1
        · rw [if_pos c1, Option.bind_some]
          congr 3
          simp [Wr, c1]
        · rw [if_neg c1]
          congr 3
          simp [Wr, c1], trivial⟩) (fun s => by rw [L09_ActTells_l1, if_neg (by omega)]; rfl)).1
  rw [show ((false, 0) : Bool × Int) = (false, ((0 : Nat) : Int)) from rfl, this, foldl_or]
  simp
/-! ### Ports -/
def oA (l : List A3) : List Int := (l.filter fun a => decide (a.1 = 2)).map (·.2.2)
theorem oA_snoc (l : List A3) (a : A3) : oA (l ++ [a]) = if a.1 = 2 then oA l ++ [a.2.2] else oA l := by
  unfold oA
  rw [List.filter_append, List.map_append]
  by_cases c : a.1 = 2
  · rw [if_pos c]; simp [c]
  · rw [if_neg c]; simp [c]
theorem oA_len (l : List A3) : (oA l).length ≤ l.length := by unfold oA; rw [List.length_map]; exact List.length_filter_le _ _
theorem outs_eq {l : List A3} (hl : l.length ≤ 1000) : act_Outs l = some (oA l) := by
  obtain ⟨s, h1, h2⟩ := loop_cnt l.length (fun (s : List Int) (k : Nat) => (s, (k : Int))) (act_Outs_l1 l) id (fun s k => s = oA (l.take k)) (fun s k hk hI => by
    subst hI
    refine ⟨oA (l.take (k + 1)), ?_, rfl⟩
    have hn := oA_len (l.take k)
    rw [List.length_take] at hn
    rw [act_Outs_l1, if_pos (by omega), ix_nat (List.getElem?_eq_getElem hk), Option.bind_some, w64_id (by omega), List.take_succ_eq_append_getElem hk, oA_snoc]
    by_cases c : l[k].1 = 2
    · rw [if_pos c, if_pos c, app_is (by simp; omega)]; rfl
    · rw [if_neg c, if_neg c]; rfl) (fun s _ => by rw [act_Outs_l1, if_neg (by omega)]; rfl) [] rfl
  unfold act_Outs
  rw [show (([], 0) : List Int × Int) = ([], ((0 : Nat) : Int)) from rfl, h2, h1, List.take_length]; rfl
theorem ints_eq {l : List A3} (hl : l.length ≤ 1000) : L09_ints (oA l) l = some true := by
  have hn := oA_len l
  obtain ⟨s, h1, h2⟩ := loop_cnt l.length (fun (s : Nat) (k : Nat) => ((s : Int), (k : Int))) (L09_ints_l1 (oA l) l) (fun s => (.inl (s : Int) : Int ⊕ Bool)) (fun s k => s = (oA (l.take k)).length) (fun s k hk hI => by
    subst hI
    refine ⟨(oA (l.take (k + 1))).length, ?_, rfl⟩
    have hx := ix_nat (List.getElem?_eq_getElem hk)
    have hn := oA_len (l.take k)
    rw [List.length_take] at hn
    rw [L09_ints_l1, if_pos (by omega), hx, Option.bind_some, List.take_succ_eq_append_getElem hk, oA_snoc]
    by_cases c : l[k].1 = 2
    · have e : oA l = oA (l.take k) ++ (l[k].2.2 :: oA (l.drop (k + 1))) := by
        have : l = l.take k ++ (l[k] :: l.drop (k + 1)) := by rw [← List.drop_eq_getElem_cons hk, List.take_append_drop]
        refine (congrArg oA this).trans ?_
        unfold oA
        rw [List.filter_append, List.map_append]
        congr 1
        rw [List.filter_cons_of_pos (by simpa using c)]; rfl
      have hlen : (oA (l.take k)).length < (oA l).length := by rw [e]; simp
      have hget : ix (oA l) ((oA (l.take k)).length : Int) = some l[k].2.2 := ix_nat (by rw [e]; simp)
      rw [if_pos c, if_pos c, if_neg (by omega), hget, Option.bind_some, Option.bind_some, Option.bind_some, if_neg (by simp), orR_inl, w64_id (by omega), w64_id (by omega)]
      simp
    · rw [if_neg c, if_neg c, orR_inl, w64_id (by omega)]; rfl) (fun s _ => by rw [L09_ints_l1, if_neg (by omega)]) 0 rfl
  unfold L09_ints
  have h2' : loopW (L09_ints_l1 (oA l) l) (0, 0) = some (.inl (s : Int)) := h2
  rw [h2', orR_inl, h1, List.take_length, decide_eq_true rfl]
/-! ### The document's folding -/
theorem seen_from (l : List A3) (hl : l.length ≤ 1000) (i : Nat) (hi : i < l.length) : ∀ (d k : Nat), k + d = l.length → orR (loopW (r09_seen_l1 l (i : Int)) (k : Int)) (fun _ => some false) = some (!un (l.drop k) l[i].2.1) := by
  have hxi := ix_nat (List.getElem?_eq_getElem hi)
  intro d
  induction d with
  | zero =>
    intro k hk
    rw [loopW_end (e := .inl ()) (by rw [r09_seen_l1, if_neg (by omega)]), List.drop_eq_nil_of_le (by omega)]; rfl
  | succ d ih =>
    intro k hk
    have hkl : k < l.length := by omega
    have hx := ix_nat (List.getElem?_eq_getElem hkl)
    rw [List.drop_eq_getElem_cons hkl, un_cons]
    by_cases c2 : l[k].1 = 2
    · rw [if_pos c2, loopW_end (e := .inr true) (by rw [r09_seen_l1, if_pos (by omega), hx, Option.bind_some, if_pos c2])]; rfl
    · rw [if_neg c2]
      by_cases c3 : l[k].1 = 3
      · rw [if_pos c3, loopW_end (e := .inr false) (by rw [r09_seen_l1, if_pos (by omega), hx, Option.bind_some, if_neg c2, Option.bind_some, if_pos c3]; rfl)]; rfl
      · rw [if_neg c3]
        by_cases c1 : l[k].1 = 1 ∧ l[k].2.1 = l[i].2.1
        · rw [if_pos c1, loopW_end (e := .inr false) (by rw [r09_seen_l1, if_pos (by omega), hx, hxi, Option.bind_some, if_neg c2, Option.bind_some, if_neg c3, Option.bind_some, if_pos c1.1, Option.bind_some, Option.bind_some, decide_eq_true c1.2]; rfl)]; rfl
        · rw [if_neg c1, ← ih (k + 1) (by omega), loopW_go (s' := ((k + 1 : Nat) : Int)) (by
            rw [r09_seen_l1, if_pos (by omega), hx, hxi, Option.bind_some, if_neg c2, Option.bind_some, if_neg c3, Option.bind_some, w64_id (by omega)]
            by_cases k1 : l[k].1 = 1
            · rw [if_pos k1, Option.bind_some, Option.bind_some, decide_eq_false (fun h => c1 ⟨k1, h⟩)]; rfl
            · rw [if_neg k1]; rfl)]
theorem seen_eq (l : List A3) (hl : l.length ≤ 1000) (i : Nat) (hi : i < l.length) : r09_seen l (i : Int) = some (!un (l.drop (i + 1)) l[i].2.1) := by
  unfold r09_seen
  rw [w64_id (by omega)]
  exact seen_from l hl i hi (l.length - (i + 1)) (i + 1) (by omega)
theorem rfold_eq {l : List A3} (hl : l.length ≤ 1000) : r09_Fold l = some (foldS l) := by
  obtain ⟨s, h1, h2⟩ := loop_cnt l.length (fun (s : List A3) (k : Nat) => (s, (k : Int))) (r09_Fold_l1 l) id (fun s k => s ++ foldS (l.drop k) = foldS l ∧ s.length ≤ k) (fun s k hk ⟨hI, hL⟩ => by
    have hx := ix_nat (List.getElem?_eq_getElem hk)
    rw [List.drop_eq_getElem_cons hk, foldS_cons] at hI
    rw [r09_Fold_l1, if_pos (by omega), hx, Option.bind_some, w64_id (by omega), seen_eq l hl k hk]
    by_cases c : l[k].1 = 1 ∧ un (l.drop (k + 1)) l[k].2.1 = true
    · rw [if_pos c] at hI
      refine ⟨s, ?_, hI, by omega⟩
      rw [if_neg (fun h => h c.1), Option.bind_some, Option.bind_some, c.2, if_neg (by decide)]; rfl
    · rw [if_neg c] at hI
      refine ⟨s ++ [l[k]], ?_, by rw [List.append_assoc]; exact hI, by simp; omega⟩
      by_cases k1 : l[k].1 = 1
      · have hu : un (l.drop (k + 1)) l[k].2.1 = false := by simpa [k1] using c
        rw [if_neg (fun h => h k1), Option.bind_some, Option.bind_some, hu, if_pos (by decide), Option.bind_some, app_is (by simp; omega)]; rfl
      · rw [if_pos k1, Option.bind_some, if_pos rfl, Option.bind_some, app_is (by simp; omega)]; rfl) (fun s _ => by rw [r09_Fold_l1, if_neg (by omega)]; rfl) [] ⟨rfl, Nat.zero_le _⟩
  unfold r09_Fold
  rw [show (([], 0) : List A3 × Int) = ([], ((0 : Nat) : Int)) from rfl, h2]
  have h3 := h1.1
  rw [List.drop_eq_nil_of_le (Nat.le_refl _)] at h3
  rw [← h3]
  simp [foldS]
theorem ActTells_core (l : List A3) (ports : Int) (p : P4) (f : Int) : L09_ActTells l ports p f = some true := by
  unfold L09_ActTells
  rw [awake09]
  by_cases hl : 20 < (l.length : Int)
  · rw [if_pos hl]; rfl
  · rw [if_neg hl]
    have hl : l.length ≤ 20 := by omega
    have r1 := run_eq (l := l) (by omega) p
    rw [wrote_eq (by omega), Option.bind_some, acts_eq, racts_eq (by omega), r1.1, rrun_eq (by omega)]
    simp only [Option.bind_some]
    rw [if_neg (by simp), rsent_eq (by omega), decide_eq_true rfl]
    simp only [Option.bind_some]
    rw [if_neg (by decide), outs_eq (by omega), Option.bind_some, ints_eq (by omega), Option.bind_some, if_neg (by decide), writes_eq (by omega)]
    simp only [Option.bind_some]
    rw [decide_eq_false (by simp), if_neg (by decide)]
    by_cases h : OkAs ports l
    · rw [decide_eq_true h, if_neg (by decide), Option.bind_some]
      by_cases hp : 256 < ports
      · rw [decide_eq_true hp]; rfl
      · rw [decide_eq_false hp, if_neg (by decide), fold_eq h, rfold_eq (by omega)]
        have hf := foldS_len l
        simp only [Option.bind_some]
        rw [rsame_eq (by omega), decide_eq_true rfl, Option.bind_some, if_pos rfl, actcode_eq (by omega) h, ractcode_eq (by omega) h]
        simp only [Option.bind_some, if_true]
        rw [acttexts_eq (by omega) h, racttexts_eq (by omega) h]
        simp
    · rw [decide_eq_false h]; rfl
abbrev W64 : Int → Prop := fun n => (Lit.int .i64 n).wf = true
theorem ActTells_true (l : List A3) {A : Prop} (_ : A) (ports : Int) {B : Prop} (_ : B) (p : P4) {C : Prop} (_ : C) (f : Int) {D : Prop} (_ : D) : L09_ActTells l ports p f = some true := ActTells_core l ports p f
theorem ActFolds_true (l : List A3) (ok : okL (okP W64 (okP W64 W64)) l) (ports : Int) {B : Prop} (_ : B) (p : P4) {C : Prop} (_ : C) : L09_ActFolds l ports p = some true := ActFolds_core l ok.1 ports p
end Go.Proofs.YtefiglmpdajonaaDoor
