/- Layer 10: texts and bytes. Conditions: none. -/
import Derived.Test.YteeioghoidjbpaaDoorM10
namespace Go.Proofs.YteeioghoidjbpaaDoor
set_option linter.unusedVariables false
set_option linter.unusedSimpArgs false
open Go Go.RowKit
/-! ### Texts of the reference -/
theorem rtextA_step {ports : Int} (hp : ports ≤ 256) {l : List A3} (h : OkAs ports l) {k : Nat} (hk : k < l.length) (s : List UInt8) (hs : s.length ≤ 1000) : r09_Text_l1 l (s, (k : Int)) = some (.inl (s ++ ([44, 32] ++ wordA l[k]), ((k + 1 : Nat) : Int))) := by
  have ho := h.2 _ (List.getElem_mem hk)
  have hl := h.1
  obtain ⟨b1, b2, b3⟩ := oka_by hp ho
  have hd := d3_len l[k].2.2.toNat
  have hn := nameF_len l[k].2.1.toNat
  rw [r09_Text_l1, if_pos (by omega), ix_nat (List.getElem?_eq_getElem hk), w64_id (by omega)]
  simp only [Option.bind_some]
  rw [digits_d3 b3]
  simp only [Option.bind_some]
  unfold wordA
  rcases ho with ⟨h1, h2, h3⟩ | ⟨h1, h2, h3, h4⟩ | ⟨h1, h2, h3⟩
  · have hix : ix ([([115, 114, 99, 32] : List UInt8), ([100, 115, 116, 32] : List UInt8), ([107, 105, 110, 100, 32] : List UInt8), ([116, 97, 103, 32] : List UInt8)] : List (List UInt8)) l[k].2.1 = some (nameA l[k].2.1 ++ [32]) := by
      have : l[k].2.1 = 0 ∨ l[k].2.1 = 1 ∨ l[k].2.1 = 2 ∨ l[k].2.1 = 3 := by omega
      rcases this with e | e | e | e <;> rw [e] <;> rfl
    have hna : (nameA l[k].2.1).length ≤ 4 := hn
    rw [if_pos h1, if_pos h1, hix, app_is (by simp; omega)]
    simp only [Option.bind_some]
    rw [app_is (by simp; omega)]
    simp only [Option.bind_some]
    rw [app_is (by simp; omega)]
    simp
  · rw [if_neg (by omega), if_neg (by omega), if_neg (by omega), if_pos h1, app_is (by simp; omega)]
    simp only [Option.bind_some]
    rw [app_is (by simp; omega)]
    simp
  · rw [if_neg (by omega), if_pos h1, if_neg (by omega), if_neg (by omega), app_is (by simp; omega)]
    simp
theorem racttexts_eq {ports : Int} (hp : ports ≤ 256) {l : List A3} (h : OkAs ports l) : r09_Text l = some (textA l) := by
  have hl := h.1
  obtain ⟨s, h1, h2⟩ := loop_cnt l.length (fun (s : List UInt8) (k : Nat) => (s, (k : Int))) (r09_Text_l1 l) id (fun s k => s = Lib.joinTail [44, 32] ((l.take k).map wordA))
    (fun s k hk hI => by
      have hlen : s.length ≤ 1000 := by
        rw [hI]
        have := tailA_len (l.take k)
        rw [List.length_take] at this; omega
      refine ⟨_, rtextA_step hp h hk s hlen, ?_⟩
      rw [hI, List.take_succ_eq_append_getElem hk, List.map_append, joinTail_app]
      simp [Lib.joinTail])
    (fun s _ => by rw [r09_Text_l1, if_neg (by omega)]; rfl) [] (by simp [Lib.joinTail])
  have e : loopW (r09_Text_l1 l) (([] : List UInt8), 0) = some s := h2
  rw [List.take_length] at h1
  unfold r09_Text textA
  rw [e, Option.bind_some, h1]
  by_cases c : l = []
  · subst c; rfl
  · have hj := join_tail (l := l.map wordA) (by simpa using c)
    have ht := tailA_len l
    rw [if_neg c, hj, if_neg (by simp), subl_is (by simp; omega), Int.toNat_natCast, List.take_of_length_le (Nat.le_refl _)]
    rfl
theorem rruletext_eq {ports : Int} (hp : ports ≤ 256) {x : Rl} (h : OkR ports x) : r10_Text x = some (ruleT x) := by
  have h1 := h.1
  have hi : i64 x.1 := by constructor <;> omega
  have l1 := itoa_len hi
  have l2 := textM_len x.2.1
  have l3 := textA_len h.2.2
  unfold r10_Text ruleT
  rw [digits_eq hi, Option.bind_some, app_is (by simp; omega), Option.bind_some, rtext_eq8 h.2.1, Option.bind_some, app_is (by simp; omega), Option.bind_some, app_is (by simp; omega), Option.bind_some, racttexts_eq hp h.2.2, Option.bind_some, app_is (by simp; omega)]; rfl
/-! ### Bytes -/
def byte3 (a : A3) : List UInt8 := be 1 a.1 ++ be 1 a.2.1 ++ be 1 a.2.2
def codeA (l : List A3) : List UInt8 := be 1 (l.length : Int) ++ (l.map byte3).flatten
theorem byte3_len (a : A3) : (byte3 a).length = 3 := by simp [byte3, be]
theorem flat_len (l : List A3) : ((l.map byte3).flatten).length = 3 * l.length := by
  induction l with
  | nil => rfl
  | cons a l ih => simp [byte3_len, ih]; omega
theorem actcode_eq {ports : Int} (hp : ports ≤ 256) {l : List A3} (h : OkAs ports l) : act_Code l = some (codeA l) := by
  have hl := h.1
  obtain ⟨s, h1, h2⟩ := loop_cnt l.length (fun (s : List UInt8) (k : Nat) => ((k : Int), s)) (act_Code_l1 l) id (fun s k => s = be 1 (l.length : Int) ++ ((l.take k).map byte3).flatten)
    (fun s k hk hI => by
      obtain ⟨b1, b2, b3⟩ := oka_by hp (h.2 _ (List.getElem_mem hk))
      have hlen : s.length ≤ 100 := by
        rw [hI, List.length_append, flat_len, List.length_take]
        simp [be]; omega
      refine ⟨s ++ byte3 l[k], ?_, ?_⟩
      · rw [act_Code_l1, if_pos (by omega), ix_nat (List.getElem?_eq_getElem hk), Option.bind_some, num_eq, Option.bind_some, num_eq, Option.bind_some, num_eq, num1 b1, num1 b2, num1 b3, app_is (by simp [be]), Option.bind_some, Option.bind_some, app_is (by simp [be]), Option.bind_some, app_is (by simp [be]; omega), Option.bind_some, w64_id (by omega)]; rfl
      · rw [hI, List.take_succ_eq_append_getElem hk, List.map_append, List.flatten_append]
        simp)
    (fun s _ => by rw [act_Code_l1, if_neg (by omega)]; rfl) (be 1 (l.length : Int)) (by simp)
  have e : loopW (act_Code_l1 l) (0, be 1 (l.length : Int)) = some s := h2
  rw [List.take_length] at h1
  unfold act_Code codeA
  rw [num_eq, Option.bind_some, num1 (by constructor <;> omega), app_is (by simp [be]), Option.bind_some, List.nil_append, e, Option.bind_some, lenB_is (by rw [h1, List.length_append, flat_len]; simp [be]; omega), h1]; rfl
theorem ractcode_eq {ports : Int} (hp : ports ≤ 256) {l : List A3} (h : OkAs ports l) : r09_Code l = some (codeA l) := by
  have hl := h.1
  obtain ⟨s, h1, h2⟩ := loop_cnt l.length (fun (s : List UInt8) (k : Nat) => (s, (k : Int))) (r09_Code_l1 l) id (fun s k => s = be 1 (l.length : Int) ++ ((l.take k).map byte3).flatten)
    (fun s k hk hI => by
      obtain ⟨b1, b2, b3⟩ := oka_by hp (h.2 _ (List.getElem_mem hk))
      have c1 := b1.2
      have c2 := b2.2
      have c3 := b3.2
      have hlen : s.length ≤ 100 := by
        rw [hI, List.length_append, flat_len, List.length_take]
        simp [be]; omega
      refine ⟨s ++ byte3 l[k], ?_, ?_⟩
      · rw [r09_Code_l1, if_pos (by omega), ix_nat (List.getElem?_eq_getElem hk)]
        simp only [Option.bind_some]
        rw [rnum_eq _ _ (by omega), rnum_eq _ _ (by omega), rnum_eq _ _ (by omega), num1 b1, num1 b2, num1 b3]
        simp only [Option.bind_some]
        rw [app_is (by simp [be]; omega)]
        simp only [Option.bind_some]
        rw [app_is (by simp [be]; omega)]
        simp only [Option.bind_some]
        rw [app_is (by simp [be]; omega), Option.bind_some, w64_id (by omega)]
        simp [byte3]
      · rw [hI, List.take_succ_eq_append_getElem hk, List.map_append, List.flatten_append]
        simp)
    (fun s _ => by rw [r09_Code_l1, if_neg (by omega)]; rfl) (be 1 (l.length : Int)) (by simp)
  have e : loopW (r09_Code_l1 l) (be 1 (l.length : Int), 0) = some s := h2
  rw [List.take_length] at h1
  unfold r09_Code codeA
  rw [rnum_eq _ _ (by omega), Option.bind_some, num1 (by constructor <;> omega), e, h1]; rfl
theorem num2 {v : Int} (h : 0 ≤ v ∧ v ≤ 65535) : numS v 2 = be 2 v := by
  unfold numS
  rw [if_pos ⟨by decide, by decide, h.1, by show v < 65536; omega⟩]; rfl
def codeR (x : Rl) : List UInt8 := be 2 x.1 ++ codeM x.2.1 ++ codeA x.2.2
theorem codeM_len (m : Mt) : (codeM m).length = 9 := by simp [codeM, be]
theorem codeA_len {ports : Int} {l : List A3} (h : OkAs ports l) : (codeA l).length ≤ 49 := by
  have := h.1
  unfold codeA
  rw [List.length_append, flat_len]
  simp [be]; omega
theorem rulecode_eq {ports : Int} (hp : ports ≤ 256) {x : Rl} (h : OkR ports x) : rule_Code x = some (codeR x) := by
  have l1 := codeM_len x.2.1
  have l2 := codeA_len h.2.2
  unfold rule_Code codeR
  rw [num_eq, Option.bind_some, num2 h.1, code_eq h.2.1, Option.bind_some, app_is (by simp [be]; omega), Option.bind_some, actcode_eq hp h.2.2, Option.bind_some, app_is (by simp [be]; omega)]; rfl
theorem rrulecode_eq {ports : Int} (hp : ports ≤ 256) {x : Rl} (h : OkR ports x) : r10_Code x = some (codeR x) := by
  have l1 := codeM_len x.2.1
  have l2 := codeA_len h.2.2
  have h1 := h.1
  unfold r10_Code codeR
  rw [rnum_eq _ _ (by omega), Option.bind_some, num2 h.1, rcode_eq h.2.1, Option.bind_some, app_is (by simp [be]; omega), Option.bind_some, ractcode_eq hp h.2.2, Option.bind_some, app_is (by simp [be]; omega)]; rfl
theorem RuleTells_core (p0 p1 : Rl) (p2 : Int) (hI : I4 p0.2.1.2.1) : L10_RuleTells p0 p1 p2 = some true := by
  unfold L10_RuleTells
  rw [awake10]
  by_cases hs : p0.2.2.length ≤ 20 ∧ p1.2.2.length ≤ 20
  · have s0 : L10_short p0 = true := decide_eq_true (by have := hs.1; omega)
    have s1 : L10_short p1 = true := decide_eq_true (by have := hs.2; omega)
    have l0 : p0.2.2.length ≤ 9223372036854775807 := by have := hs.1; omega
    have l1 : p1.2.2.length ≤ 9223372036854775807 := by have := hs.2; omega
    rw [s0, s1, if_neg (by decide), rule_eq hI, rrule_eq l0, rrule_eq l1, rulesame_eq l0, rrulesame_eq l0]
    simp only [Option.bind_some]
    have ek : (if rule_Key p0 p1 ≠ (decide (p0.1 = p1.1) && decide (eqM p0.2.1 p1.2.1)) then some true else some (decide ((rule_Ahead p0 p1) ≠ (decide (p1.1 < p0.1))))) = some false := by
      rw [if_neg (fun h => h rfl)]
      congr 1
      exact decide_eq_false (fun h => h rfl)
    have eg : (if decide (OkR p2 p0) ≠ decide (OkR p2 p0) then some true else if decide (EqR p0 p1) ≠ decide (EqR p0 p1) then some true else (if rule_Key p0 p1 ≠ (decide (p0.1 = p1.1) && decide (eqM p0.2.1 p1.2.1)) then some true else some (decide ((rule_Ahead p0 p1) ≠ (decide (p1.1 < p0.1)))))) = some false := by
      rw [if_neg (fun h => h rfl), if_neg (fun h => h rfl), ek]
    refine (congrArg (fun z : Option Bool => z.bind _) eg).trans ?_
    rw [Option.bind_some, if_neg (by decide)]
    by_cases c0 : OkR p2 p0
    · by_cases c1 : OkR p2 p1
      · rw [decide_eq_true c0, if_neg (by decide), decide_eq_true c1, if_neg (by decide), Option.bind_some]
        by_cases c2 : 256 < p2
        · rw [decide_eq_true c2, if_pos rfl]
        · have hp : p2 ≤ 256 := by omega
          rw [decide_eq_false c2, if_neg (by decide), over_eq c0.2.1 c1.2.1, rover_eq c0.2.1 c1.2.1, rulecode_eq hp c0, rrulecode_eq hp c0, ruletext_eq hp c0, rruletext_eq hp c0]
          simp
      · rw [decide_eq_true c0, if_neg (by decide), decide_eq_false c1]; rfl
    · rw [decide_eq_false c0]; rfl
  · have hsh : (!(L10_short p0) || !(L10_short p1)) = true := by
      unfold L10_short
      by_cases h1 : p0.2.2.length ≤ 20
      · have h2 : ¬ p1.2.2.length ≤ 20 := fun h => hs ⟨h1, h⟩
        rw [decide_eq_false (show ¬ (p1.2.2.length : Int) ≤ 20 by omega)]; simp
      · rw [decide_eq_false (show ¬ (p0.2.2.length : Int) ≤ 20 by omega)]; simp
    rw [if_pos hsh]; rfl
abbrev W64 : Int → Prop := fun n => (Lit.int .i64 n).wf = true
abbrev okRl : Rl → Prop := okP W64 (okP (okP W64 (okP (okP W64 (okP W64 (okP W64 W64))) (okP W64 (okP W64 (okP W64 W64))))) (okL (okP W64 (okP W64 W64))))
theorem ok_len {x : Rl} (h : okRl x) : x.2.2.length ≤ 9223372036854775807 := h.2.2.1
theorem ok_i4 {x : Rl} (h : okRl x) : I4 x.2.1.2.1 := ⟨wf_i64 h.2.1.2.1.1, wf_i64 h.2.1.2.1.2.1, wf_i64 h.2.1.2.1.2.2.1, wf_i64 h.2.1.2.1.2.2.2⟩
theorem RuleTells_true (p0 : Rl) (ok0 : okRl p0) (p1 : Rl) (ok1 : okRl p1) (p2 : Int) {A : Prop} (_ : A) : L10_RuleTells p0 p1 p2 = some true := RuleTells_core p0 p1 p2 (ok_i4 ok0)
theorem RuleOverlaps_true (p0 : Rl) (ok0 : okRl p0) (p1 : Rl) (ok1 : okRl p1) (p2 : Int) {A : Prop} (_ : A) : L10_RuleOverlaps p0 p1 p2 = some true := RuleOverlaps_core p0 p1 p2 (ok_len ok0) (ok_len ok1)
end Go.Proofs.YteeioghoidjbpaaDoor
