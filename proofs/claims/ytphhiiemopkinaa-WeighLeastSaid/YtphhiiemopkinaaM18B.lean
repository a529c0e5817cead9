/- Layer 18: least, longer paths, the statements. Conditions: none. -/
import Derived.Test.YtphhiiemopkinaaM18
namespace Go.Proofs.Ytphhiiemopkinaa
set_option linter.unusedVariables false
set_option linter.unusedSimpArgs false
open Go Go.RowKit
/-! ### The least -/
theorem flt_plc {a b : Nat} (ha : W64 a) (hb : W64 b) (h : fLt a b = true) : plc a < plc b := by
  rw [fLt_eq] at h
  obtain ⟨h1, h2, h3⟩ := of_decide_eq_true h
  have ka := key_word ha
  have kb := key_word hb
  have ea : plc a = if 9223372036854775808 ≤ a then 9223372036854775807 - ((a % 9223372036854775808 : Nat) : Int) else 9223372036854775808 + ((a : Nat) : Int) := by unfold plc; rw [cfn_ok h1]
  have eb : plc b = if 9223372036854775808 ≤ b then 9223372036854775807 - ((b % 9223372036854775808 : Nat) : Int) else 9223372036854775808 + ((b : Nat) : Int) := by unfold plc; rw [cfn_ok h2]
  unfold W64 at ha hb
  rw [ea, eb]
  rcases ka with ⟨a1, a2, _⟩ | ⟨a1, a2, _⟩ <;> rcases kb with ⟨b1, b2, _⟩ | ⟨b1, b2, _⟩
  · rw [if_neg (by omega), if_neg (by omega)]; omega
  · rw [if_neg (by omega), if_pos (by omega)]; omega
  · rw [if_pos (by omega), if_neg (by omega)]; omega
  · rw [if_pos (by omega), if_pos (by omega)]; omega
def cst (L : List Nat) (ws : List (List Int)) (j : Nat) : Nat := valW L (ws.getD j [])
def bst (L : List Nat) (ws : List (List Int)) : Nat → Int
  | 0 => -1
  | k + 1 => if bst L ws k < 0 ∨ plc (cst L ws k) < plc (cst L ws (bst L ws k).toNat) then (k : Int) else bst L ws k
theorem bst_is (L : List Nat) (ws : List (List Int)) : ∀ k : Nat, (k = 0 ∧ bst L ws k = -1) ∨ (0 < k ∧ 0 ≤ bst L ws k ∧ bst L ws k < k ∧ ∀ j, j < k → plc (cst L ws (bst L ws k).toNat) ≤ plc (cst L ws j))
  | 0 => .inl ⟨rfl, rfl⟩
  | k + 1 => by
    right
    have ih := bst_is L ws k
    have e0 : bst L ws (k + 1) = if bst L ws k < 0 ∨ plc (cst L ws k) < plc (cst L ws (bst L ws k).toNat) then (k : Int) else bst L ws k := rfl
    by_cases c : bst L ws k < 0 ∨ plc (cst L ws k) < plc (cst L ws (bst L ws k).toNat)
    · rw [if_pos c] at e0
      rw [e0]
      refine ⟨by omega, by omega, by omega, fun j hj => ?_⟩
      rw [Int.toNat_natCast]
      by_cases e : j = k
      · subst e; exact Int.le_refl _
      · rcases ih with ⟨h0, _⟩ | ⟨_, h1, _, h3⟩
        · omega
        · have h4 := h3 j (by omega)
          rcases c with c | c
          · omega
          · omega
    · rw [if_neg c] at e0
      rw [e0]
      rcases ih with ⟨h0, h1⟩ | ⟨_, h1, h2, h3⟩
      · exact absurd (.inl (by omega)) c
      · refine ⟨by omega, h1, by omega, fun j hj => ?_⟩
        by_cases e : j = k
        · subst e
          have := fun h => c (.inr h)
          omega
        · exact h3 j (by omega)
theorem get_d {ws : List (List Int)} {k : Nat} (hk : k < ws.length) : ix ws (k : Int) = some (ws.getD k []) := by
  refine (ix_nat (List.getElem?_eq_getElem hk)).trans ?_
  rw [List.getD_eq_getElem?_getD, List.getElem?_eq_getElem hk]; rfl
theorem get_len {ws : List (List Int)} {N : Nat} (h : ∀ x ∈ ws, x.length ≤ N) (k : Nat) : (ws.getD k []).length ≤ N := by
  rw [List.getD_eq_getElem?_getD]
  cases e : ws[k]? with
  | none => exact Nat.zero_le _
  | some x => exact h x (List.mem_of_getElem? e)
theorem cst_w (L : List Nat) (ws : List (List Int)) (j : Nat) : W64 (cst L ws j) := (valW_w L _).1
theorem least_eq (L : List Nat) {ws : List (List Int)} (hl : ws.length ≤ 1000) (hw : ∀ x ∈ ws, x.length ≤ 1000) : weigh_Least (L.map cfn) ws = some (bst L ws ws.length) := by
  obtain ⟨_, _, h2⟩ := loop_cnt ws.length (fun (_ : Unit) (k : Nat) => (bst L ws k, (if bst L ws k < 0 then 0 else cst L ws (bst L ws k).toNat), (k : Int))) (weigh_Least_l1 (L.map cfn) ws) (fun _ => bst L ws ws.length) (fun _ _ => True)
    (fun _ k hk _ => ⟨(), by
      have h3 := walk_eq (L.map cfn) (l := ws.getD k []) (by have := get_len hw k; omega)
      rw [val_map, show valW L (ws.getD k []) = cst L ws k from rfl] at h3
      rw [weigh_Least_l1, if_pos (by omega), get_d hk, Option.bind_some, h3, Option.bind_some, w64_id (by omega)]
      by_cases c : bst L ws k < 0
      · have e : bst L ws (k + 1) = (k : Int) := if_pos (.inl c)
        rw [if_pos c, Option.bind_some, if_pos rfl, e, if_neg (by omega), Int.toNat_natCast]; rfl
      · rw [if_neg c, if_neg c, compare_eq (cst_w L ws k) (cst_w L ws _), Option.bind_some, Option.bind_some]
        by_cases c2 : plc (cst L ws k) < plc (cst L ws (bst L ws k).toNat)
        · have e : bst L ws (k + 1) = (k : Int) := if_pos (.inr c2)
          rw [decide_eq_true ((cmp_lt _ _).2 c2), if_pos rfl, e, if_neg (by omega), Int.toNat_natCast]; rfl
        · have e : bst L ws (k + 1) = bst L ws k := if_neg (fun h => h.elim c c2)
          rw [decide_eq_false (fun h => c2 ((cmp_lt _ _).1 h)), if_neg (by decide), e, if_neg c]; rfl, trivial⟩)
    (fun _ _ => by rw [weigh_Least_l1, if_neg (by omega)]) () trivial
  unfold weigh_Least
  have h3 : loopW (weigh_Least_l1 (L.map cfn) ws) (-1, 0, 0) = some (bst L ws ws.length) := h2
  rw [h3]; rfl
theorem rleast_eq (L : List Nat) {ws : List (List Int)} (hl : ws.length ≤ 1000) (hw : ∀ x ∈ ws, x.length ≤ 1000) : r18_Least (nz L) ws = some (bst L ws ws.length) := by
  obtain ⟨_, _, h2⟩ := loop_cnt ws.length (fun (_ : Unit) (k : Nat) => (bst L ws k, (k : Int))) (r18_Least_l1 (nz L) ws) (fun _ => bst L ws ws.length) (fun _ _ => True)
    (fun _ k hk _ => ⟨(), by
      have hb := bst_is L ws k
      rw [r18_Least_l1, if_pos (by omega), w64_id (by omega)]
      by_cases c : bst L ws k = -1
      · have e : bst L ws (k + 1) = (k : Int) := if_pos (.inl (by omega))
        rw [if_pos c, Option.bind_some, if_pos rfl, e]; rfl
      · have hpos : 0 ≤ bst L ws k ∧ bst L ws k < k := by
          rcases hb with h | h
          · exact absurd h.2 c
          · exact ⟨h.2.1, h.2.2.1⟩
        have hb' : bst L ws k = (((bst L ws k).toNat : Nat) : Int) := by omega
        have hx : ix ws (bst L ws k) = some (ws.getD (bst L ws k).toNat []) := by
          conv => lhs; rw [hb']
          exact get_d (by omega)
        have h3 := rwalk_eq L (ws.getD k []) (by have := get_len hw k; omega)
        have h4 := rwalk_eq L (ws.getD (bst L ws k).toNat []) (by have := get_len hw (bst L ws k).toNat; omega)
        rw [if_neg c, get_d hk, Option.bind_some, h3, Option.bind_some, hx, Option.bind_some, h4, Option.bind_some, rplace_eq (valW_w L _).1, rplace_eq (valW_w L _).1, Option.bind_some]
        by_cases c2 : plc (cst L ws k) < plc (cst L ws (bst L ws k).toNat)
        · have e : bst L ws (k + 1) = (k : Int) := if_pos (.inr c2)
          rw [show decide (plc (valW L (ws.getD k [])) < plc (valW L (ws.getD (bst L ws k).toNat []))) = true from decide_eq_true c2, if_pos rfl, e]; rfl
        · have e : bst L ws (k + 1) = bst L ws k := if_neg (fun h => h.elim (fun h => by omega) c2)
          rw [show decide (plc (valW L (ws.getD k [])) < plc (valW L (ws.getD (bst L ws k).toNat []))) = false from decide_eq_false c2, if_neg (by decide), e]; rfl, trivial⟩)
    (fun _ _ => by rw [r18_Least_l1, if_neg (by omega)]) () trivial
  unfold r18_Least
  have h3 : loopW (r18_Least_l1 (nz L) ws) (-1, 0) = some (bst L ws ws.length) := h2
  rw [h3]; rfl
theorem WeighLeast_core (L : List Nat) (ws : List (List Int)) : L18_WeighLeast (nz L) ws = some true := by
  unfold L18_WeighLeast
  rw [awake18]
  by_cases h : 20 < ((nz L).length : Int) ∨ 12 < (ws.length : Int)
  · rw [if_pos (by simpa using h)]; rfl
  · rw [if_neg (by simpa using h)]
    have hl : L.length ≤ 20 := by simp at h; omega
    have hw : ws.length ≤ 12 := by simp at h; omega
    rw [search_in ws (by omega) (L18_WeighLeast_l1 ws) (fun x => 20 < (x.length : Int)) true (fun k hk => by
      rw [L18_WeighLeast_l1, if_pos (by omega), ix_nat (List.getElem?_eq_getElem hk), Option.bind_some, awake18]; rfl) (by rw [L18_WeighLeast_l1, if_neg (by omega)])]
    by_cases h3 : ∃ x ∈ ws, 20 < (x.length : Int)
    · rw [if_pos h3]; rfl
    · rw [if_neg h3, orR_inl]
      have hx : ∀ x ∈ ws, x.length ≤ 1000 := fun x hx => by
        have : ¬ 20 < (x.length : Int) := fun hc => h3 ⟨x, hx, hc⟩
        omega
      rw [of_list (by omega), Option.bind_some, least_eq L (by omega) hx, Option.bind_some, rleast_eq L (by omega) hx, Option.bind_some, if_neg (by simp)]
      rw [search_in ws (by omega) (L18_WeighLeast_l2 (nz L) ws (L.map cfn) (bst L ws ws.length)) (fun _ => False) false (fun k hk => by
        rcases bst_is L ws ws.length with ⟨h0, _⟩ | ⟨_, b1, b2, b3⟩
        · omega
        · have hb' : bst L ws ws.length = (((bst L ws ws.length).toNat : Nat) : Int) := by omega
          have hxb : ix ws (bst L ws ws.length) = some (ws.getD (bst L ws ws.length).toNat []) := by
            conv => lhs; rw [hb']
            exact get_d (by omega)
          have w1 := walk_eq (L.map cfn) (l := ws.getD k []) (by have := get_len hx k; omega)
          have w2 := walk_eq (L.map cfn) (l := ws.getD (bst L ws ws.length).toNat []) (by have := get_len hx (bst L ws ws.length).toNat; omega)
          rw [val_map] at w1 w2
          have hf : fLt (valW L (ws.getD k [])) (valW L (ws.getD (bst L ws ws.length).toNat [])) = false := by
            cases e : fLt (valW L (ws.getD k [])) (valW L (ws.getD (bst L ws ws.length).toNat [])) with
            | false => rfl
            | true =>
              have g1 := flt_plc (valW_w L _).1 (valW_w L _).1 e
              have g2 := b3 k hk
              unfold cst at g2
              omega
          rw [L18_WeighLeast_l2, if_pos (by omega), if_neg (by omega), if_neg (by omega), rright_eq (by omega), Option.bind_some, get_d hk, hxb, Option.bind_some, w1, Option.bind_some, Option.bind_some, w2, Option.bind_some, hf, w64_id (by omega)]
          by_cases c : OkW L ∧ (L.length : Int) = ((nz L).length : Int)
          · rw [decide_eq_true c]; rfl
          · rw [decide_eq_false c]; rfl) (by rw [L18_WeighLeast_l2, if_neg (by omega)]), if_neg (by simp), orR_inl]
      rfl
/-! ### Longer paths -/
theorem rn_id {p : Nat} (h : p ≤ INF) : rn p = p := by unfold rn; rw [if_neg (by unfold INF at h; omega)]
theorem cost_le {p : Nat} (h : p ≤ INF) : costB p := .inl h
theorem cost_cfn' {p : Nat} (h : costB p) : cfn p = p := cfn_ok (key_cost h).2
theorem wg_cost {L : List Nat} (h : OkW L) {i : Int} (hi : In L i) : costB (wg L i) := h _ (by
  have h2 : i.toNat < L.length := by omega
  unfold wg
  rw [List.getD_eq_getElem?_getD, List.getElem?_eq_getElem h2]
  exact List.getElem_mem h2)
theorem sum_cost' {L : List Nat} (h : OkW L) : ∀ (l : List Int), (∀ i ∈ l, In L i) → sumW L l ≤ INF
  | [], _ => Nat.zero_le _
  | i :: l, hl => plus_le (wg_cost h (hl i (by simp))) (cost_le (sum_cost' h l fun x hx => hl x (by simp [hx])))
theorem sum_step {L : List Nat} (h : OkW L) {i : Int} {l : List Int} (hi : In L i) (hl : ∀ x ∈ l, In L x) : rn (wg L i) ≤ sumW L (i :: l) ∧ sumW L l ≤ sumW L (i :: l) := by
  have h1 := wg_cost h hi
  have h2 := sum_cost' h l hl
  refine ⟨plus_ge h1 (cost_le h2), ?_⟩
  have h3 := plus_ge (cost_le h2) h1
  rw [rn_id h2, plus_comm (cost_le h2) h1] at h3
  exact h3
theorem sum_grow {L : List Nat} (h : OkW L) (b : List Int) : ∀ (a : List Int), (∀ i ∈ a ++ b, In L i) → sumW L b ≤ sumW L (a ++ b)
  | [], _ => Nat.le_refl _
  | i :: a, hl => Nat.le_trans (sum_grow h b a fun x hx => hl x (by simp at hx ⊢; exact .inr hx)) (sum_step h (hl i (by simp)) fun x hx => hl x (by simp at hx ⊢; exact .inr hx)).2
theorem val_le {L : List Nat} (h : OkW L) (l : List Int) : valW L l ≤ INF := by
  unfold valW
  split
  · exact sum_cost' h l ‹_›
  · exact Nat.le_refl _
theorem val_grow {L : List Nat} (h : OkW L) (a b : List Int) : valW L b ≤ valW L (a ++ b) := by
  by_cases c : ∀ i ∈ a ++ b, In L i
  · have cb : ∀ i ∈ b, In L i := fun i hi => c i (by simp [hi])
    unfold valW
    rw [if_pos c, if_pos cb]
    exact sum_grow h b a c
  · have : valW L (a ++ b) = INF := if_neg c
    rw [this]
    exact val_le h b
theorem val_down {L : List Nat} (h : OkW L) : ∀ (l : List Int) (i : Int), i ∈ l → (decide (In L i) && upB (wg L i)) = false → valW L l = INF := by
  intro l i hi hd
  by_cases c : ∀ x ∈ l, In L x
  · have hI := c i hi
    rw [decide_eq_true hI, Bool.true_and] at hd
    have hc := wg_cost h hI
    have hk := key_cost hc
    unfold upB at hd
    have hrn : rn (wg L i) = INF := by
      have h1 := rn_le hc
      have h2 := of_decide_eq_false hd
      have h3 : ¬ keyB (wg L i) < 9218868437227405312 := fun hh => h2 ⟨hk.2, hh⟩
      rw [hk.1] at h3
      unfold INF
      omega
    have key : ∀ l : List Int, (∀ x ∈ l, In L x) → i ∈ l → INF ≤ sumW L l := by
      intro l
      induction l with
      | nil => intro _ hm; cases hm
      | cons x l ih =>
        intro hl hm
        have hs := sum_step (l := l) h (hl x (by simp)) fun y hy => hl y (by simp [hy])
        rcases List.mem_cons.1 hm with rfl | hm
        · rw [hrn] at hs; exact hs.1
        · exact Nat.le_trans (ih (fun y hy => hl y (by simp [hy])) hm) hs.2
    have h1 := key l c hi
    have h2 := sum_cost' h l c
    have e : valW L l = sumW L l := if_pos c
    omega
  · exact if_neg c
theorem WeighGrows_core (L : List Nat) (hL : ∀ x ∈ L, W64 x) (a b : List Int) : L18_WeighGrows (nz L) a b = some true := by
  unfold L18_WeighGrows
  rw [awake18]
  by_cases h1 : 20 < ((nz L).length : Int)
  · rw [if_pos h1]; rfl
  · rw [if_neg h1]
    by_cases h2 : 20 < (a.length : Int)
    · rw [if_pos h2]; rfl
    · rw [if_neg h2]
      by_cases h3 : 20 < (b.length : Int)
      · rw [if_pos h3]; rfl
      · rw [if_neg h3]
        have l1 : L.length ≤ 20 := by simp at h1; omega
        rw [rright_eq (by omega), Option.bind_some, Option.bind_some]
        by_cases hok : OkW L
        · have e : decide (OkW L ∧ (L.length : Int) = ((nz L).length : Int)) = true := decide_eq_true ⟨hok, by simp⟩
          rw [e, if_neg (by decide), of_list (by omega), Option.bind_some, app_is (by simp; omega)]
          simp only [List.nil_append, Option.bind_some]
          rw [app_is (by omega)]
          simp only [Option.bind_some]
          rw [walk_eq _ (by simp; omega), Option.bind_some, walk_eq _ (by omega), Option.bind_some, val_map, val_map]
          have v1 := val_le hok (a ++ b)
          have v2 := val_le hok b
          have vg := val_grow hok a b
          have hc : ∀ p, p ≤ INF → float_Cost p = true := fun p hp => by
            rw [cost_eq (by unfold W64; unfold INF at hp; omega)]
            exact cost_iff.2 (cost_le hp)
          have hlt : fLt (valW L (a ++ b)) (valW L b) = false := by
            rw [fLt_eq]
            refine decide_eq_false fun hh => ?_
            have k1 := (key_cost (cost_le v1)).1
            have k2 := (key_cost (cost_le v2)).1
            rw [rn_id v1] at k1
            rw [rn_id v2] at k2
            have := hh.2.2
            omega
          rw [hlt, hc _ v1, hc _ v2, if_neg (by decide)]
          rw [search_in (a ++ b) (by simp; omega) (L18_WeighGrows_l1 (L.map cfn) (a ++ b) (valW L (a ++ b))) (fun _ => False) false (fun k hk => by
            rw [L18_WeighGrows_l1, if_pos (by omega), ix_nat (List.getElem?_eq_getElem hk), Option.bind_some, up_eq, Option.bind_some]
            have hup : (decide (In (L.map cfn) (a ++ b)[k]) && upB (wg (L.map cfn) (a ++ b)[k])) = (decide (In L (a ++ b)[k]) && upB (wg L (a ++ b)[k])) := by
              by_cases hi : In L (a ++ b)[k]
              · rw [decide_eq_true hi, decide_eq_true ((in_map L _).2 hi), wg_map, cost_cfn' (wg_cost hok hi)]
              · rw [decide_eq_false hi, decide_eq_false (fun hc => hi ((in_map L _).1 hc))]; rfl
            rw [hup]
            cases e2 : (decide (In L (a ++ b)[k]) && upB (wg L (a ++ b)[k])) with
            | true => rfl
            | false =>
              have hv := val_down hok (a ++ b) _ (List.getElem_mem hk) e2
              rw [hv, if_pos (by decide), class_eq (by unfold W64; decide), Option.bind_some, show cls INF = 6 by decide]; rfl) (by rw [L18_WeighGrows_l1, if_neg (by omega)]), if_neg (by simp), orR_inl]
        · rw [decide_eq_false (fun hc => hok hc.1)]; rfl
theorem WeighTells_true (p0 : List Int) (ok0 : okL (fun n => (Lit.int .u64 n).wf = true) p0) (p1 : Int) {B : Prop} (_ : B) (p2 : Int) {C : Prop} (_ : C) (p3 : List Int) {D : Prop} (_ : D) : L18_WeighTells p0 p1 p2 p3 = some true := by
  obtain ⟨L, rfl, hL⟩ := nats ok0
  exact WeighTells_core L hL p1 p2 p3
theorem WeighLeast_true (p0 : List Int) (ok0 : okL (fun n => (Lit.int .u64 n).wf = true) p0) (p1 : List (List Int)) {B : Prop} (_ : B) : L18_WeighLeast p0 p1 = some true := by
  obtain ⟨L, rfl, hL⟩ := nats ok0
  exact WeighLeast_core L p1
theorem WeighGrows_true (p0 : List Int) (ok0 : okL (fun n => (Lit.int .u64 n).wf = true) p0) (p1 : List Int) {B : Prop} (_ : B) (p2 : List Int) {C : Prop} (_ : C) : L18_WeighGrows p0 p1 p2 = some true := by
  obtain ⟨L, rfl, hL⟩ := nats ok0
  exact WeighGrows_core L hL p1 p2
end Go.Proofs.Ytphhiiemopkinaa
