/- Layer 43: the statement. Conditions: none. -/
import Derived.Test.YtdogfpoekndknaaMS
import Derived.Test.YtdogfpoekndknaaM43A
namespace Go.Proofs.Ytdogfpoekndknaa
set_option linter.unusedVariables false
set_option linter.unusedSimpArgs false
open Go Go.RowKit
/-! ### Cleaned floats in a row -/
abbrev up (l : List Nat) : List Int := l.map (fun n : Nat => (n : Int))
theorem up_get {l : List Nat} {k : Nat} (h : k < l.length) : ix (up l) (k : Int) = some ((l[k] : Nat) : Int) := ix_nat (by rw [List.getElem?_map, List.getElem?_eq_getElem h]; rfl)
theorem up_len (l : List Nat) : (up l).length = l.length := List.length_map ..
def Cl (x : Nat) : Prop := W64 x ∧ cfn x = x
theorem cl_cfn {x : Nat} (h : W64 x) : Cl (cfn x) := ⟨cfn_lt h, cfn_cfn x⟩
theorem plc_inj {x y : Nat} (hx : Cl x) (hy : Cl y) (h : plc x = plc y) : x = y := by
  obtain ⟨h1, h2⟩ := hx
  obtain ⟨h3, h4⟩ := hy
  unfold plc at h
  rw [h2, h4] at h
  unfold W64 at h1 h3
  clear h2 h4
  by_cases c1 : 9223372036854775808 ≤ x
  · rw [if_pos c1] at h
    by_cases c2 : 9223372036854775808 ≤ y
    · rw [if_pos c2] at h; omega
    · rw [if_neg c2] at h; omega
  · rw [if_neg c1] at h
    by_cases c2 : 9223372036854775808 ≤ y
    · rw [if_pos c2] at h; omega
    · rw [if_neg c2] at h; omega
theorem cl_unique : ∀ {A B : List Nat}, A.Pairwise (fun x y => plc x ≤ plc y) → B.Pairwise (fun x y => plc x ≤ plc y) → (∀ x ∈ A, Cl x) → A.Perm B → A = B
  | [], B, _, _, _, p => by have := p.length_eq; exact (List.length_eq_zero_iff.1 this.symm).symm
  | a :: A, [], _, _, _, p => by have := p.length_eq; simp at this
  | a :: A, b :: B, ha, hb, hc, p => by
    rw [List.pairwise_cons] at ha hb
    have hcb : Cl b := hc b (p.mem_iff.2 (List.mem_cons_self ..))
    have e : a = b := by
      rcases List.mem_cons.1 (p.mem_iff.1 (List.mem_cons_self ..) : a ∈ b :: B) with e | e
      · exact e
      · rcases List.mem_cons.1 (p.mem_iff.2 (List.mem_cons_self ..) : b ∈ a :: A) with e2 | e2
        · exact e2.symm
        · have h1 := hb.1 _ e
          have h2 := ha.1 _ e2
          exact plc_inj (hc a (List.mem_cons_self ..)) hcb (by omega)
    subst e
    rw [cl_unique ha.2 hb.2 (fun x hx => hc x (List.mem_cons_of_mem _ hx)) (List.Perm.cons_inv p)]
theorem folt_plc {x y : Nat} (hx : W64 x) (hy : W64 y) (h : folt y x = false) : plc x ≤ plc y := by
  have hc : ¬ focm y x < 0 := by
    rw [foP, h]; decide
  have e : focm y x = cmpP (plc y) (plc x) := by
    unfold focm
    rw [compare_eq hy hx]; rfl
  have := cmpP_cases (plc y) (plc x)
  omega
/-! ### meter.Sort -/
theorem list43 {L : List Nat} (hl : L.length ≤ 1000) : L43_list (up L) = some L := by
  obtain ⟨R, h1, h2⟩ := loop_cnt L.length (fun (R : List Nat) (k : Nat) => (R, (k : Int))) (L43_list_l1 (up L)) id (fun R k => R = L.take k) (fun R k hk hI => by
    have hb : R.length ≤ 1000 := by rw [hI, List.length_take]; omega
    refine ⟨R ++ [L[k]], ?_, by rw [hI, List.take_succ_eq_append_getElem hk]⟩
    rw [L43_list_l1, if_pos (by rw [up_len]; omega), up_get hk, Option.bind_some, raw43, app_is (by simp; omega), Option.bind_some, w64_id (by omega)]; rfl)
    (fun R _ => by rw [L43_list_l1, if_neg (by rw [up_len]; omega)]; rfl) [] (by simp)
  rw [List.take_length] at h1
  subst h1
  unfold L43_list
  rw [show loopW (L43_list_l1 (up R)) ([], 0) = some R from h2]; rfl
theorem sort43 {L : List Nat} (hl : L.length ≤ 1000) (hw : ∀ x ∈ L, W64 x) : ∃ R, meter_Sort L = some R ∧ R.Perm (L.map cfn) ∧ R.Pairwise (fun x y => plc x ≤ plc y) ∧ ∀ x ∈ R, Cl x := by
  obtain ⟨Q, h1, h2⟩ := loop_cnt L.length (fun (R : List Nat) (k : Nat) => (R, (k : Int))) (meter_Sort_l1 L) id (fun R k => R = (L.take k).map cfn ++ L.drop k) (fun R k hk hI => by
    have hg : R[k]? = some L[k] := by
      rw [hI, List.getElem?_append_right (by simp; omega)]
      simp only [List.length_map, List.length_take]
      rw [Nat.min_eq_left (by omega), Nat.sub_self, List.getElem?_drop]
      simp [hk]
    refine ⟨R.set k (cfn L[k]), ?_, ?_⟩
    · rw [meter_Sort_l1, if_pos (by omega), ix_nat hg, Option.bind_some, Option.bind_some, w64_id (by omega), fclean_eq]
      unfold setAt
      rw [Int.toNat_natCast]; rfl
    · rw [hI, List.set_append_right _ _ (by simp; omega), List.take_succ_eq_append_getElem hk, List.map_append, List.append_assoc]
      congr 1
      simp only [List.length_map, List.length_take]
      rw [Nat.min_eq_left (by omega), Nat.sub_self, ← List.getElem_cons_drop (h := hk)]
      rfl)
    (fun R _ => by rw [meter_Sort_l1, if_neg (by omega)]; rfl) L (by simp)
  rw [List.take_length, List.drop_length, List.append_nil] at h1
  subst h1
  obtain ⟨R, e, p, o⟩ := fosort fo_swo (L := L.map cfn) (by simp; omega)
  have hc : ∀ x ∈ R, Cl x := fun x hx => by
    obtain ⟨y, hy, rfl⟩ := List.mem_map.1 (p.mem_iff.1 hx)
    exact cl_cfn (hw y hy)
  refine ⟨R, ?_, p, ?_, hc⟩
  · unfold meter_Sort slices_Clone_float64_float64
    rw [app_is (by simp; omega), Option.bind_some, Option.bind_some, List.nil_append, show loopW (meter_Sort_l1 L) (L, 0) = some (L.map cfn) from h2, Option.bind_some]
    unfold slices_SortFunc_float64_float64
    rw [len_is (by simp; omega), Option.bind_some, e]; rfl
  · refine List.Pairwise.imp_of_mem ?_ o
    intro x y hx hy h
    exact folt_plc (hc x hx).1 (hc y hy).1 h
/-! ### The document's sort -/
def insP (x : Nat) : List Nat → List Nat
  | [] => [x]
  | y :: l => if plc x < plc y then x :: y :: l else y :: insP x l
theorem insP_perm (x : Nat) : ∀ l : List Nat, (insP x l).Perm (x :: l)
  | [] => List.Perm.refl _
  | y :: l => by
    unfold insP
    split
    · exact List.Perm.refl _
    · exact ((insP_perm x l).cons y).trans (List.Perm.swap x y l)
theorem insP_sorted (x : Nat) : ∀ l : List Nat, l.Pairwise (fun a b => plc a ≤ plc b) → (insP x l).Pairwise (fun a b => plc a ≤ plc b)
  | [], _ => by unfold insP; exact List.pairwise_singleton _ _
  | y :: l, h => by
    rw [List.pairwise_cons] at h
    unfold insP
    split
    · rename_i c
      rw [List.pairwise_cons, List.pairwise_cons]
      refine ⟨fun a ha => ?_, h.1, h.2⟩
      rcases List.mem_cons.1 ha with e | e
      · subst e; omega
      · have := h.1 a e; omega
    · rename_i c
      rw [List.pairwise_cons]
      refine ⟨fun a ha => ?_, insP_sorted x l h.2⟩
      rcases List.mem_cons.1 ((insP_perm x l).mem_iff.1 ha) with e | e
      · subst e; omega
      · exact h.1 a e
/-- The loop of put: what it has put out, and whether x is among it. -/
theorem put_loop {R : List Nat} (hl : R.length ≤ 1000) (hw : ∀ x ∈ R, W64 x) {x : Nat} (hx : W64 x) : ∀ (d k : Nat) (out : List Nat) (b : Bool), k + d = R.length → (out.length ≤ k + 1 ∧ (b = false → out.length ≤ k)) →
    ∃ out' b', loopW (r43_put_l1 (up R) (x : Int)) (up out, b, (k : Int)) = some (up out', b') ∧ out'.length ≤ R.length + 1 ∧ (if b' = true then out' else out' ++ [x]) = out ++ (if b = true then R.drop k else insP x (R.drop k)) := by
  intro d
  induction d with
  | zero =>
    rintro k out b hk ⟨ho, hob⟩
    refine ⟨out, b, loopW_end (by rw [r43_put_l1, if_neg (by rw [up_len]; omega)]), by omega, ?_⟩
    rw [List.drop_of_length_le (by omega)]
    cases b
    · rfl
    · exact (List.append_nil _).symm
  | succ d ih =>
    rintro k out b hk ⟨ho, hob⟩
    have hkl : k < R.length := by omega
    have hdrop : R.drop k = R[k] :: R.drop (k + 1) := (List.getElem_cons_drop (h := hkl)).symm
    have hp1 : r03_Place (x : Int) = plc x := rplace_eq hx
    have hp2 : r03_Place ((R[k] : Nat) : Int) = plc R[k] := rplace_eq (hw _ (List.getElem_mem hkl))
    have h9 : app (up out) [(x : Int)] = some (up (out ++ [x])) := by rw [app_is (by rw [up_len]; simp; omega)]; simp [up]
    have h8 : ∀ o : List Nat, o.length ≤ 1500 → app (up o) [((R[k] : Nat) : Int)] = some (up (o ++ [R[k]])) := fun o ho => by rw [app_is (by rw [up_len]; simp; omega)]; simp [up]
    by_cases c : b = false ∧ plc x < plc R[k]
    · obtain ⟨cb, cp⟩ := c
      subst cb
      have hout := hob rfl
      · have hst : r43_put_l1 (up R) (x : Int) (up out, false, (k : Int)) = some (.inl (up (out ++ [x] ++ [R[k]]), true, ((k + 1 : Nat) : Int))) := by
          rw [r43_put_l1, if_pos (by rw [up_len]; omega), if_pos (by decide), up_get hkl, Option.bind_some, Option.bind_some, hp1, hp2, if_pos (decide_eq_true cp), h9, Option.bind_some, Option.bind_some]
          simp only []
          rw [Option.bind_some, h8 _ (by simp; omega), Option.bind_some, w64_id (by omega)]; rfl
        obtain ⟨o', b', e1, e2, e3⟩ := ih (k + 1) (out ++ [x] ++ [R[k]]) true (by omega) ⟨by simp; omega, fun h => by cases h⟩
        refine ⟨o', b', by rw [loopW_go hst]; exact e1, e2, ?_⟩
        rw [e3, if_pos rfl, if_neg (by decide), hdrop]
        unfold insP
        rw [if_pos cp]; simp
    · have hst : r43_put_l1 (up R) (x : Int) (up out, b, (k : Int)) = some (.inl (up (out ++ [R[k]]), b, ((k + 1 : Nat) : Int))) := by
        rw [r43_put_l1, if_pos (by rw [up_len]; omega)]
        cases b with
        | true =>
          rw [if_neg (by decide), Option.bind_some, if_neg (by decide), Option.bind_some]
          simp only []
          rw [up_get hkl, Option.bind_some, h8 _ (by omega), Option.bind_some, w64_id (by omega)]; rfl
        | false =>
          rw [if_pos (by decide), up_get hkl, Option.bind_some, Option.bind_some, hp1, hp2, if_neg (by rw [decide_eq_false (fun h => c ⟨rfl, h⟩)]; decide), Option.bind_some]
          simp only []
          rw [Option.bind_some, h8 _ (by omega), Option.bind_some, w64_id (by omega)]; rfl
      obtain ⟨o', b', e1, e2, e3⟩ := ih (k + 1) (out ++ [R[k]]) b (by omega) ⟨by simp; omega, fun h => by have := hob h; simp; omega⟩
      refine ⟨o', b', by rw [loopW_go hst]; exact e1, e2, ?_⟩
      rw [e3, hdrop]
      cases b with
      | true => simp
      | false =>
        rw [if_neg (by decide), if_neg (by decide), insP, if_neg (fun h => c ⟨rfl, h⟩)]; simp
theorem put43 {R : List Nat} (hl : R.length ≤ 1000) (hw : ∀ x ∈ R, W64 x) {x : Nat} (hx : W64 x) : r43_put (up R) (x : Int) = some (up (insP x R)) := by
  obtain ⟨o, b, e1, e2, e3⟩ := put_loop hl hw hx R.length 0 [] false (by omega) ⟨by simp, fun _ => by simp⟩
  simp only [Bool.false_eq_true, if_false, List.drop_zero, List.nil_append] at e3
  unfold r43_put
  rw [show loopW (r43_put_l1 (up R) (x : Int)) ([], false, 0) = some (up o, b) from e1, Option.bind_some]
  simp only []
  cases b with
  | true => rw [if_pos rfl] at e3; rw [if_neg (by decide), Option.bind_some, ← e3]
  | false => rw [if_neg (by decide)] at e3; rw [if_pos (by decide), app_is (by rw [up_len]; simp; omega), Option.bind_some, Option.bind_some, ← e3]; simp [up]
theorem rsort43 {L : List Nat} (hl : L.length ≤ 1000) (hw : ∀ x ∈ L, W64 x) : ∃ R, r43_Sort (up L) = some (up R) ∧ R.Perm (L.map cfn) ∧ R.Pairwise (fun x y => plc x ≤ plc y) := by
  obtain ⟨R, h1, h2⟩ := loop_cnt L.length (fun (R : List Nat) (k : Nat) => (up R, (k : Int))) (r43_Sort_l1 (up L)) up (fun R k => R.Perm ((L.take k).map cfn) ∧ R.Pairwise (fun x y => plc x ≤ plc y)) (fun R k hk hI => by
    obtain ⟨hp, ho⟩ := hI
    have hb : R.length ≤ 1000 := by rw [hp.length_eq, List.length_map, List.length_take]; omega
    have hx : W64 L[k] := hw _ (List.getElem_mem hk)
    refine ⟨insP (cfn L[k]) R, ?_, ?_, insP_sorted _ _ ho⟩
    · rw [r43_Sort_l1, if_pos (by rw [up_len]; omega), up_get hk, Option.bind_some, rclean_eq hx, put43 hb (fun y hy => by
        obtain ⟨z, hz, rfl⟩ := List.mem_map.1 (hp.mem_iff.1 hy)
        exact cfn_lt (hw z (List.mem_of_mem_take hz))) (cfn_lt hx), Option.bind_some, w64_id (by omega)]; rfl
    · rw [List.take_succ_eq_append_getElem hk, List.map_append]
      exact (insP_perm _ _).trans ((hp.cons _).trans (List.perm_append_comm (l₁ := [cfn L[k]])))) (fun R _ => by rw [r43_Sort_l1, if_neg (by rw [up_len]; omega)]) [] (by simp)
  rw [List.take_length] at h1
  exact ⟨R, by unfold r43_Sort; rw [show loopW (r43_Sort_l1 (up L)) ([], 0) = some (up R) from h2]; rfl, h1⟩
theorem bits43 {R : List Nat} (hl : R.length ≤ 1000) (hc : ∀ x ∈ R, Cl x) : L43_bitsOf R = some (up R) := by
  obtain ⟨Q, h1, h2⟩ := loop_cnt R.length (fun (Q : List Int) (k : Nat) => (Q, (k : Int))) (L43_bitsOf_l1 R) id (fun Q k => Q = up (R.take k)) (fun Q k hk hI => by
    have hb : Q.length ≤ 1000 := by rw [hI, up_len, List.length_take]; omega
    refine ⟨Q ++ [((R[k] : Nat) : Int)], ?_, by rw [hI, List.take_succ_eq_append_getElem hk]; unfold up; rw [List.map_append]; rfl⟩
    rw [L43_bitsOf_l1, if_pos (by omega), ix_nat (List.getElem?_eq_getElem hk), Option.bind_some, fbits_eq, (hc _ (List.getElem_mem hk)).2, app_is (by simp; omega), Option.bind_some, w64_id (by omega)]; rfl)
    (fun Q _ => by rw [L43_bitsOf_l1, if_neg (by omega)]; rfl) [] (by simp)
  rw [List.take_length] at h1
  subst h1
  unfold L43_bitsOf
  rw [show loopW (L43_bitsOf_l1 R) ([], 0) = some (up R) from h2]; rfl
theorem same43 {l : List Int} (hl : l.length ≤ 1000) : r43_Same l l = some true := by
  have key : ∀ (d k : Nat), k + d = l.length → loopW (r18_Same_l1 l l) (k : Int) = some (.inl ()) := by
    intro d
    induction d with
    | zero => intro k hk; exact loopW_end (by rw [r18_Same_l1, if_neg (by omega)])
    | succ d ih =>
      intro k hk
      have hst : r18_Same_l1 l l (k : Int) = some (.inl ((k + 1 : Nat) : Int)) := by
        rw [r18_Same_l1, if_pos (by omega), ix_nat (List.getElem?_eq_getElem (show k < l.length by omega)), Option.bind_some, Option.bind_some, if_neg (fun h => h rfl), w64_id (by omega)]; rfl
      rw [loopW_go hst]
      exact ih (k + 1) (by omega)
  unfold r43_Same r18_Same
  rw [if_neg (by omega), show loopW (r18_Same_l1 l l) 0 = some (.inl ()) from key l.length 0 (by omega)]; rfl
theorem fsub_lt (x y : Nat) : W64 (fsub x y) := by
  unfold fsub
  cases h : Ieee.double.sub x y with
  | none => unfold W64; decide
  | some r => exact Ieee.Format.sub_lt _ h
theorem MeterSorts_true (p0 : List Int) (ok0 : okL (fun n => (Lit.int .u64 n).wf = true) p0) (p1 : Int) (ok1 : (Lit.int .u64 p1).wf = true) : L43_MeterSorts p0 p1 = some true := by
  obtain ⟨L, rfl, hL⟩ := nats ok0
  obtain ⟨n, rfl, hn⟩ := wf_u64 ok1
  show L43_MeterSorts (up L) (n : Int) = some true
  unfold L43_MeterSorts
  by_cases c : 40 < ((up L).length : Int)
  · rw [if_pos c, awake43]; rfl
  · rw [if_neg c]
    rw [up_len] at c
    have hl : L.length ≤ 1000 := by omega
    obtain ⟨R, s1, s2, s3, s4⟩ := sort43 hl hL
    obtain ⟨R', r1, r2, r3⟩ := rsort43 hl hL
    have hR : R = R' := cl_unique s3 r3 s4 (s2.trans r2.symm)
    subst hR
    have hRl : R.length = L.length := by rw [s2.length_eq, List.length_map]
    have hmid : ∃ m : Nat, meter_Middle L = some m ∧ r43_Middle (up L) = some ((cfn m : Nat) : Int) := by
      unfold meter_Middle r43_Middle
      rw [up_len]
      by_cases h0 : (L.length : Int) = 0
      · rw [if_pos h0, if_pos h0]
        exact ⟨_, rfl, by rw [fclean_eq, cfn_cfn]; rfl⟩
      · rw [if_neg h0, if_neg h0, s1, r1, Option.bind_some, Option.bind_some, w64_id (x := (L.length : Int) - 1) (by omega), Int.tdiv_eq_ediv_of_nonneg (by omega), w64_id (by omega)]
        obtain ⟨j, hj⟩ : ∃ j : Nat, ((L.length : Int) - 1) / 2 = (j : Int) := ⟨(((L.length : Int) - 1) / 2).toNat, by omega⟩
        have hjl : j < R.length := by omega
        rw [hj, ix_nat (List.getElem?_eq_getElem hjl), up_get hjl]
        exact ⟨_, rfl, by rw [(s4 _ (List.getElem_mem hjl)).2]; rfl⟩
    have hspr : ∃ m : Nat, meter_Spread L = some m ∧ r43_Spread (up L) = some ((cfn m : Nat) : Int) := by
      unfold meter_Spread r43_Spread
      rw [up_len]
      by_cases h0 : (L.length : Int) = 0
      · rw [if_pos h0, if_pos h0]
        exact ⟨_, rfl, by decide +kernel⟩
      · rw [if_neg h0, if_neg h0, s1, r1, Option.bind_some, Option.bind_some, up_len, show w64 ((R.length : Int) - 1) = ((R.length - 1 : Nat) : Int) by rw [w64_id (by omega)]; omega]
        have hjl : R.length - 1 < R.length := by omega
        have h0l : 0 < R.length := by omega
        rw [ix_nat (List.getElem?_eq_getElem hjl), up_get hjl, show ix R 0 = some R[0] from ix_nat (k := 0) (List.getElem?_eq_getElem h0l), show ix (up R) 0 = some ((R[0] : Nat) : Int) from up_get h0l, Option.bind_some, Option.bind_some, Option.bind_some, Option.bind_some]
        refine ⟨_, rfl, ?_⟩
        unfold r43_bits
        rw [Int.toNat_natCast, Int.toNat_natCast, rclean_eq (fsub_lt _ _), fclean_eq, cfn_cfn]
    obtain ⟨m1, m2, m3⟩ := hmid
    obtain ⟨m4, m5, m6⟩ := hspr
    rw [list43 hl, Option.bind_some, s1, Option.bind_some, bits43 (by omega) s4, Option.bind_some, r1, Option.bind_some, same43 (by rw [up_len]; omega), Option.bind_some, if_neg (by decide), Option.bind_some, m2, Option.bind_some, m3, Option.bind_some, fbits_eq, if_neg (fun h => h rfl), Option.bind_some, m5, Option.bind_some, m6, Option.bind_some, fbits_eq, decide_eq_false (fun h => h rfl), Option.bind_some, if_neg (by decide)]
    obtain ⟨q, h1, h2⟩ := loop_cnt L.length (fun (q : Int × Int) (k : Nat) => (q.1, q.2, (k : Int))) (L43_MeterSorts_l1 (up L) (n : Int) R) (fun q => .inl (q.1, q.2)) (fun q k => q.1 = (((L.take k).countP fun x => cfn x == cfn n) : Int) ∧ q.2 = (((R.take k).countP fun x => cfn x == cfn n) : Int)) (fun q k hk hI => by
      obtain ⟨qa, qb⟩ := q
      obtain ⟨i1, i2⟩ := hI
      simp only at i1 i2
      have hkR : k < R.length := by omega
      have hc1 : (((L.take k).countP fun x => cfn x == cfn n) : Int) ≤ 40 := by
        have := List.countP_le_length (p := fun x => cfn x == cfn n) (l := L.take k)
        rw [List.length_take] at this; omega
      have hc2 : (((R.take k).countP fun x => cfn x == cfn n) : Int) ≤ 40 := by
        have := List.countP_le_length (p := fun x => cfn x == cfn n) (l := R.take k)
        rw [List.length_take] at this; omega
      refine ⟨(if cfn L[k] = cfn n then qa + 1 else qa, if cfn R[k] = cfn n then qb + 1 else qb), ?_, ?_, ?_⟩
      · rw [L43_MeterSorts_l1, if_pos (by rw [up_len]; omega)]
        have hord : (if 0 < (k : Int) then (ix R (w64 ((k : Int) - 1))).bind fun x22 => (ix R (k : Int)).bind fun x23 => (float_Compare x22 x23).bind fun x24 => some (decide (0 < x24)) else some false) = some false := by
          by_cases c0 : 0 < k
          · have hk1 : k - 1 < R.length := by omega
            rw [if_pos (by omega), show w64 ((k : Int) - 1) = ((k - 1 : Nat) : Int) by rw [w64_id (by omega)]; omega, ix_nat (List.getElem?_eq_getElem hk1), Option.bind_some, ix_nat (List.getElem?_eq_getElem hkR), Option.bind_some, compare_eq (s4 _ (List.getElem_mem hk1)).1 (s4 _ (List.getElem_mem hkR)).1, Option.bind_some]
            have := List.pairwise_iff_getElem.1 s3 (k - 1) k hk1 hkR (by omega)
            have h3 := cmpP_cases (plc R[k - 1]) (plc R[k])
            rw [decide_eq_false (by omega)]
          · rw [if_neg (by omega)]
        rw [hord, Option.bind_some, if_neg (by decide), up_get hk, Option.bind_some, rclean_eq (hL _ (List.getElem_mem hk)), rclean_eq hn]
        simp only []
        have e1 : ∀ z : Nat, (((cfn z : Nat) : Int) = ((cfn n : Nat) : Int)) = (cfn z = cfn n) := fun z => propext ⟨fun h => by omega, fun h => by omega⟩
        have e2 : (if ((cfn L[k] : Nat) : Int) = ((cfn n : Nat) : Int) then some (w64 (qa + 1)) else some qa) = some (if cfn L[k] = cfn n then qa + 1 else qa) := by
          rw [w64_id (by omega)]
          simp only [e1]
          split <;> rfl
        rw [e2, Option.bind_some, ix_nat (List.getElem?_eq_getElem hkR), Option.bind_some, fbits_eq, w64_id (x := qb + 1) (by omega), w64_id (by omega)]
        simp only [e1]
        split <;> rfl
      · show (if cfn L[k] = cfn n then qa + 1 else qa) = _
        rw [List.take_succ_eq_append_getElem hk, List.countP_append, List.countP_singleton, i1]
        by_cases d : cfn L[k] = cfn n
        · rw [if_pos d, if_pos (by simp [d])]; omega
        · rw [if_neg d, if_neg (by simp [d])]; omega
      · show (if cfn R[k] = cfn n then qb + 1 else qb) = _
        rw [List.take_succ_eq_append_getElem hkR, List.countP_append, List.countP_singleton, i2]
        by_cases d : cfn R[k] = cfn n
        · rw [if_pos d, if_pos (by simp [d])]; omega
        · rw [if_neg d, if_neg (by simp [d])]; omega) (fun q _ => by rw [L43_MeterSorts_l1, if_neg (by rw [up_len]; omega)]) (0, 0) (by simp)
    obtain ⟨qa, qb⟩ := q
    obtain ⟨i1, i2⟩ := h1
    simp only at i1 i2
    rw [List.take_length] at i1
    rw [← hRl, List.take_length, s2.countP_eq, List.countP_map] at i2
    have heq : qa = qb := by
      rw [i1, i2]
      congr 1
      refine List.countP_congr fun x _ => ?_
      simp [Function.comp, cfn_cfn]
    rw [show loopW (L43_MeterSorts_l1 (up L) (n : Int) R) (0, 0, 0) = _ from h2]
    show ((if qa = qb then (L43_awake).bind fun x29 => some x29 else some false).bind fun x28 => some x28) = some true
    rw [if_pos heq, awake43]; rfl
end Go.Proofs.Ytdogfpoekndknaa
