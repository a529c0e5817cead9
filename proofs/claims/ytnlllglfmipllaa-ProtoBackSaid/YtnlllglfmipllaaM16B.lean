/- Layer 16: messages are parsed as they were told. Conditions: none. -/
import Derived.Test.YtnlllglfmipllaaM16C
import Derived.Test.YtnlllglfmipllaaB0
namespace Go.Proofs.Ytnlllglfmipllaa
set_option linter.unusedVariables false
set_option linter.unusedSimpArgs false
open Go Go.RowKit
theorem num_val {p : List UInt8 × Int} : ∃ v : Int, w64 (val (takeR (preN p 1) 1).1) = v ∧ By v := by
  have hl : (takeR (preN p 1) 1).1.length ≤ 1 := by
    unfold takeR
    split
    · simp
    · split
      · simp
      · split
        · simp
        · (simp; omega)
  generalize (takeR (preN p 1) 1).1 = l at hl
  have : l = [] ∨ ∃ b, l = [b] := by
    cases l with
    | nil => exact .inl rfl
    | cons b t => cases t with
      | nil => exact .inr ⟨b, rfl⟩
      | cons c t => simp at hl
  rcases this with rfl | ⟨b, rfl⟩
  · exact ⟨0, rfl, by decide⟩
  · have := b.toNat_lt
    rw [val_one, w64_id (by omega)]
    exact ⟨_, rfl, by constructor <;> omega⟩
theorem bad_zero {p : Rd} (h : (takeR (preN p 1) 1).2.2 ≠ 0) : w64 (val (takeR (preN p 1) 1).1) = 0 := by
  rw [preN_ok (by decide)] at h ⊢
  unfold takeR at h ⊢
  by_cases h1 : p.2 ≠ 0
  · rw [if_pos h1]; rfl
  · rw [if_neg h1, if_neg (by decide)] at h ⊢
    by_cases h2 : (p.1.length : Int) < 1
    · rw [if_pos h2]; rfl
    · rw [if_neg h2] at h; exact absurd rfl h
/-! ### What a reader took, it takes before more -/
abbrev Loc {α : Type} (f : Rd → Option (α × Rd)) : Prop := ∀ (t : List UInt8) (e : Int), t.length ≤ 10000 → ∃ (v : α) (t' : List UInt8) (e' : Int), f (t, e) = some (v, (t', e')) ∧ t'.length ≤ t.length ∧ (e' = 0 → e = 0 ∧ ∀ r : List UInt8, r.length ≤ 10000 → f (t ++ r, 0) = some (v, (t' ++ r, 0)))
theorem takeR_loc {t : List UInt8} {e n : Int} (hn : 0 ≤ n) (h : (takeR (t, e) n).2.2 = 0) : e = 0 ∧ ∀ r : List UInt8, takeR (t ++ r, 0) n = ((takeR (t, e) n).1, ((takeR (t, e) n).2.1 ++ r, 0)) := by
  unfold takeR at h ⊢
  by_cases he : e = 0
  · subst he
    refine ⟨rfl, fun r => ?_⟩
    rw [if_neg (by simp), if_neg (by omega)] at h
    by_cases hl : (t.length : Int) < n
    · rw [if_pos hl] at h; simp at h
    · rw [if_neg (by simp), if_neg (by omega), if_neg (by simp; omega), if_neg (by simp), if_neg (by omega), if_neg hl]
      simp only
      rw [List.take_append_of_le_length (by omega), List.drop_append_of_le_length (by omega)]
  · rw [if_pos (by exact he)] at h
    exact absurd h he
theorem num_loc (w : Int) (hw : 1 ≤ w ∧ w ≤ 7) : Loc (fun p => octet_Reader_Num p w) := fun t e ht => by
  refine ⟨w64 (val (takeR (t, e) w).1), (takeR (t, e) w).2.1, (takeR (t, e) w).2.2, ?_, takeR_len (t, e) w, fun hz => ?_⟩
  · show octet_Reader_Num (t, e) w = some (w64 (val (takeR (t, e) w).1), ((takeR (t, e) w).2.1, (takeR (t, e) w).2.2))
    rw [rnumR_eq _ _ (by simp only; omega), preN_ok hw]
  · obtain ⟨h1, h2⟩ := takeR_loc (by omega) hz
    refine ⟨h1, fun r hr => ?_⟩
    show octet_Reader_Num (t ++ r, 0) w = _
    rw [rnumR_eq _ _ (by rw [List.length_append]; omega), preN_ok hw, h2 r]
theorem int_loc : Loc octet_Reader_Int := fun t e ht => by
  refine ⟨w64 (val (takeR (t, e) 8).1), (takeR (t, e) 8).2.1, (takeR (t, e) 8).2.2, ?_, takeR_len (t, e) 8, fun hz => ?_⟩
  · show octet_Reader_Int (t, e) = some (w64 (val (takeR (t, e) 8).1), ((takeR (t, e) 8).2.1, (takeR (t, e) 8).2.2))
    rw [rintR_eq _ (by simp only; omega)]
  · obtain ⟨h1, h2⟩ := takeR_loc (by omega) hz
    refine ⟨h1, fun r hr => ?_⟩
    rw [rintR_eq _ (by rw [List.length_append]; omega), h2 r]
theorem byte_loc (t : List UInt8) (e : Int) (ht : t.length ≤ 10000) : ∃ (v : Int) (t' : List UInt8) (e' : Int), By v ∧ (e' ≠ 0 → v = 0) ∧ octet_Reader_Num (t, e) 1 = some (v, (t', e')) ∧ t'.length ≤ t.length ∧ (e' = 0 → e = 0 ∧ ∀ r : List UInt8, r.length ≤ 10000 → octet_Reader_Num (t ++ r, 0) 1 = some (v, (t' ++ r, 0))) := by
  obtain ⟨v, t', e', h1, h2, h3⟩ := num_loc 1 (by decide) t e ht
  have h1' : octet_Reader_Num (t, e) 1 = some (v, (t', e')) := h1
  have h4 := rnumR_eq (t, e) 1 (by simp only; omega)
  obtain ⟨x, hx, hb⟩ := num_val (p := (t, e))
  have hbz := bad_zero (p := (t, e))
  rw [h1', hx] at h4
  rw [hx] at hbz
  injection h4 with h4
  injection h4 with h5 h6
  rw [← h6, ← h5] at hbz
  refine ⟨v, t', e', by rw [h5]; exact hb, hbz, h1', h2, h3⟩
theorem wrong_step (c : Prop) [Decidable c] (n : Int) (hn : n ≠ 0) (t : List UInt8) (e : Int) : ∃ (t' : List UInt8) (e' : Int), (if c then some ((octet_Reader_Wrong (t, e) n).1, (octet_Reader_Wrong (t, e) n).2) else some (t, e)) = some (t', e') ∧ t'.length ≤ t.length ∧ (e = 0 → c → e' ≠ 0) ∧ (e' = 0 → e = 0 ∧ ∀ r : List UInt8, r.length ≤ 10000 → (if c then some ((octet_Reader_Wrong (t ++ r, 0) n).1, (octet_Reader_Wrong (t ++ r, 0) n).2) else some (t ++ r, (0 : Int))) = some (t' ++ r, 0)) := by
  by_cases hc : c
  · rw [if_pos hc]
    unfold octet_Reader_Wrong octet_Reader_Ok
    by_cases he : e = 0
    · refine ⟨t, n, by simp [he], Nat.le_refl _, fun _ _ => hn, fun h => absurd h hn⟩
    · refine ⟨t, e, by simp [he], Nat.le_refl _, fun h => absurd h he, fun h => absurd h he⟩
  · rw [if_neg hc]
    exact ⟨t, e, rfl, Nat.le_refl _, fun _ h => absurd h hc, fun h => ⟨h, fun r _ => by rw [if_neg hc, ]⟩⟩
theorem ok_step {α : Type} (z v : α) (t : List UInt8) (e : Int) : (if (!(octet_Reader_Ok (t, e))) = true then some (z, (t, e)) else some (v, (t, e))) = some ((if e = 0 then v else z), (t, e)) := by
  unfold octet_Reader_Ok
  by_cases he : e = 0 <;> simp [he]
theorem count_loc (t : List UInt8) (e : Int) (ht : t.length ≤ 10000) : ∃ (n : Nat) (t' : List UInt8) (e' : Int), n ≤ 16 ∧ octet_Reader_Count (t, e) 16 = some ((n : Int), (t', e')) ∧ t'.length ≤ t.length ∧ (e' = 0 → e = 0 ∧ ∀ r : List UInt8, r.length ≤ 10000 → octet_Reader_Count (t ++ r, 0) 16 = some ((n : Int), (t' ++ r, 0))) := by
  obtain ⟨v, t1, e1, hb, hz, a1, a2, a3⟩ := byte_loc t e ht
  obtain ⟨t2, e2, b1, b2, b0, b3⟩ := wrong_step (16 < v) 6 (by decide) t1 e1
  have hv := hb.1
  have hn : ((if e2 = 0 then v else 0).toNat : Int) = (if e2 = 0 then v else 0) := by split <;> omega
  refine ⟨(if e2 = 0 then v else 0).toNat, t2, e2, ?_, ?_, by omega, fun h => ?_⟩
  · by_cases h : e2 = 0
    · rw [if_pos h]
      have h1 := (b3 h).1
      have : ¬ 16 < v := fun hc => b0 h1 hc h
      omega
    · rw [if_neg h]; decide
  · unfold octet_Reader_Count
    rw [a1, Option.bind_some, b1, Option.bind_some]
    show (if (!(octet_Reader_Ok (t2, e2))) = true then some ((0 : Int), (t2, e2)) else some (v, (t2, e2))) = _
    rw [ok_step, hn]
  · obtain ⟨h1, b4⟩ := b3 h
    obtain ⟨h0, a4⟩ := a3 h1
    refine ⟨h0, fun r hr => ?_⟩
    unfold octet_Reader_Count
    rw [a4 r hr, Option.bind_some]
    refine (congrArg (fun z : Option (List UInt8 × Int) => z.bind _) (b4 r hr)).trans ?_
    rw [Option.bind_some]
    show (if (!(octet_Reader_Ok (t2 ++ r, 0))) = true then some ((0 : Int), (t2 ++ r, (0 : Int))) else some (v, (t2 ++ r, 0))) = _
    rw [ok_step, hn, if_pos h, if_pos rfl]
theorem flag_loc : Loc octet_Reader_Flag := fun t e ht => by
  obtain ⟨v, t1, e1, hb, hz, a1, a2, a3⟩ := byte_loc t e ht
  obtain ⟨t2, e2, b1, b2, b0, b3⟩ := wrong_step (1 < v) 5 (by decide) t1 e1
  refine ⟨(octet_Reader_Ok (t2, e2) && decide (v = 1)), t2, e2, ?_, by omega, fun h => ?_⟩
  · unfold octet_Reader_Flag
    rw [a1, Option.bind_some, b1, Option.bind_some]
  · obtain ⟨h1, b4⟩ := b3 h
    obtain ⟨h0, a4⟩ := a3 h1
    subst h
    refine ⟨h0, fun r hr => ?_⟩
    unfold octet_Reader_Flag
    rw [a4 r hr, Option.bind_some]
    refine (congrArg (fun z : Option (List UInt8 × Int) => z.bind _) (b4 r hr)).trans ?_
    rfl
theorem mloop_loc : ∀ (d k : Nat), k + d = 4 → ∀ (v m : P4) (t : List UInt8) (e : Int), t.length ≤ 10000 → Bys v →
    ∃ (V M : P4) (t' : List UInt8) (e' : Int), Bys V ∧ loopW match_Read_l1 ((k : Int), v.1, v.2.1, v.2.2.1, v.2.2.2, m.1, m.2.1, m.2.2.1, m.2.2.2, t, e) = some (V.1, V.2.1, V.2.2.1, V.2.2.2, M.1, M.2.1, M.2.2.1, M.2.2.2, t', e') ∧ t'.length ≤ t.length ∧ (e' = 0 → e = 0 ∧ ∀ r : List UInt8, r.length ≤ 10000 → loopW match_Read_l1 ((k : Int), v.1, v.2.1, v.2.2.1, v.2.2.2, m.1, m.2.1, m.2.2.1, m.2.2.2, t ++ r, 0) = some (V.1, V.2.1, V.2.2.1, V.2.2.2, M.1, M.2.1, M.2.2.1, M.2.2.2, t' ++ r, 0)) := by
  intro d
  induction d with
  | zero =>
    intro k hk v m t e ht hv
    obtain rfl : k = 4 := by omega
    refine ⟨v, m, t, e, hv, ?_, Nat.le_refl _, fun h => ⟨h, fun r _ => ?_⟩⟩
    · exact loopW_end (by rw [match_Read_l1, if_neg (by decide)])
    · exact loopW_end (by rw [match_Read_l1, if_neg (by decide)])
  | succ d ih =>
    intro k hk v m t e ht hv
    have hk4 : k < 4 := by omega
    obtain ⟨x, t1, e1, hx, _, a1, a2, a3⟩ := byte_loc t e ht
    obtain ⟨y, t2, e2, hy, _, b1, b2, b3⟩ := byte_loc t1 e1 (by omega)
    have st : ∀ (ta tb tc : List UInt8) (ea eb ec : Int), octet_Reader_Num (ta, ea) 1 = some (x, (tb, eb)) → octet_Reader_Num (tb, eb) 1 = some (y, (tc, ec)) → match_Read_l1 ((k : Int), v.1, v.2.1, v.2.2.1, v.2.2.2, m.1, m.2.1, m.2.2.1, m.2.2.2, ta, ea) = some (.inl (((k + 1 : Nat) : Int), (put4 v (k : Int) x).1, (put4 v (k : Int) x).2.1, (put4 v (k : Int) x).2.2.1, (put4 v (k : Int) x).2.2.2, (put4 m (k : Int) y).1, (put4 m (k : Int) y).2.1, (put4 m (k : Int) y).2.2.1, (put4 m (k : Int) y).2.2.2, tc, ec)) := fun ta tb tc ea eb ec h1 h2 => by
      rw [match_Read_l1, if_pos (by omega), h1, Option.bind_some, ix4 v hk4, Option.bind_some, h2, Option.bind_some, ix4 m hk4, Option.bind_some, w64_id (by omega)]; rfl
    have hv' : Bys (put4 v (k : Int) x) := fun j hj => by
      have hkc : k = 0 ∨ k = 1 ∨ k = 2 ∨ k = 3 := by omega
      have hjc : j = 0 ∨ j = 1 ∨ j = 2 ∨ j = 3 := by omega
      have v0 := hv 0 (by decide)
      have v1 := hv 1 (by decide)
      have v2 := hv 2 (by decide)
      have v3 := hv 3 (by decide)
      rcases hkc with rfl | rfl | rfl | rfl <;> rcases hjc with rfl | rfl | rfl | rfl <;> assumption
    obtain ⟨V, M, t', e', hV, c1, c2, c3⟩ := ih (k + 1) (by omega) (put4 v (k : Int) x) (put4 m (k : Int) y) t2 e2 (by omega) hv'
    refine ⟨V, M, t', e', hV, ?_, by omega, fun h => ?_⟩
    · rw [loopW_go (st _ _ _ _ _ _ a1 b1)]; exact c1
    · obtain ⟨h2, c4⟩ := c3 h
      obtain ⟨h1, b4⟩ := b3 h2
      obtain ⟨h0, a4⟩ := a3 h1
      exact ⟨h0, fun r hr => by rw [loopW_go (st _ _ _ _ _ _ (a4 r hr) (b4 r hr))]; exact c4 r hr⟩
theorem mread_loc : Loc match_Read := fun t e ht => by
  obtain ⟨c, t1, e1, hc, _, a1, a2, a3⟩ := byte_loc t e ht
  obtain ⟨V, M, t2, e2, hV, b1, b2, b3⟩ := mloop_loc 4 0 rfl (0, 0, 0, 0) (0, 0, 0, 0) t1 e1 (by omega) (by decide)
  have hVi : I4 V := by
    have g : ∀ k, k < 4 → i64 (p4 V k) := fun k hk => by
      have := hV k hk
      have h1 := this.1
      have h2 := this.2
      constructor <;> omega
    exact ⟨g 0 (by decide), g 1 (by decide), g 2 (by decide), g 3 (by decide)⟩
  have er : match_Right (w64 (c - 1), V, M) = some (decide (Good (w64 (c - 1), V, M))) := right_eq hVi
  obtain ⟨t3, e3, d1, d2, d0, d3⟩ := wrong_step ((!(decide (Good (w64 (c - 1), V, M)))) = true) 2 (by decide) t2 e2
  refine ⟨(if e3 = 0 then (w64 (c - 1), V, M) else (0, (0, 0, 0, 0), (0, 0, 0, 0))), t3, e3, ?_, by omega, fun h => ?_⟩
  · unfold match_Read
    rw [a1, Option.bind_some]
    refine (congrArg (fun z : Option (Int × Int × Int × Int × Int × Int × Int × Int × List UInt8 × Int) => z.bind _) b1).trans ?_
    rw [Option.bind_some]
    show ((match_Right (w64 (c - 1), V, M)).bind _).bind _ = _
    rw [er, Option.bind_some]
    refine (congrArg (fun z : Option (List UInt8 × Int) => z.bind _) d1).trans ?_
    rw [Option.bind_some]
    exact ok_step _ _ _ _
  · obtain ⟨h2, d4⟩ := d3 h
    obtain ⟨h1, b4⟩ := b3 h2
    obtain ⟨h0, a4⟩ := a3 h1
    refine ⟨h0, fun r hr => ?_⟩
    unfold match_Read
    rw [a4 r hr, Option.bind_some]
    refine (congrArg (fun z : Option (Int × Int × Int × Int × Int × Int × Int × Int × List UInt8 × Int) => z.bind _) (b4 r hr)).trans ?_
    rw [Option.bind_some]
    show ((match_Right (w64 (c - 1), V, M)).bind _).bind _ = _
    rw [er, Option.bind_some]
    refine (congrArg (fun z : Option (List UInt8 × Int) => z.bind _) (d4 r hr)).trans ?_
    rw [Option.bind_some, if_pos h]
    refine (ok_step _ _ _ _).trans ?_
    rw [if_pos rfl]
theorem acts_loc (ports : Int) {n : Nat} (hn : n ≤ 16) (px : Rd) : ∀ (d k : Nat), k + d = n → ∀ (l : List A3) (t : List UInt8) (e : Int), l.length = k → t.length ≤ 10000 →
    ∃ (L : List A3) (t' : List UInt8) (e' : Int), loopW (act_Read_l1 ports ((n : Int), px)) (l, (k : Int), t, e) = some (L, t', e') ∧ t'.length ≤ t.length ∧ (e' = 0 → e = 0 ∧ ∀ (py : Rd) (r : List UInt8), r.length ≤ 10000 → loopW (act_Read_l1 ports ((n : Int), py)) (l, (k : Int), t ++ r, 0) = some (L, t' ++ r, 0)) := by
  intro d
  induction d with
  | zero =>
    intro k hk l t e hl ht
    obtain rfl : k = n := by omega
    refine ⟨l, t, e, loopW_end (by rw [act_Read_l1, if_neg (by omega)]), Nat.le_refl _, fun h => ⟨h, fun py r _ => loopW_end (by rw [act_Read_l1, if_neg (by omega)])⟩⟩
  | succ d ih =>
    intro k hk l t e hl ht
    obtain ⟨a, t1, e1, _, _, a1, a2, a3⟩ := byte_loc t e ht
    obtain ⟨b, t2, e2, _, _, b1, b2, b3⟩ := byte_loc t1 e1 (by omega)
    obtain ⟨c, t3, e3, _, _, c1, c2, c3⟩ := byte_loc t2 e2 (by omega)
    obtain ⟨t4, e4, d1, d2, d0, d3⟩ := wrong_step ((!(decide (OkA ports (a, b, c)))) = true) 2 (by decide) t3 e3
    obtain ⟨L, t', e', f1, f2, f3⟩ := ih (k + 1) (by omega) (l ++ [(a, b, c)]) t4 e4 (by simp [hl]) (by omega)
    have st : ∀ (pz : Rd) (ta tb tc td te : List UInt8) (ea eb ec ed ee : Int), octet_Reader_Num (ta, ea) 1 = some (a, (tb, eb)) → octet_Reader_Num (tb, eb) 1 = some (b, (tc, ec)) → octet_Reader_Num (tc, ec) 1 = some (c, (td, ed)) → (if (!(decide (OkA ports (a, b, c)))) = true then some ((octet_Reader_Wrong (td, ed) 2).1, (octet_Reader_Wrong (td, ed) 2).2) else some (td, ed)) = some (te, ee) → act_Read_l1 ports ((n : Int), pz) (l, (k : Int), ta, ea) = some (.inl (l ++ [(a, b, c)], ((k + 1 : Nat) : Int), te, ee)) := fun pz ta tb tc td te ea eb ec ed ee h1 h2 h3 h4 => by
      rw [act_Read_l1, if_pos (by simp only; omega), h1, Option.bind_some, h2, Option.bind_some, h3, Option.bind_some, act_eq, Option.bind_some]
      refine (congrArg (fun z : Option (List UInt8 × Int) => z.bind _) h4).trans ?_
      rw [Option.bind_some]
      show (app l _).bind _ = _
      rw [app_is (by simp; omega), Option.bind_some, w64_id (by omega)]; rfl
    refine ⟨L, t', e', ?_, by omega, fun h => ?_⟩
    · rw [loopW_go (st px _ _ _ _ _ _ _ _ _ _ a1 b1 c1 d1)]; exact f1
    · obtain ⟨h4, f4⟩ := f3 h
      obtain ⟨h3, d4⟩ := d3 h4
      obtain ⟨h2, c4⟩ := c3 h3
      obtain ⟨h1, b4⟩ := b3 h2
      obtain ⟨h0, a4⟩ := a3 h1
      exact ⟨h0, fun py r hr => by rw [loopW_go (st py _ _ _ _ _ _ _ _ _ _ (a4 r hr) (b4 r hr) (c4 r hr) (d4 r hr))]; exact f4 py r hr⟩
theorem aread_loc (ports : Int) : Loc (fun p => act_Read p ports) := fun t e ht => by
  obtain ⟨n, t1, e1, hn, a1, a2, a3⟩ := count_loc t e ht
  obtain ⟨L, t2, e2, b1, b2, b3⟩ := acts_loc ports hn (t1, e1) n 0 (by omega) [] t1 e1 rfl (by omega)
  refine ⟨(if e2 = 0 then L else []), t2, e2, ?_, by omega, fun h => ?_⟩
  · show act_Read (t, e) ports = _
    unfold act_Read
    rw [a1, Option.bind_some]
    refine (congrArg (fun z : Option (List A3 × List UInt8 × Int) => z.bind _) b1).trans ?_
    rw [Option.bind_some]
    exact ok_step _ _ _ _
  · obtain ⟨h1, b4⟩ := b3 h
    obtain ⟨h0, a4⟩ := a3 h1
    refine ⟨h0, fun r hr => ?_⟩
    show act_Read (t ++ r, 0) ports = _
    unfold act_Read
    rw [a4 r hr, Option.bind_some]
    refine (congrArg (fun z : Option (List A3 × List UInt8 × Int) => z.bind _) (b4 _ r hr)).trans ?_
    rw [Option.bind_some, if_pos h]
    refine (ok_step _ _ _ _).trans ?_
    rw [if_pos rfl]
theorem rread_loc : Loc (fun p => rule_Read p 8) := fun t e ht => by
  obtain ⟨v, t1, e1, a1, a2, a3⟩ := num_loc 2 (by decide) t e ht
  obtain ⟨m, t2, e2, b1, b2, b3⟩ := mread_loc t1 e1 (by omega)
  obtain ⟨L, t3, e3, c1, c2, c3⟩ := aread_loc 8 t2 e2 (by omega)
  refine ⟨(if e3 = 0 then (v, m, L) else (0, (0, (0, 0, 0, 0), (0, 0, 0, 0)), [])), t3, e3, ?_, by omega, fun h => ?_⟩
  · show rule_Read (t, e) 8 = _
    unfold rule_Read
    rw [show octet_Reader_Num (t, e) 2 = _ from a1, Option.bind_some, b1, Option.bind_some, show act_Read (t2, e2) 8 = _ from c1, Option.bind_some]
    exact ok_step _ _ _ _
  · obtain ⟨h2, c4⟩ := c3 h
    obtain ⟨h1, b4⟩ := b3 h2
    obtain ⟨h0, a4⟩ := a3 h1
    refine ⟨h0, fun r hr => ?_⟩
    show rule_Read (t ++ r, 0) 8 = _
    unfold rule_Read
    rw [show octet_Reader_Num (t ++ r, 0) 2 = _ from a4 r hr, Option.bind_some, b4 r hr, Option.bind_some, show act_Read (t2 ++ r, 0) 8 = _ from c4 r hr, Option.bind_some, if_pos h]
    refine (ok_step _ _ _ _).trans ?_
    rw [if_pos rfl]
theorem mods_loc {n : Nat} (hn : n ≤ 16) (px : Rd) : ∀ (d k : Nat), k + d = n → ∀ (l : List Mo) (t : List UInt8) (e : Int), l.length = k → t.length ≤ 10000 →
    ∃ (L : List Mo) (t' : List UInt8) (e' : Int), loopW (proto_readMods_l1 ((n : Int), px)) (l, (k : Int), t, e) = some (L, t', e') ∧ t'.length ≤ t.length ∧ (e' = 0 → e = 0 ∧ ∀ (py : Rd) (r : List UInt8), r.length ≤ 10000 → loopW (proto_readMods_l1 ((n : Int), py)) (l, (k : Int), t ++ r, 0) = some (L, t' ++ r, 0)) := by
  intro d
  induction d with
  | zero =>
    intro k hk l t e hl ht
    obtain rfl : k = n := by omega
    refine ⟨l, t, e, loopW_end (by rw [proto_readMods_l1, if_neg (by omega)]), Nat.le_refl _, fun h => ⟨h, fun py r _ => loopW_end (by rw [proto_readMods_l1, if_neg (by omega)])⟩⟩
  | succ d ih =>
    intro k hk l t e hl ht
    obtain ⟨a, t1, e1, _, _, a1, a2, a3⟩ := byte_loc t e ht
    obtain ⟨b, t2, e2, b1, b2, b3⟩ := flag_loc t1 e1 (by omega)
    obtain ⟨c, t3, e3, c1, c2, c3⟩ := rread_loc t2 e2 (by omega)
    obtain ⟨L, t', e', f1, f2, f3⟩ := ih (k + 1) (by omega) (l ++ [(a, c, b)]) t3 e3 (by simp [hl]) (by omega)
    have st : ∀ (pz : Rd) (ta tb tc td : List UInt8) (ea eb ec ed : Int), octet_Reader_Num (ta, ea) 1 = some (a, (tb, eb)) → octet_Reader_Flag (tb, eb) = some (b, (tc, ec)) → rule_Read (tc, ec) 8 = some (c, (td, ed)) → proto_readMods_l1 ((n : Int), pz) (l, (k : Int), ta, ea) = some (.inl (l ++ [(a, c, b)], ((k + 1 : Nat) : Int), td, ed)) := fun pz ta tb tc td ea eb ec ed h1 h2 h3 => by
      rw [proto_readMods_l1, if_pos (by simp only; omega), h1, Option.bind_some, h2, Option.bind_some, h3, Option.bind_some, app_is (by simp; omega), Option.bind_some, w64_id (by omega)]; rfl
    refine ⟨L, t', e', ?_, by omega, fun h => ?_⟩
    · rw [loopW_go (st px _ _ _ _ _ _ _ _ a1 b1 c1)]; exact f1
    · obtain ⟨h3, f4⟩ := f3 h
      obtain ⟨h2, c4⟩ := c3 h3
      obtain ⟨h1, b4⟩ := b3 h2
      obtain ⟨h0, a4⟩ := a3 h1
      exact ⟨h0, fun py r hr => by rw [loopW_go (st py _ _ _ _ _ _ _ _ (a4 r hr) (b4 r hr) (c4 r hr))]; exact f4 py r hr⟩
theorem modsread_loc : Loc proto_readMods := fun t e ht => by
  obtain ⟨n, t1, e1, hn, a1, a2, a3⟩ := count_loc t e ht
  obtain ⟨L, t2, e2, b1, b2, b3⟩ := mods_loc hn (t1, e1) n 0 (by omega) [] t1 e1 rfl (by omega)
  refine ⟨L, t2, e2, ?_, by omega, fun h => ?_⟩
  · unfold proto_readMods
    rw [a1, Option.bind_some]
    refine (congrArg (fun z : Option (List Mo × List UInt8 × Int) => z.bind _) b1).trans ?_
    rfl
  · obtain ⟨h1, b4⟩ := b3 h
    obtain ⟨h0, a4⟩ := a3 h1
    refine ⟨h0, fun r hr => ?_⟩
    unfold proto_readMods
    rw [a4 r hr, Option.bind_some]
    refine (congrArg (fun z : Option (List Mo × List UInt8 × Int) => z.bind _) (b4 _ r hr)).trans ?_
    rfl
theorem opt_loc {α β : Type} {F : Rd → Option (α × Rd)} (hF : Loc F) (c : Prop) [Decidable c] (g : α → β) (d : β) (t : List UInt8) (e : Int) (ht : t.length ≤ 10000) : ∃ (v : β) (t' : List UInt8) (e' : Int), (if c then (F (t, e)).bind fun x => some (x.2.1, x.2.2, g x.1) else some (t, e, d)) = some (t', e', v) ∧ t'.length ≤ t.length ∧ (e' = 0 → e = 0 ∧ ∀ r : List UInt8, r.length ≤ 10000 → (if c then (F (t ++ r, 0)).bind fun x => some (x.2.1, x.2.2, g x.1) else some (t ++ r, (0 : Int), d)) = some (t' ++ r, 0, v)) := by
  by_cases hc : c
  · obtain ⟨v, t', e', h1, h2, h3⟩ := hF t e ht
    refine ⟨g v, t', e', by rw [if_pos hc, h1]; rfl, h2, fun h => ⟨(h3 h).1, fun r hr => by rw [if_pos hc, (h3 h).2 r hr]; rfl⟩⟩
  · exact ⟨d, t, e, by rw [if_neg hc], Nat.le_refl _, fun h => ⟨h, fun r _ => by rw [if_neg hc]⟩⟩
theorem read_loc : Loc proto_read := fun t e ht => by
  obtain ⟨k, t1, e1, a1, a2, a3⟩ := num_loc 1 (by decide) t e ht
  obtain ⟨s, t2, e2, b1, b2, b3⟩ := num_loc 1 (by decide) t1 e1 (by omega)
  obtain ⟨t3, e3, c1, c2, _, c3⟩ := wrong_step ((!((proto_fields k).2)) = true) 9 (by decide) t2 e2
  obtain ⟨v1, t4, e4, d1, d2, d3⟩ := opt_loc int_loc (andI .i64 (proto_fields k).1 1 ≠ 0) (fun x => x) (0 : Int) t3 e3 (by omega)
  obtain ⟨v2, t5, e5, f1, f2, f3⟩ := opt_loc int_loc (andI .i64 (proto_fields k).1 2 ≠ 0) (fun x => x) (0 : Int) t4 e4 (by omega)
  obtain ⟨v3, t6, e6, g1, g2, g3⟩ := opt_loc (num_loc 2 (by decide)) (andI .i64 (proto_fields k).1 4 ≠ 0) (fun x => x) (0 : Int) t5 e5 (by omega)
  obtain ⟨v4, t7, e7, h1, h2, h3⟩ := opt_loc (num_loc 2 (by decide)) (andI .i64 (proto_fields k).1 8 ≠ 0) (fun x => x) (0 : Int) t6 e6 (by omega)
  obtain ⟨v5, t8, e8, i1, i2, i3⟩ := opt_loc (num_loc 1 (by decide)) (andI .i64 (proto_fields k).1 16 ≠ 0) (fun x => w64 (x - 1)) (0 : Int) t7 e7 (by omega)
  obtain ⟨v6, t9, e9, j1, j2, j3⟩ := opt_loc (num_loc 1 (by decide)) (andI .i64 (proto_fields k).1 32 ≠ 0) (fun x => x) (0 : Int) t8 e8 (by omega)
  obtain ⟨v7, ta, ea, k1, k2, k3⟩ := opt_loc (num_loc 1 (by decide)) (andI .i64 (proto_fields k).1 64 ≠ 0) (fun x => x) (0 : Int) t9 e9 (by omega)
  obtain ⟨v8, tb, eb, l1, l2, l3⟩ := opt_loc modsread_loc (andI .i64 (proto_fields k).1 128 ≠ 0) (fun x => x) ([] : List Mo) ta ea (by omega)
  have st : ∀ (x0 x1 x2 x3 x4 x5 x6 x7 x8 x9 xa xb : List UInt8) (y0 y1 y2 y3 y4 y5 y6 y7 y8 y9 ya yb : Int), octet_Reader_Num (x0, y0) 1 = some (k, (x1, y1)) → octet_Reader_Num (x1, y1) 1 = some (s, (x2, y2)) → (if (!((proto_fields k).2)) = true then some ((octet_Reader_Wrong (x2, y2) 9).1, (octet_Reader_Wrong (x2, y2) 9).2) else some (x2, y2)) = some (x3, y3) →
      (if andI .i64 (proto_fields k).1 1 ≠ 0 then (octet_Reader_Int (x3, y3)).bind fun x => some (x.2.1, x.2.2, x.1) else some (x3, y3, 0)) = some (x4, y4, v1) →
      (if andI .i64 (proto_fields k).1 2 ≠ 0 then (octet_Reader_Int (x4, y4)).bind fun x => some (x.2.1, x.2.2, x.1) else some (x4, y4, 0)) = some (x5, y5, v2) →
      (if andI .i64 (proto_fields k).1 4 ≠ 0 then (octet_Reader_Num (x5, y5) 2).bind fun x => some (x.2.1, x.2.2, x.1) else some (x5, y5, 0)) = some (x6, y6, v3) →
      (if andI .i64 (proto_fields k).1 8 ≠ 0 then (octet_Reader_Num (x6, y6) 2).bind fun x => some (x.2.1, x.2.2, x.1) else some (x6, y6, 0)) = some (x7, y7, v4) →
      (if andI .i64 (proto_fields k).1 16 ≠ 0 then (octet_Reader_Num (x7, y7) 1).bind fun x => some (x.2.1, x.2.2, w64 (x.1 - 1)) else some (x7, y7, 0)) = some (x8, y8, v5) →
      (if andI .i64 (proto_fields k).1 32 ≠ 0 then (octet_Reader_Num (x8, y8) 1).bind fun x => some (x.2.1, x.2.2, x.1) else some (x8, y8, 0)) = some (x9, y9, v6) →
      (if andI .i64 (proto_fields k).1 64 ≠ 0 then (octet_Reader_Num (x9, y9) 1).bind fun x => some (x.2.1, x.2.2, x.1) else some (x9, y9, 0)) = some (xa, ya, v7) →
      (if andI .i64 (proto_fields k).1 128 ≠ 0 then (proto_readMods (xa, ya)).bind fun x => some (x.2.1, x.2.2, x.1) else some (xa, ya, [])) = some (xb, yb, v8) →
      proto_read (x0, y0) = some ((k, s, v4, v5, v1, v2, v3, v6, v7, v8), (xb, yb)) := fun x0 x1 x2 x3 x4 x5 x6 x7 x8 x9 xa xb y0 y1 y2 y3 y4 y5 y6 y7 y8 y9 ya yb q1 q2 q3 q4 q5 q6 q7 q8 q9 qa qb => by
    unfold proto_read
    rw [q1, Option.bind_some, q2, Option.bind_some]
    refine (congrArg (fun z : Option (List UInt8 × Int) => z.bind _) q3).trans ?_
    rw [Option.bind_some]
    refine (congrArg (fun z : Option (List UInt8 × Int × Int) => z.bind _) q4).trans ?_
    rw [Option.bind_some]
    refine (congrArg (fun z : Option (List UInt8 × Int × Int) => z.bind _) q5).trans ?_
    rw [Option.bind_some]
    refine (congrArg (fun z : Option (List UInt8 × Int × Int) => z.bind _) q6).trans ?_
    rw [Option.bind_some]
    refine (congrArg (fun z : Option (List UInt8 × Int × Int) => z.bind _) q7).trans ?_
    rw [Option.bind_some]
    refine (congrArg (fun z : Option (List UInt8 × Int × Int) => z.bind _) q8).trans ?_
    rw [Option.bind_some]
    refine (congrArg (fun z : Option (List UInt8 × Int × Int) => z.bind _) q9).trans ?_
    rw [Option.bind_some]
    refine (congrArg (fun z : Option (List UInt8 × Int × Int) => z.bind _) qa).trans ?_
    rw [Option.bind_some]
    refine (congrArg (fun z : Option (List UInt8 × Int × List Mo) => z.bind _) qb).trans ?_
    rfl
  refine ⟨(k, s, v4, v5, v1, v2, v3, v6, v7, v8), tb, eb, st _ _ _ _ _ _ _ _ _ _ _ _ _ _ _ _ _ _ _ _ _ _ _ _ a1 b1 c1 d1 f1 g1 h1 i1 j1 k1 l1, by omega, fun h => ?_⟩
  obtain ⟨za, l4⟩ := l3 h
  obtain ⟨z9, k4⟩ := k3 za
  obtain ⟨z8, j4⟩ := j3 z9
  obtain ⟨z7, i4⟩ := i3 z8
  obtain ⟨z6, h4⟩ := h3 z7
  obtain ⟨z5, g4⟩ := g3 z6
  obtain ⟨z4, f4⟩ := f3 z5
  obtain ⟨z3, d4⟩ := d3 z4
  obtain ⟨z2, c4⟩ := c3 z3
  obtain ⟨z1, b4⟩ := b3 z2
  obtain ⟨z0, a4⟩ := a3 z1
  exact ⟨z0, fun r hr => st _ _ _ _ _ _ _ _ _ _ _ _ _ _ _ _ _ _ _ _ _ _ _ _ (a4 r hr) (b4 r hr) (c4 r hr) (d4 r hr) (f4 r hr) (g4 r hr) (h4 r hr) (i4 r hr) (j4 r hr) (k4 r hr) (l4 r hr)⟩
/-! ### The statement -/
theorem parse_more {m : Ms} (h : Ok16 m) (b : UInt8) : ∃ z : Ms, proto_Parse (msgV m ++ [b]) = some (z, 5) := by
  have e := read_msg h [b] (Nat.le_refl 1)
  unfold proto_Parse
  rw [e, Option.bind_some, endR_eq, Option.bind_some]
  exact ⟨_, rfl⟩
theorem parse_less {m : Ms} (h : Ok16 m) (hl : (msgV m).length ≤ 1100) (t : List UInt8) (b : UInt8) (ht : msgV m = t ++ [b]) : ∃ (z : Ms) (e : Int), e ≠ 0 ∧ proto_Parse t = some (z, e) := by
  have hlt : t.length ≤ 10000 := by
    rw [ht, List.length_append] at hl; omega
  obtain ⟨v, t', e', a1, a2, a3⟩ := read_loc t 0 hlt
  have e := read_msg h [] (by decide)
  rw [List.append_nil, ht] at e
  have hne : ¬ (e' = 0 ∧ t' = []) := fun ⟨h1, h2⟩ => by
    have := (a3 h1).2 [b] (show 1 ≤ 10000 by decide)
    rw [show proto_read (t ++ [b], 0) = _ from e, h2] at this
    simp at this
  unfold proto_Parse octet_Open
  rw [a1, Option.bind_some, endR_eq, Option.bind_some]
  by_cases h0 : e' = 0
  · have ht' : t' ≠ [] := fun hh => hne ⟨h0, hh⟩
    have hh : (if e' = 0 ∧ t' ≠ [] then (5 : Int) else e') = 5 := if_pos ⟨h0, ht'⟩
    show ∃ (z : Ms) (e : Int), e ≠ 0 ∧ (if (if e' = 0 ∧ t' ≠ [] then (5 : Int) else e') ≠ 0 then _ else _) = _
    rw [hh]
    exact ⟨_, 5, by decide, rfl⟩
  · have hh : (if e' = 0 ∧ t' ≠ [] then (5 : Int) else e') = e' := if_neg (fun hh => h0 hh.1)
    show ∃ (z : Ms) (e : Int), e ≠ 0 ∧ (if (if e' = 0 ∧ t' ≠ [] then (5 : Int) else e') ≠ 0 then _ else _) = _
    rw [hh, if_pos h0]
    exact ⟨_, e', h0, rfl⟩
theorem ProtoBack_core (p0 : Ms) (p1 : Int) (h0 : Lm p0.2.2.2.2.2.2.2.2.2) (hi : Im p0.2.2.2.2.2.2.2.2.2) : L16_ProtoBack p0 p1 = some true := by
  unfold L16_ProtoBack
  rw [awake16, rright16_eq h0, Option.bind_some]
  by_cases c : Ok16 p0
  · have hs : Sm p0.2.2.2.2.2.2.2.2.2 := ⟨by have := c.2.2.2.2.1; omega, fun x hx => (c.2.2.2.2.2 x hx).2.2.2.1⟩
    obtain ⟨e1, hl⟩ := code16_eq c hs hi
    have hpos : 1 ≤ (msgV p0).length := by
      unfold msgV
      simp only [List.length_append, be_len]; omega
    obtain ⟨b, hb⟩ : ∃ b : UInt8, strOf ([p1] : List Int) = [b] := ⟨_, rfl⟩
    obtain ⟨z1, q1⟩ := parse_more c b
    have hne : msgV p0 ≠ [] := fun hh => by rw [hh] at hpos; simp at hpos
    obtain ⟨z2, e2, he2, q2⟩ := parse_less c hl (msgV p0).dropLast ((msgV p0).getLast hne) (List.dropLast_concat_getLast hne).symm
    rw [decide_eq_true c, if_neg (by decide), e1, Option.bind_some, if_neg (by omega), parse_msg c hs hi, Option.bind_some, hb, app_is (by simp; omega), Option.bind_some, q1, Option.bind_some, w64_id (by omega), subl_is (by omega), Option.bind_some]
    have hd : ((msgV p0).take (Int.toNat (((msgV p0).length : Int) - 1))).drop (Int.toNat 0) = (msgV p0).dropLast := by
      rw [List.dropLast_eq_take, show Int.toNat (((msgV p0).length : Int) - 1) = (msgV p0).length - 1 by omega]; rfl
    rw [hd, q2, Option.bind_some, rsame16_eq h0]
    show ((some (decide (p0 = p0))).bind _).bind _ = _
    rw [decide_eq_true rfl, Option.bind_some, if_pos rfl, if_pos rfl, if_pos (show (5 : Int) ≠ 0 by decide), if_pos he2]; rfl
  · rw [decide_eq_false c]; rfl
theorem ProtoBack_true (p0 : Ms) (ok0 : okMs p0) (p1 : Int) {A : Prop} (_ : A) : L16_ProtoBack p0 p1 = some true := ProtoBack_core p0 p1 (ok_lm ok0) (ok_im ok0)
end Go.Proofs.Ytnlllglfmipllaa
