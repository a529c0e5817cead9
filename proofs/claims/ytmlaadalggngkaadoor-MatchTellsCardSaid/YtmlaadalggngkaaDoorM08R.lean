/- Layer 8: reading. Conditions: none. -/
import Derived.Test.YtmlaadalggngkaaDoorM08
namespace Go.Proofs.YtmlaadalggngkaaDoor
set_option linter.unusedVariables false
set_option linter.unusedSimpArgs false
open Go Go.RowKit
/-! ### Bytes -/
def codeM (m : Mt) : List UInt8 := be 1 (m.1 + 1) ++ (be 1 m.2.1.1 ++ be 1 m.2.2.1) ++ (be 1 m.2.1.2.1 ++ be 1 m.2.2.2.1) ++ (be 1 m.2.1.2.2.1 ++ be 1 m.2.2.2.2.1) ++ (be 1 m.2.1.2.2.2 ++ be 1 m.2.2.2.2.2)
theorem code_step {m : Mt} (h : Good m) {k : Nat} (hk : k < 4) (o : List UInt8) (ho : o.length ≤ 100) : match_Code_l1 m ((k : Int), o) = some (.inl (((k + 1 : Nat) : Int), o ++ (be 1 (p4 m.2.1 k) ++ be 1 (p4 m.2.2 k)))) := by
  obtain ⟨g1, g2⟩ := good_by h hk
  rw [match_Code_l1, if_pos (by omega), ix4 m.2.2 hk, Option.bind_some, ix4 m.2.1 hk, Option.bind_some, num_eq, Option.bind_some, num1 g1, app_is (by simp [be]; omega), Option.bind_some, num_eq, Option.bind_some, num1 g2, app_is (by simp [be]; omega), Option.bind_some, w64_id (by omega), List.append_assoc]; rfl
theorem code_eq {m : Mt} (h : Good m) : match_Code m = some (codeM m) := by
  have hp := h.1
  unfold match_Code codeM
  rw [w64_id (by omega), num_eq, Option.bind_some, num1 (by omega), app_is (by simp [be]), Option.bind_some, List.nil_append]
  have s0 := code_step h (k := 0) (by decide) (be 1 (m.1 + 1)) (by simp [be])
  have s1 := code_step h (k := 1) (by decide) (be 1 (m.1 + 1) ++ (be 1 m.2.1.1 ++ be 1 m.2.2.1)) (by simp [be])
  have s2 := code_step h (k := 2) (by decide) (be 1 (m.1 + 1) ++ (be 1 m.2.1.1 ++ be 1 m.2.2.1) ++ (be 1 m.2.1.2.1 ++ be 1 m.2.2.2.1)) (by simp [be])
  have s3 := code_step h (k := 3) (by decide) (be 1 (m.1 + 1) ++ (be 1 m.2.1.1 ++ be 1 m.2.2.1) ++ (be 1 m.2.1.2.1 ++ be 1 m.2.2.2.1) ++ (be 1 m.2.1.2.2.1 ++ be 1 m.2.2.2.2.1)) (by simp [be])
  have s4 : ∀ o, match_Code_l1 m (4, o) = some (.inr o) := fun o => by rw [match_Code_l1, if_neg (by decide)]
  have e : loopW (match_Code_l1 m) (0, be 1 (m.1 + 1)) = some (codeM m) := (loopW_go s0).trans ((loopW_go s1).trans ((loopW_go s2).trans ((loopW_go s3).trans (loopW_end (s4 _)))))
  rw [e, Option.bind_some, lenB_is (by unfold codeM; simp [be])]; rfl
theorem rcode_step {m : Mt} (h : Good m) {k : Nat} (hk : k < 4) (o : List UInt8) (ho : o.length ≤ 100) : r08_Code_l1 m (o, (k : Int)) = some (.inl (o ++ (be 1 (p4 m.2.1 k) ++ be 1 (p4 m.2.2 k)), ((k + 1 : Nat) : Int))) := by
  obtain ⟨g1, g2⟩ := good_by h hk
  rw [r08_Code_l1, if_pos (by omega), ix4 m.2.1 hk, Option.bind_some, rnum_eq _ _ (by have := g1.2; omega), Option.bind_some, num1 g1, app_is (by simp [be]; omega), Option.bind_some, ix4 m.2.2 hk, Option.bind_some, rnum_eq _ _ (by have := g2.2; omega), Option.bind_some, num1 g2, app_is (by simp [be]; omega), Option.bind_some, w64_id (by omega), List.append_assoc]; rfl
theorem rcode_eq {m : Mt} (h : Good m) : r08_Code m = some (codeM m) := by
  have hp := h.1
  unfold r08_Code codeM
  rw [w64_id (by omega), rnum_eq _ _ (by omega), Option.bind_some, num1 (by omega)]
  have s0 := rcode_step h (k := 0) (by decide) (be 1 (m.1 + 1)) (by simp [be])
  have s1 := rcode_step h (k := 1) (by decide) (be 1 (m.1 + 1) ++ (be 1 m.2.1.1 ++ be 1 m.2.2.1)) (by simp [be])
  have s2 := rcode_step h (k := 2) (by decide) (be 1 (m.1 + 1) ++ (be 1 m.2.1.1 ++ be 1 m.2.2.1) ++ (be 1 m.2.1.2.1 ++ be 1 m.2.2.2.1)) (by simp [be])
  have s3 := rcode_step h (k := 3) (by decide) (be 1 (m.1 + 1) ++ (be 1 m.2.1.1 ++ be 1 m.2.2.1) ++ (be 1 m.2.1.2.1 ++ be 1 m.2.2.2.1) ++ (be 1 m.2.1.2.2.1 ++ be 1 m.2.2.2.2.1)) (by simp [be])
  have s4 : ∀ o, r08_Code_l1 m (o, 4) = some (.inr o) := fun o => by rw [r08_Code_l1, if_neg (by decide)]
  have e : loopW (r08_Code_l1 m) (be 1 (m.1 + 1), 0) = some (codeM m) := (loopW_go s0).trans ((loopW_go s1).trans ((loopW_go s2).trans ((loopW_go s3).trans (loopW_end (s4 _)))))
  rw [e]; rfl
theorem num_byte (b : UInt8) (t : List UInt8) (ht : t.length ≤ 900000) : octet_Reader_Num (b :: t, 0) 1 = some ((b.toNat : Int), (t, 0)) := by
  rw [rnumR_eq _ _ (by simp; omega), preN_ok (by decide), show ((b :: t, 0) : List UInt8 × Int) = ([b] ++ t, 0) from rfl, takeR_app [b] t 1 rfl, val_one, w64_id (by have := b.toNat_lt; omega)]
theorem be1_byte {v : Int} (h : By v) : ∃ x : UInt8, be 1 v = [x] ∧ (x.toNat : Int) = v := by
  have h1 := h.1
  have h2 := h.2
  refine ⟨UInt8.ofNat (v % 256).toNat, rfl, ?_⟩
  rw [UInt8.toNat_ofNat_of_lt' (by show (v % 256).toNat < 256; omega)]; omega
theorem read_step8 {k : Nat} (hk : k < 4) (v m : P4) (x y : UInt8) (t : List UInt8) (ht : t.length ≤ 800000) :
    match_Read_l1 ((k : Int), v.1, v.2.1, v.2.2.1, v.2.2.2, m.1, m.2.1, m.2.2.1, m.2.2.2, x :: y :: t, 0) = some (.inl (((k + 1 : Nat) : Int), (put4 v (k : Int) (x.toNat : Int)).1, (put4 v (k : Int) (x.toNat : Int)).2.1, (put4 v (k : Int) (x.toNat : Int)).2.2.1, (put4 v (k : Int) (x.toNat : Int)).2.2.2, (put4 m (k : Int) (y.toNat : Int)).1, (put4 m (k : Int) (y.toNat : Int)).2.1, (put4 m (k : Int) (y.toNat : Int)).2.2.1, (put4 m (k : Int) (y.toNat : Int)).2.2.2, t, 0)) := by
  rw [match_Read_l1, if_pos (by omega), num_byte x (y :: t) (by simp; omega), Option.bind_some, ix4 v hk, Option.bind_some, num_byte y t (by omega), Option.bind_some, ix4 m hk, Option.bind_some, w64_id (by omega)]; rfl
theorem read_code8 {m : Mt} (h : Good m) : match_Read (octet_Open (codeM m)) = some (m, ([], 0)) := by
  have hp := h.1
  obtain ⟨c, ec, vc⟩ := be1_byte (v := m.1 + 1) (by constructor <;> omega)
  obtain ⟨x0, ex0, vx0⟩ : ∃ x : UInt8, be 1 m.2.1.1 = [x] ∧ (x.toNat : Int) = m.2.1.1 := be1_byte (good_by h (k := 0) (by decide)).1
  obtain ⟨y0, ey0, vy0⟩ : ∃ x : UInt8, be 1 m.2.2.1 = [x] ∧ (x.toNat : Int) = m.2.2.1 := be1_byte (good_by h (k := 0) (by decide)).2
  obtain ⟨x1, ex1, vx1⟩ : ∃ x : UInt8, be 1 m.2.1.2.1 = [x] ∧ (x.toNat : Int) = m.2.1.2.1 := be1_byte (good_by h (k := 1) (by decide)).1
  obtain ⟨y1, ey1, vy1⟩ : ∃ x : UInt8, be 1 m.2.2.2.1 = [x] ∧ (x.toNat : Int) = m.2.2.2.1 := be1_byte (good_by h (k := 1) (by decide)).2
  obtain ⟨x2, ex2, vx2⟩ : ∃ x : UInt8, be 1 m.2.1.2.2.1 = [x] ∧ (x.toNat : Int) = m.2.1.2.2.1 := be1_byte (good_by h (k := 2) (by decide)).1
  obtain ⟨y2, ey2, vy2⟩ : ∃ x : UInt8, be 1 m.2.2.2.2.1 = [x] ∧ (x.toNat : Int) = m.2.2.2.2.1 := be1_byte (good_by h (k := 2) (by decide)).2
  obtain ⟨x3, ex3, vx3⟩ : ∃ x : UInt8, be 1 m.2.1.2.2.2 = [x] ∧ (x.toNat : Int) = m.2.1.2.2.2 := be1_byte (good_by h (k := 3) (by decide)).1
  obtain ⟨y3, ey3, vy3⟩ : ∃ x : UInt8, be 1 m.2.2.2.2.2 = [x] ∧ (x.toNat : Int) = m.2.2.2.2.2 := be1_byte (good_by h (k := 3) (by decide)).2
  have hc : codeM m = [c, x0, y0, x1, y1, x2, y2, x3, y3] := by
    unfold codeM
    have e : ∀ a b c' d e' f g i j : List UInt8, a ++ (b ++ c') ++ (d ++ e') ++ (f ++ g) ++ (i ++ j) = a ++ (b ++ (c' ++ (d ++ (e' ++ (f ++ (g ++ (i ++ j))))))) := by intros; simp
    rw [e, ec, ex0, ey0, ex1, ey1, ex2, ey2, ex3, ey3]; rfl
  have s0 := read_step8 (k := 0) (by decide) (0, 0, 0, 0) (0, 0, 0, 0) x0 y0 [x1, y1, x2, y2, x3, y3] (by simp)
  have s1 := read_step8 (k := 1) (by decide) ((x0.toNat : Int), 0, 0, 0) ((y0.toNat : Int), 0, 0, 0) x1 y1 [x2, y2, x3, y3] (by simp)
  have s2 := read_step8 (k := 2) (by decide) ((x0.toNat : Int), (x1.toNat : Int), 0, 0) ((y0.toNat : Int), (y1.toNat : Int), 0, 0) x2 y2 [x3, y3] (by simp)
  have s3 := read_step8 (k := 3) (by decide) ((x0.toNat : Int), (x1.toNat : Int), (x2.toNat : Int), 0) ((y0.toNat : Int), (y1.toNat : Int), (y2.toNat : Int), 0) x3 y3 [] (by simp)
  have s4 : match_Read_l1 (4, (x0.toNat : Int), (x1.toNat : Int), (x2.toNat : Int), (x3.toNat : Int), (y0.toNat : Int), (y1.toNat : Int), (y2.toNat : Int), (y3.toNat : Int), [], 0) = some (.inr ((x0.toNat : Int), (x1.toNat : Int), (x2.toNat : Int), (x3.toNat : Int), (y0.toNat : Int), (y1.toNat : Int), (y2.toNat : Int), (y3.toNat : Int), [], 0)) := by rw [match_Read_l1, if_neg (by decide)]
  have e : loopW match_Read_l1 (0, 0, 0, 0, 0, 0, 0, 0, 0, [x0, y0, x1, y1, x2, y2, x3, y3], 0) = some ((x0.toNat : Int), (x1.toNat : Int), (x2.toNat : Int), (x3.toNat : Int), (y0.toNat : Int), (y1.toNat : Int), (y2.toNat : Int), (y3.toNat : Int), [], 0) :=
    (loopW_go s0).trans ((loopW_go s1).trans ((loopW_go s2).trans ((loopW_go s3).trans (loopW_end s4))))
  unfold match_Read octet_Open
  rw [hc, num_byte c _ (by simp), Option.bind_some]
  show (loopW match_Read_l1 (0, 0, 0, 0, 0, 0, 0, 0, 0, [x0, y0, x1, y1, x2, y2, x3, y3], 0)).bind _ = _
  rw [e, vc, vx0, vx1, vx2, vx3, vy0, vy1, vy2, vy3, Option.bind_some]
  have hm : ((w64 (m.1 + 1 - 1), (m.2.1.1, m.2.1.2.1, m.2.1.2.2.1, m.2.1.2.2.2), (m.2.2.1, m.2.2.2.1, m.2.2.2.2.1, m.2.2.2.2.2)) : Mt) = m := by
    rw [show m.1 + 1 - 1 = m.1 by omega, w64_id (by omega)]
  have hgi : I4 m.2.1 := by
    have g : ∀ k, k < 4 → i64 (p4 m.2.1 k) := fun k hk => by
      have := (good_by h hk).1
      have h1 := this.1
      have h2 := this.2
      constructor <;> omega
    exact ⟨g 0 (by decide), g 1 (by decide), g 2 (by decide), g 3 (by decide)⟩
  show ((match_Right (w64 (m.1 + 1 - 1), (m.2.1.1, m.2.1.2.1, m.2.1.2.2.1, m.2.1.2.2.2), (m.2.2.1, m.2.2.2.1, m.2.2.2.2.1, m.2.2.2.2.2))).bind _).bind _ = _
  rw [hm, right_eq hgi, decide_eq_true h]
  rfl
/-! ### Any bytes -/
theorem num_val {p : List UInt8 × Int} : ∃ v : Int, w64 (val (takeR (preN p 1) 1).1) = v ∧ By v := by
  have hl : (takeR (preN p 1) 1).1.length ≤ 1 := by
    unfold takeR
    split
    · simp
    · split
      · simp
      · split
        · simp
        · (simp; omega)
  generalize (takeR (preN p 1) 1).1 = l at hl
  have : l = [] ∨ ∃ b, l = [b] := by
    cases l with
    | nil => exact .inl rfl
    | cons b t => cases t with
      | nil => exact .inr ⟨b, rfl⟩
      | cons c t => simp at hl
  rcases this with rfl | ⟨b, rfl⟩
  · exact ⟨0, rfl, by decide⟩
  · have := b.toNat_lt
    rw [val_one, w64_id (by omega)]
    exact ⟨_, rfl, by constructor <;> omega⟩
theorem two_nums {p : List UInt8 × Int} {q : List UInt8 × Int × Int} (h : Rel p q) : ∃ (v : Int) (p1 : List UInt8 × Int) (q1 : List UInt8 × Int × Int), By v ∧ octet_Reader_Num p 1 = some (v, p1) ∧ r04_Reader_Num q 1 = some (v, q1) ∧ Rel p1 q1 := by
  have hpl := h.plen
  have h1 := rnumR_eq p 1 (by omega)
  obtain ⟨q1, h2, h3⟩ := rel_num h 1
  obtain ⟨v, hv, hb⟩ := num_val (p := p)
  rw [hv] at h1 h2
  exact ⟨v, _, q1, hb, h1, h2, h3⟩
theorem reads_loop8 : ∀ (d k : Nat), k + d = 4 → ∀ (v m : P4) (p : List UInt8 × Int) (q : List UInt8 × Int × Int), Rel p q → Bys v →
    ∃ (V M : P4) (p' : List UInt8 × Int) (q' : List UInt8 × Int × Int), loopW match_Read_l1 ((k : Int), v.1, v.2.1, v.2.2.1, v.2.2.2, m.1, m.2.1, m.2.2.1, m.2.2.2, p.1, p.2) = some (V.1, V.2.1, V.2.2.1, V.2.2.2, M.1, M.2.1, M.2.2.1, M.2.2.2, p'.1, p'.2) ∧ loopW r08_Read_l1 ((k : Int), q.1, q.2.1, q.2.2, v.1, v.2.1, v.2.2.1, v.2.2.2, m) = some (q'.1, q'.2.1, q'.2.2, V.1, V.2.1, V.2.2.1, V.2.2.2, M) ∧ Rel p' q' ∧ Bys V := by
  intro d
  induction d with
  | zero =>
    intro k hk v m p q h hv
    obtain rfl : k = 4 := by omega
    refine ⟨v, m, p, q, ?_, ?_, h, hv⟩
    · exact loopW_end (by rw [match_Read_l1, if_neg (by decide)])
    · exact loopW_end (by
        show r08_Read_l1 (((4 : Nat) : Int), q.1, q.2.1, q.2.2, v.1, v.2.1, v.2.2.1, v.2.2.2, m.1, m.2.1, m.2.2.1, m.2.2.2) = _
        rw [r08_Read_l1, if_neg (by decide)])
  | succ d ih =>
    intro k hk v m p q h hv
    have hk4 : k < 4 := by omega
    obtain ⟨x, p1, q1, hx, a1, a2, a3⟩ := two_nums h
    obtain ⟨y, p2, q2, hy, b1, b2, b3⟩ := two_nums a3
    have g1 : match_Read_l1 ((k : Int), v.1, v.2.1, v.2.2.1, v.2.2.2, m.1, m.2.1, m.2.2.1, m.2.2.2, p.1, p.2) = some (.inl (((k + 1 : Nat) : Int), (put4 v (k : Int) x).1, (put4 v (k : Int) x).2.1, (put4 v (k : Int) x).2.2.1, (put4 v (k : Int) x).2.2.2, (put4 m (k : Int) y).1, (put4 m (k : Int) y).2.1, (put4 m (k : Int) y).2.2.1, (put4 m (k : Int) y).2.2.2, p2.1, p2.2)) := by
      rw [match_Read_l1, if_pos (by omega), show ((p.1, p.2) : List UInt8 × Int) = p from rfl, a1, Option.bind_some, ix4 v hk4, Option.bind_some, b1, Option.bind_some, ix4 m hk4, Option.bind_some, w64_id (by omega)]; rfl
    have g2 : r08_Read_l1 ((k : Int), q.1, q.2.1, q.2.2, v.1, v.2.1, v.2.2.1, v.2.2.2, m) = some (.inl (((k + 1 : Nat) : Int), q2.1, q2.2.1, q2.2.2, (put4 v (k : Int) x).1, (put4 v (k : Int) x).2.1, (put4 v (k : Int) x).2.2.1, (put4 v (k : Int) x).2.2.2, put4 m (k : Int) y)) := by
      show r08_Read_l1 ((k : Int), q.1, q.2.1, q.2.2, v.1, v.2.1, v.2.2.1, v.2.2.2, m.1, m.2.1, m.2.2.1, m.2.2.2) = _
      rw [r08_Read_l1, if_pos (by omega), show ((q.1, q.2.1, q.2.2) : List UInt8 × Int × Int) = q from rfl, a2, Option.bind_some, ix4 v hk4, Option.bind_some, b2, Option.bind_some, ix4 m hk4, Option.bind_some, w64_id (by omega)]; rfl
    rw [loopW_go g1, loopW_go g2]
    refine ih (k + 1) (by omega) _ _ _ _ b3 (fun j hj => ?_)
    have hkc : k = 0 ∨ k = 1 ∨ k = 2 ∨ k = 3 := by omega
    have hjc : j = 0 ∨ j = 1 ∨ j = 2 ∨ j = 3 := by omega
    have v0 := hv 0 (by decide)
    have v1 := hv 1 (by decide)
    have v2 := hv 2 (by decide)
    have v3 := hv 3 (by decide)
    rcases hkc with rfl | rfl | rfl | rfl <;> rcases hjc with rfl | rfl | rfl | rfl <;> assumption
abbrev zeroM8 : Mt := (0, (0, 0, 0, 0), (0, 0, 0, 0))
theorem MatchReads_core (p0 : List UInt8) (p1 : Mt) : L08_MatchReads p0 p1 = some true := by
  have hs : ∃ s : List UInt8, s.length ≤ 60 ∧ (if 60 < (p0.length : Int) then (subl p0 0 60).bind fun x2 => some x2 else some p0) = some s := by
    by_cases h : 60 < (p0.length : Int)
    · rw [if_pos h, subl_is (by omega)]
      exact ⟨_, by simp; omega, rfl⟩
    · rw [if_neg h]; exact ⟨p0, by omega, rfl⟩
  obtain ⟨s, hl, hs⟩ := hs
  unfold L08_MatchReads
  rw [hs, Option.bind_some, awake08]
  have hrel : Rel (octet_Open s) (s, 0, 0) := ⟨by show (0 : Int) ≤ 0; decide, by simp only; omega, rfl, by simp only; omega⟩
  obtain ⟨c, pc, qc, hc, c1, c2, c3⟩ := two_nums hrel
  obtain ⟨V, M, p', q', g1, g2, g3, g4⟩ := reads_loop8 4 0 rfl (0, 0, 0, 0) (0, 0, 0, 0) pc qc c3 (by decide)
  have g1' : loopW match_Read_l1 (0, 0, 0, 0, 0, 0, 0, 0, 0, pc.1, pc.2) = _ := g1
  have g2' : loopW r08_Read_l1 (0, qc.1, qc.2.1, qc.2.2, 0, 0, 0, 0, 0, 0, 0, 0) = _ := g2
  have hVi : I4 V := by
    have g : ∀ k, k < 4 → i64 (p4 V k) := fun k hk => by
      have := g4 k hk
      have h1 := this.1
      have h2 := this.2
      constructor <;> omega
    exact ⟨g 0 (by decide), g 1 (by decide), g 2 (by decide), g 3 (by decide)⟩
  let mm : Mt := (w64 (c - 1), V, M)
  have e1 : match_Right mm = some (decide (Good mm)) := right_eq hVi
  have e2 : r08_Right mm = some (decide (Good mm)) := rright8_eq mm
  let p2 := if Good mm then p' else octet_Reader_Wrong p' 2
  let q2 := if Good mm then q' else r04_Reader_Wrong q' 2
  have hr2 : Rel p2 q2 := by
    show Rel (if Good mm then p' else octet_Reader_Wrong p' 2) (if Good mm then q' else r04_Reader_Wrong q' 2)
    by_cases hf : Good mm
    · rw [if_pos hf, if_pos hf]; exact g3
    · rw [if_neg hf, if_neg hf]; exact rel_wrong g3 2
  have hok := rel_ok hr2
  have r1 : match_Read (octet_Open s) = some (if octet_Reader_Ok p2 = true then mm else zeroM8, p2) := by
    unfold match_Read
    rw [c1, Option.bind_some, g1', Option.bind_some]
    show ((match_Right mm).bind _).bind _ = _
    rw [e1, Option.bind_some]
    by_cases hf : Good mm
    · have ep : p2 = p' := if_pos hf
      rw [decide_eq_true hf, if_neg (by decide), ep]
      show (if (!(octet_Reader_Ok p')) = true then _ else _) = _
      cases octet_Reader_Ok p' <;> rfl
    · have ep : p2 = octet_Reader_Wrong p' 2 := if_neg hf
      rw [decide_eq_false hf, if_pos (by decide), ep]
      show (if (!(octet_Reader_Ok (octet_Reader_Wrong p' 2))) = true then _ else _) = _
      cases octet_Reader_Ok (octet_Reader_Wrong p' 2) <;> rfl
  have r2 : r08_Read (s, 0, 0) = some (if octet_Reader_Ok p2 = true then mm else zeroM8, q2) := by
    unfold r08_Read
    rw [c2, Option.bind_some, g2', Option.bind_some]
    show ((r08_Right mm).bind _).bind _ = _
    rw [e2, Option.bind_some, hok]
    by_cases hf : Good mm
    · have ep : q2 = q' := if_pos hf
      rw [decide_eq_true hf, if_neg (by decide), ep]
      show (if q'.2.2 ≠ 0 then _ else _) = _
      by_cases hq : q'.2.2 = 0
      · rw [if_neg (by simpa using hq), if_pos (by simpa using hq)]
      · rw [if_pos hq, if_neg (by simpa using hq)]
    · have ep : q2 = r04_Reader_Wrong q' 2 := if_neg hf
      rw [decide_eq_false hf, if_pos (by decide), ep]
      show (if (r04_Reader_Wrong q' 2).2.2 ≠ 0 then _ else _) = _
      by_cases hq : (r04_Reader_Wrong q' 2).2.2 = 0
      · rw [if_neg (by simpa using hq), if_pos (by simpa using hq)]
      · rw [if_pos hq, if_neg (by simpa using hq)]
  obtain ⟨q3, k1, k2⟩ := rel_end hr2
  rw [r1, r2]
  simp only [Option.bind_some]
  rw [if_neg (by simp), rel_left hr2, if_neg (by simp), endR_eq, k1]
  simp only [Option.bind_some]
  rw [decide_eq_false (by simp), if_neg (by decide), rright8_eq]
  by_cases hp : Good p1
  · rw [decide_eq_true hp, Option.bind_some, if_neg (by decide), code_eq hp, Option.bind_some, read_code8 hp]
    simp only [Option.bind_some]
    rw [if_pos (by simp), endR_eq]
    simp
  · rw [decide_eq_false hp]; rfl
theorem MatchReads_true (p0 : List UInt8) {A : Prop} (_ : A) (p1 : Mt) {B : Prop} (_ : B) : L08_MatchReads p0 p1 = some true := MatchReads_core p0 p1
end Go.Proofs.YtmlaadalggngkaaDoor
