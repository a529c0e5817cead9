/- Layer 10: reading. Conditions: none. -/
import Derived.Test.YteeioghoidjbpaaDoorM10T
namespace Go.Proofs.YteeioghoidjbpaaDoor
set_option linter.unusedVariables false
set_option linter.unusedSimpArgs false
open Go Go.RowKit
/-! ### Reading any bytes -/
abbrev Rd := List UInt8 × Int
abbrev Rq := List UInt8 × Int × Int
theorem num_rel {p : Rd} {q : Rq} (h : Rel p q) (w : Int) : ∃ (v : Int) (p1 : Rd) (q1 : Rq), octet_Reader_Num p w = some (v, p1) ∧ r04_Reader_Num q w = some (v, q1) ∧ Rel p1 q1 := by
  have hpl := h.plen
  have h1 := rnumR_eq p w (by omega)
  obtain ⟨q1, h2, h3⟩ := rel_num h w
  exact ⟨_, _, q1, h1, h2, h3⟩
theorem mread_rel {p : Rd} {q : Rq} (h : Rel p q) : ∃ (mm : Mt) (p2 : Rd) (q2 : Rq), match_Read p = some (mm, p2) ∧ r08_Read q = some (mm, q2) ∧ Rel p2 q2 := by
  obtain ⟨c, pc, qc, hc, c1, c2, c3⟩ := two_nums h
  obtain ⟨V, M, p', q', g1, g2, g3, g4⟩ := reads_loop8 4 0 rfl (0, 0, 0, 0) (0, 0, 0, 0) pc qc c3 (by decide)
  have g1' : loopW match_Read_l1 (0, 0, 0, 0, 0, 0, 0, 0, 0, pc.1, pc.2) = _ := g1
  have g2' : loopW r08_Read_l1 (0, qc.1, qc.2.1, qc.2.2, 0, 0, 0, 0, 0, 0, 0, 0) = _ := g2
  have hVi : I4 V := by
    have g : ∀ k, k < 4 → i64 (p4 V k) := fun k hk => by
      have := g4 k hk
      have h1 := this.1
      have h2 := this.2
      constructor <;> omega
    exact ⟨g 0 (by decide), g 1 (by decide), g 2 (by decide), g 3 (by decide)⟩
  let mm : Mt := (w64 (c - 1), V, M)
  have e1 : match_Right mm = some (decide (Good mm)) := right_eq hVi
  have e2 : r08_Right mm = some (decide (Good mm)) := rright8_eq mm
  let p2 := if Good mm then p' else octet_Reader_Wrong p' 2
  let q2 := if Good mm then q' else r04_Reader_Wrong q' 2
  have hr2 : Rel p2 q2 := by
    show Rel (if Good mm then p' else octet_Reader_Wrong p' 2) (if Good mm then q' else r04_Reader_Wrong q' 2)
    by_cases hf : Good mm
    · rw [if_pos hf, if_pos hf]; exact g3
    · rw [if_neg hf, if_neg hf]; exact rel_wrong g3 2
  have hok := rel_ok hr2
  have r1 : match_Read p = some (if octet_Reader_Ok p2 = true then mm else zeroM, p2) := by
    unfold match_Read
    rw [c1, Option.bind_some, g1', Option.bind_some]
    show ((match_Right mm).bind _).bind _ = _
    rw [e1, Option.bind_some]
    by_cases hf : Good mm
    · have ep : p2 = p' := if_pos hf
      rw [decide_eq_true hf, if_neg (by decide), ep]
      show (if (!(octet_Reader_Ok p')) = true then _ else _) = _
      cases octet_Reader_Ok p' <;> rfl
    · have ep : p2 = octet_Reader_Wrong p' 2 := if_neg hf
      rw [decide_eq_false hf, if_pos (by decide), ep]
      show (if (!(octet_Reader_Ok (octet_Reader_Wrong p' 2))) = true then _ else _) = _
      cases octet_Reader_Ok (octet_Reader_Wrong p' 2) <;> rfl
  have r2 : r08_Read q = some (if octet_Reader_Ok p2 = true then mm else zeroM, q2) := by
    unfold r08_Read
    rw [c2, Option.bind_some, g2', Option.bind_some]
    show ((r08_Right mm).bind _).bind _ = _
    rw [e2, Option.bind_some, hok]
    by_cases hf : Good mm
    · have ep : q2 = q' := if_pos hf
      rw [decide_eq_true hf, if_neg (by decide), ep]
      show (if q'.2.2 ≠ 0 then _ else _) = _
      by_cases hq : q'.2.2 = 0
      · rw [if_neg (by simpa using hq), if_pos (by simpa using hq)]
      · rw [if_pos hq, if_neg (by simpa using hq)]
    · have ep : q2 = r04_Reader_Wrong q' 2 := if_neg hf
      rw [decide_eq_false hf, if_pos (by decide), ep]
      show (if (r04_Reader_Wrong q' 2).2.2 ≠ 0 then _ else _) = _
      by_cases hq : (r04_Reader_Wrong q' 2).2.2 = 0
      · rw [if_neg (by simpa using hq), if_pos (by simpa using hq)]
      · rw [if_pos hq, if_neg (by simpa using hq)]
  exact ⟨_, p2, q2, r1, r2, hr2⟩
theorem bad_zero {p : Rd} (h : (takeR (preN p 1) 1).2.2 ≠ 0) : w64 (val (takeR (preN p 1) 1).1) = 0 := by
  rw [preN_ok (by decide)] at h ⊢
  unfold takeR at h ⊢
  by_cases h1 : p.2 ≠ 0
  · rw [if_pos h1]; rfl
  · rw [if_neg h1, if_neg (by decide)] at h ⊢
    by_cases h2 : (p.1.length : Int) < 1
    · rw [if_pos h2]; rfl
    · rw [if_neg h2] at h; exact absurd rfl h
theorem count_rel {p : Rd} {q : Rq} (h : Rel p q) : ∃ (n : Nat) (p1 : Rd) (q1 : Rq), n ≤ 16 ∧ octet_Reader_Count p 16 = some ((n : Int), p1) ∧ r04_Reader_Count q 16 = some ((n : Int), q1) ∧ Rel p1 q1 := by
  have hpl := h.plen
  have h1 := rnumR_eq p 1 (by omega)
  obtain ⟨q1, h2, h3⟩ := rel_num h 1
  obtain ⟨v, hv, hb⟩ := num_val (p := p)
  have hz : (takeR (preN p 1) 1).2.2 ≠ 0 → v = 0 := fun hn => by rw [← hv]; exact bad_zero hn
  rw [hv] at h1 h2
  generalize (takeR (preN p 1) 1).2 = p1 at h1 h3 hz
  have b1 := hb.1
  unfold octet_Reader_Count r04_Reader_Count
  rw [h1, h2]
  simp only [Option.bind_some]
  by_cases c : 16 < v
  · rw [if_pos c, if_pos c]
    refine ⟨0, octet_Reader_Wrong p1 6, r04_Reader_Wrong q1 6, by decide, ?_, rfl, rel_wrong h3 6⟩
    have hnz : octet_Reader_Ok (octet_Reader_Wrong p1 6) = false := by
      have : p1.2 = 0 := Classical.byContradiction fun hn => by have := hz hn; omega
      unfold octet_Reader_Wrong octet_Reader_Ok
      obtain ⟨a, b⟩ := p1
      simp only at this
      subst this
      simp
    rw [Option.bind_some]
    show (if (!(octet_Reader_Ok (octet_Reader_Wrong p1 6))) = true then some ((0 : Int), octet_Reader_Wrong p1 6) else _) = _
    rw [hnz]; rfl
  · rw [if_neg c, if_neg c, Option.bind_some]
    refine ⟨v.toNat, p1, q1, by omega, ?_, by rw [show ((v.toNat : Nat) : Int) = v by omega], h3⟩
    show (if (!(octet_Reader_Ok p1)) = true then some ((0 : Int), p1) else some (v, p1)) = _
    rw [show ((v.toNat : Nat) : Int) = v by omega]
    by_cases hz2 : p1.2 = 0
    · have : octet_Reader_Ok p1 = true := by unfold octet_Reader_Ok; simp [hz2]
      rw [this]; rfl
    · have e : octet_Reader_Ok p1 = false := by unfold octet_Reader_Ok; simp [hz2]
      rw [e, if_pos (by decide), hz hz2]
theorem reads_acts (ports : Int) {n : Nat} (hn : n ≤ 16) (px : Rd) (qx : Rq) : ∀ (d k : Nat), k + d = n → ∀ (l : List A3) (p : Rd) (q : Rq), l.length = k → Rel p q →
    ∃ (L : List A3) (p' : Rd) (q' : Rq), L.length = n ∧ loopW (act_Read_l1 ports ((n : Int), px)) (l, (k : Int), p.1, p.2) = some (L, p'.1, p'.2) ∧ loopW (r09_Read_l1 ports ((n : Int), qx)) (l, (k : Int), q.1, q.2.1, q.2.2) = some (L, q'.1, q'.2.1, q'.2.2) ∧ Rel p' q' := by
  intro d
  induction d with
  | zero =>
    intro k hk l p q hl h
    obtain rfl : k = n := by omega
    exact ⟨l, p, q, hl, loopW_end (by rw [act_Read_l1, if_neg (by omega)]), loopW_end (by rw [r09_Read_l1, if_neg (by omega)]), h⟩
  | succ d ih =>
    intro k hk l p q hl h
    obtain ⟨a, p1, q1, a1, a2, a3⟩ := num_rel h 1
    obtain ⟨b, p2, q2, b1, b2, b3⟩ := num_rel a3 1
    obtain ⟨c, p3, q3, c1, c2, c3⟩ := num_rel b3 1
    have h4 : Rel (if OkA ports (a, b, c) then p3 else octet_Reader_Wrong p3 2) (if OkA ports (a, b, c) then q3 else r04_Reader_Wrong q3 2) := by
      by_cases hf : OkA ports (a, b, c)
      · rw [if_pos hf, if_pos hf]; exact c3
      · rw [if_neg hf, if_neg hf]; exact rel_wrong c3 2
    have g1 : act_Read_l1 ports ((n : Int), px) (l, (k : Int), p.1, p.2) = some (.inl (l ++ [(a, b, c)], ((k + 1 : Nat) : Int), (if OkA ports (a, b, c) then p3 else octet_Reader_Wrong p3 2).1, (if OkA ports (a, b, c) then p3 else octet_Reader_Wrong p3 2).2)) := by
      rw [act_Read_l1, if_pos (by simp only; omega), show ((p.1, p.2) : Rd) = p from rfl, a1, Option.bind_some, b1, Option.bind_some, c1, Option.bind_some, act_eq, Option.bind_some, app_is (by simp; omega), w64_id (by omega)]
      by_cases hf : OkA ports (a, b, c)
      · rw [decide_eq_true hf, if_neg (by decide), if_pos hf]; rfl
      · rw [decide_eq_false hf, if_pos (by decide), if_neg hf]; rfl
    have g2 : r09_Read_l1 ports ((n : Int), qx) (l, (k : Int), q.1, q.2.1, q.2.2) = some (.inl (l ++ [(a, b, c)], ((k + 1 : Nat) : Int), (if OkA ports (a, b, c) then q3 else r04_Reader_Wrong q3 2).1, (if OkA ports (a, b, c) then q3 else r04_Reader_Wrong q3 2).2.1, (if OkA ports (a, b, c) then q3 else r04_Reader_Wrong q3 2).2.2)) := by
      rw [r09_Read_l1, if_pos (by simp only; omega), show ((q.1, q.2.1, q.2.2) : Rq) = q from rfl, a2, Option.bind_some, b2, Option.bind_some, c2, Option.bind_some, one_eq, app_is (by simp; omega), w64_id (by omega)]
      by_cases hf : OkA ports (a, b, c)
      · rw [decide_eq_true hf, if_neg (by decide), if_pos hf]; rfl
      · rw [decide_eq_false hf, if_pos (by decide), if_neg hf]; rfl
    rw [loopW_go g1, loopW_go g2]
    exact ih (k + 1) (by omega) _ _ _ (by simp [hl]) h4
theorem aread_rel {p : Rd} {q : Rq} (h : Rel p q) (ports : Int) : ∃ (L : List A3) (p2 : Rd) (q2 : Rq), L.length ≤ 16 ∧ act_Read p ports = some (L, p2) ∧ r09_Read q ports = some (L, q2) ∧ Rel p2 q2 := by
  obtain ⟨n, p1, q1, hn, h1, h2, h3⟩ := count_rel h
  obtain ⟨L, p', q', hL, g1, g2, g3⟩ := reads_acts ports hn p1 q1 n 0 (by omega) [] p1 q1 rfl h3
  have hok := rel_ok g3
  have g1' : loopW (act_Read_l1 ports ((n : Int), p1)) ([], 0, p1.1, p1.2) = _ := g1
  have g2' : loopW (r09_Read_l1 ports ((n : Int), q1)) ([], 0, q1.1, q1.2.1, q1.2.2) = _ := g2
  refine ⟨if q'.2.2 = 0 then L else [], p', q', by
    split
    · omega
    · exact Nat.zero_le _, ?_, ?_, g3⟩
  · unfold act_Read
    rw [h1, Option.bind_some, g1', Option.bind_some]
    show (if (!(octet_Reader_Ok p')) = true then some (([] : List A3), p') else some (L, p')) = _
    rw [hok]
    by_cases hq : q'.2.2 = 0
    · rw [decide_eq_true hq, if_neg (by decide), if_pos hq]
    · rw [decide_eq_false hq, if_pos (by decide), if_neg hq]
  · unfold r09_Read
    rw [h2, Option.bind_some, g2', Option.bind_some]
    show (if q'.2.2 ≠ 0 then some (([] : List A3), q') else some (L, q')) = _
    by_cases hq : q'.2.2 = 0
    · rw [if_neg (fun h => h hq), if_pos hq]
    · rw [if_pos hq, if_neg hq]
theorem rread_rel {p : Rd} {q : Rq} (h : Rel p q) (ports : Int) : ∃ (x : Rl) (p2 : Rd) (q2 : Rq), x.2.2.length ≤ 16 ∧ rule_Read p ports = some (x, p2) ∧ r10_Read q ports = some (x, q2) ∧ Rel p2 q2 := by
  obtain ⟨v, p1, q1, a1, a2, a3⟩ := num_rel h 2
  obtain ⟨mm, p2, q2, b1, b2, b3⟩ := mread_rel a3
  obtain ⟨L, p3, q3, hL, c1, c2, c3⟩ := aread_rel b3 ports
  have hok := rel_ok c3
  refine ⟨if q3.2.2 = 0 then (v, mm, L) else (0, zeroM, []), p3, q3, by
    split
    · exact hL
    · exact Nat.zero_le _, ?_, ?_, c3⟩
  · unfold rule_Read
    rw [a1, Option.bind_some, b1, Option.bind_some, c1, Option.bind_some, hok]
    by_cases hq : q3.2.2 = 0
    · rw [decide_eq_true hq, if_neg (by decide), if_pos hq]
    · rw [decide_eq_false hq, if_pos (by decide), if_neg hq]
  · unfold r10_Read
    rw [a2, Option.bind_some, b2, Option.bind_some, c2, Option.bind_some]
    by_cases hq : q3.2.2 = 0
    · rw [if_neg (fun h => h hq), if_pos hq]
    · rw [if_pos hq, if_neg hq]
/-! ### Reading what was told -/
theorem read_code8g {m : Mt} (h : Good m) (r : List UInt8) (hr : r.length ≤ 1000) : match_Read (codeM m ++ r, 0) = some (m, (r, 0)) := by
  have hp := h.1
  obtain ⟨c, ec, vc⟩ := be1_byte (v := m.1 + 1) (by constructor <;> omega)
  obtain ⟨x0, ex0, vx0⟩ : ∃ x : UInt8, be 1 m.2.1.1 = [x] ∧ (x.toNat : Int) = m.2.1.1 := be1_byte (good_by h (k := 0) (by decide)).1
  obtain ⟨y0, ey0, vy0⟩ : ∃ x : UInt8, be 1 m.2.2.1 = [x] ∧ (x.toNat : Int) = m.2.2.1 := be1_byte (good_by h (k := 0) (by decide)).2
  obtain ⟨x1, ex1, vx1⟩ : ∃ x : UInt8, be 1 m.2.1.2.1 = [x] ∧ (x.toNat : Int) = m.2.1.2.1 := be1_byte (good_by h (k := 1) (by decide)).1
  obtain ⟨y1, ey1, vy1⟩ : ∃ x : UInt8, be 1 m.2.2.2.1 = [x] ∧ (x.toNat : Int) = m.2.2.2.1 := be1_byte (good_by h (k := 1) (by decide)).2
  obtain ⟨x2, ex2, vx2⟩ : ∃ x : UInt8, be 1 m.2.1.2.2.1 = [x] ∧ (x.toNat : Int) = m.2.1.2.2.1 := be1_byte (good_by h (k := 2) (by decide)).1
  obtain ⟨y2, ey2, vy2⟩ : ∃ x : UInt8, be 1 m.2.2.2.2.1 = [x] ∧ (x.toNat : Int) = m.2.2.2.2.1 := be1_byte (good_by h (k := 2) (by decide)).2
  obtain ⟨x3, ex3, vx3⟩ : ∃ x : UInt8, be 1 m.2.1.2.2.2 = [x] ∧ (x.toNat : Int) = m.2.1.2.2.2 := be1_byte (good_by h (k := 3) (by decide)).1
  obtain ⟨y3, ey3, vy3⟩ : ∃ x : UInt8, be 1 m.2.2.2.2.2 = [x] ∧ (x.toNat : Int) = m.2.2.2.2.2 := be1_byte (good_by h (k := 3) (by decide)).2
  have hc : codeM m ++ r = c :: x0 :: y0 :: x1 :: y1 :: x2 :: y2 :: x3 :: y3 :: r := by
    unfold codeM
    rw [ec, ex0, ey0, ex1, ey1, ex2, ey2, ex3, ey3]; rfl
  have s0 := read_step8 (k := 0) (by decide) (0, 0, 0, 0) (0, 0, 0, 0) x0 y0 (x1 :: y1 :: x2 :: y2 :: x3 :: y3 :: r) (by simp; omega)
  have s1 := read_step8 (k := 1) (by decide) ((x0.toNat : Int), 0, 0, 0) ((y0.toNat : Int), 0, 0, 0) x1 y1 (x2 :: y2 :: x3 :: y3 :: r) (by simp; omega)
  have s2 := read_step8 (k := 2) (by decide) ((x0.toNat : Int), (x1.toNat : Int), 0, 0) ((y0.toNat : Int), (y1.toNat : Int), 0, 0) x2 y2 (x3 :: y3 :: r) (by simp; omega)
  have s3 := read_step8 (k := 3) (by decide) ((x0.toNat : Int), (x1.toNat : Int), (x2.toNat : Int), 0) ((y0.toNat : Int), (y1.toNat : Int), (y2.toNat : Int), 0) x3 y3 r (by omega)
  have s4 : match_Read_l1 (4, (x0.toNat : Int), (x1.toNat : Int), (x2.toNat : Int), (x3.toNat : Int), (y0.toNat : Int), (y1.toNat : Int), (y2.toNat : Int), (y3.toNat : Int), r, 0) = some (.inr ((x0.toNat : Int), (x1.toNat : Int), (x2.toNat : Int), (x3.toNat : Int), (y0.toNat : Int), (y1.toNat : Int), (y2.toNat : Int), (y3.toNat : Int), r, 0)) := by rw [match_Read_l1, if_neg (by decide)]
  have e : loopW match_Read_l1 (0, 0, 0, 0, 0, 0, 0, 0, 0, x0 :: y0 :: x1 :: y1 :: x2 :: y2 :: x3 :: y3 :: r, 0) = some ((x0.toNat : Int), (x1.toNat : Int), (x2.toNat : Int), (x3.toNat : Int), (y0.toNat : Int), (y1.toNat : Int), (y2.toNat : Int), (y3.toNat : Int), r, 0) :=
    (loopW_go s0).trans ((loopW_go s1).trans ((loopW_go s2).trans ((loopW_go s3).trans (loopW_end s4))))
  unfold match_Read
  rw [hc, num_byte c _ (by simp; omega), Option.bind_some]
  show (loopW match_Read_l1 (0, 0, 0, 0, 0, 0, 0, 0, 0, x0 :: y0 :: x1 :: y1 :: x2 :: y2 :: x3 :: y3 :: r, 0)).bind _ = _
  rw [e, vc, vx0, vx1, vx2, vx3, vy0, vy1, vy2, vy3, Option.bind_some]
  have hm : ((w64 (m.1 + 1 - 1), (m.2.1.1, m.2.1.2.1, m.2.1.2.2.1, m.2.1.2.2.2), (m.2.2.1, m.2.2.2.1, m.2.2.2.2.1, m.2.2.2.2.2)) : Mt) = m := by
    rw [show m.1 + 1 - 1 = m.1 by omega, w64_id (by omega)]
  show ((match_Right (w64 (m.1 + 1 - 1), (m.2.1.1, m.2.1.2.1, m.2.1.2.2.1, m.2.1.2.2.2), (m.2.2.1, m.2.2.2.1, m.2.2.2.2.1, m.2.2.2.2.2))).bind _).bind _ = _
  rw [hm, right_eq (good_i4 h), decide_eq_true h]
  rfl
theorem read_acts_code {ports : Int} (hp : ports ≤ 256) {l : List A3} (h : OkAs ports l) (px : Rd) : ∀ (d k : Nat), k + d = l.length → loopW (act_Read_l1 ports ((l.length : Int), px)) (l.take k, (k : Int), ((l.drop k).map byte3).flatten, 0) = some (l, [], 0) := by
  have hl := h.1
  intro d
  induction d with
  | zero =>
    intro k hk
    refine loopW_end ?_
    rw [act_Read_l1, if_neg (by simp only; omega), List.drop_eq_nil_of_le (by omega), List.take_of_length_le (by omega)]; rfl
  | succ d ih =>
    intro k hk
    have hkl : k < l.length := by omega
    have ho := h.2 _ (List.getElem_mem hkl)
    obtain ⟨b1, b2, b3⟩ := oka_by hp ho
    obtain ⟨x, ex, vx⟩ := be1_byte b1
    obtain ⟨y, ey, vy⟩ := be1_byte b2
    obtain ⟨z, ez, vz⟩ := be1_byte b3
    have hf : ((l.drop k).map byte3).flatten = x :: y :: z :: ((l.drop (k + 1)).map byte3).flatten := by
      rw [List.drop_eq_getElem_cons hkl]
      show byte3 l[k] ++ _ = _
      unfold byte3
      rw [ex, ey, ez]; rfl
    have hfl : (((l.drop (k + 1)).map byte3).flatten).length ≤ 100 := by
      rw [flat_len, List.length_drop]; omega
    rw [← ih (k + 1) (by omega), List.take_succ_eq_append_getElem hkl]
    refine loopW_go ?_
    rw [act_Read_l1, if_pos (by simp only; omega), hf, num_byte x _ (by rw [List.length_cons, List.length_cons]; omega), Option.bind_some, num_byte y _ (by rw [List.length_cons]; omega), Option.bind_some, num_byte z _ (by omega), Option.bind_some]
    simp only
    rw [vx, vy, vz, act_eq, decide_eq_true (show OkA ports (l[k].1, l[k].2.1, l[k].2.2) from ho), Option.bind_some, if_neg (by decide), Option.bind_some, app_is (by simp; omega), Option.bind_some, w64_id (by omega)]; rfl
theorem aread_code {ports : Int} (hp : ports ≤ 256) {l : List A3} (h : OkAs ports l) : act_Read (codeA l, 0) ports = some (l, ([], 0)) := by
  have hl := h.1
  obtain ⟨c, ec, vc⟩ := be1_byte (v := (l.length : Int)) (by constructor <;> omega)
  have hc : codeA l = c :: (l.map byte3).flatten := by unfold codeA; rw [ec]; rfl
  have hfl := flat_len l
  have hcount : octet_Reader_Count (c :: (l.map byte3).flatten, 0) 16 = some ((l.length : Int), ((l.map byte3).flatten, 0)) := by
    unfold octet_Reader_Count
    rw [num_byte c _ (by omega), Option.bind_some]
    simp only
    rw [vc, if_neg (by omega), Option.bind_some]; rfl
  have e := read_acts_code hp h ((l.map byte3).flatten, 0) l.length 0 (by omega)
  have e' : loopW (act_Read_l1 ports ((l.length : Int), ((l.map byte3).flatten, 0))) ([], 0, (l.map byte3).flatten, 0) = _ := e
  unfold act_Read
  rw [hc, hcount, Option.bind_some, e']; rfl
theorem rread_code {ports : Int} (hp : ports ≤ 256) {x : Rl} (h : OkR ports x) : rule_Read (octet_Open (codeR x)) ports = some (x, ([], 0)) := by
  have h1 := h.1
  have l2 := codeA_len h.2.2
  have l1 := codeM_len x.2.1
  have hn : octet_Reader_Num (codeR x, 0) 2 = some (x.1, (codeM x.2.1 ++ codeA x.2.2, 0)) := by
    unfold codeR
    rw [List.append_assoc, rnumR_eq _ _ (by simp [be]; omega), preN_ok (by decide), takeR_app _ _ 2 (by rw [be_len]; rfl)]
    rw [val_be]
    have e : (256 : Int) ^ 2 = 65536 := by decide
    rw [e, w64_id (by omega)]
    simp only
    congr 2
    omega
  unfold rule_Read octet_Open
  rw [hn, Option.bind_some, read_code8g h.2.1 _ (by omega), Option.bind_some, aread_code hp h.2.2]; rfl
theorem RuleReads_core (p0 : List UInt8) (p1 : Rl) (p2 : Int) (hl1 : p1.2.2.length ≤ 9223372036854775807) : L10_RuleReads p0 p1 p2 = some true := by
  have hs : ∃ s : List UInt8, s.length ≤ 100 ∧ (if 100 < (p0.length : Int) then (subl p0 0 100).bind fun x2 => some x2 else some p0) = some s := by
    by_cases h : 100 < (p0.length : Int)
    · rw [if_pos h, subl_is (by omega)]
      exact ⟨_, by simp; omega, rfl⟩
    · rw [if_neg h]; exact ⟨p0, by omega, rfl⟩
  obtain ⟨s, hl, hs⟩ := hs
  unfold L10_RuleReads
  rw [hs, Option.bind_some, awake10]
  have hrel : Rel (octet_Open s) (s, 0, 0) := ⟨by show (0 : Int) ≤ 0; decide, by simp only; omega, rfl, by simp only; omega⟩
  obtain ⟨x, p', q', hx, r1, r2, g3⟩ := rread_rel hrel p2
  obtain ⟨q3, k1, k2⟩ := rel_end g3
  rw [r1, r2]
  simp only [Option.bind_some]
  rw [rrulesame_eq (by omega), decide_eq_true (eqR_iff.2 rfl), Option.bind_some, if_neg (by decide), rel_left g3, if_neg (by simp), endR_eq, k1]
  simp only [Option.bind_some]
  rw [decide_eq_false (by simp), if_neg (by decide), rrule_eq hl1]
  simp only [Option.bind_some]
  by_cases hp : OkR p2 p1
  · rw [decide_eq_true hp, if_neg (by decide), Option.bind_some]
    by_cases hq : 256 < p2
    · rw [decide_eq_true hq]; rfl
    · rw [decide_eq_false hq, if_neg (by decide), rulecode_eq (by omega) hp, Option.bind_some, rread_code (by omega) hp]
      simp only [Option.bind_some]
      rw [rulesame_eq hl1, decide_eq_true (eqR_iff.2 rfl), Option.bind_some, if_pos rfl, endR_eq]
      simp
  · rw [decide_eq_false hp]; rfl
theorem RuleReads_true (p0 : List UInt8) {A : Prop} (_ : A) (p1 : Rl) (ok1 : okRl p1) (p2 : Int) {B : Prop} (_ : B) : L10_RuleReads p0 p1 p2 = some true := RuleReads_core p0 p1 p2 (ok_len ok1)
end Go.Proofs.YteeioghoidjbpaaDoor
