/- Layer 9: reading. Conditions: none. -/
import Derived.Test.YtefiglmpdajonaaDoorM09T
namespace Go.Proofs.YtefiglmpdajonaaDoor
set_option linter.unusedVariables false
set_option linter.unusedSimpArgs false
open Go Go.RowKit
theorem num_val {p : List UInt8 × Int} : ∃ v : Int, w64 (val (takeR (preN p 1) 1).1) = v ∧ By v := by
  have hl : (takeR (preN p 1) 1).1.length ≤ 1 := by
    unfold takeR
    split
    · simp
    · split
      · simp
      · split
        · simp
        · (simp; omega)
  generalize (takeR (preN p 1) 1).1 = l at hl
  have : l = [] ∨ ∃ b, l = [b] := by
    cases l with
    | nil => exact .inl rfl
    | cons b t => cases t with
      | nil => exact .inr ⟨b, rfl⟩
      | cons c t => simp at hl
  rcases this with rfl | ⟨b, rfl⟩
  · exact ⟨0, rfl, by decide⟩
  · have := b.toNat_lt
    rw [val_one, w64_id (by omega)]
    exact ⟨_, rfl, by constructor <;> omega⟩
theorem two_nums {p : List UInt8 × Int} {q : List UInt8 × Int × Int} (h : Rel p q) : ∃ (v : Int) (p1 : List UInt8 × Int) (q1 : List UInt8 × Int × Int), By v ∧ octet_Reader_Num p 1 = some (v, p1) ∧ r04_Reader_Num q 1 = some (v, q1) ∧ Rel p1 q1 := by
  have hpl := h.plen
  have h1 := rnumR_eq p 1 (by omega)
  obtain ⟨q1, h2, h3⟩ := rel_num h 1
  obtain ⟨v, hv, hb⟩ := num_val (p := p)
  rw [hv] at h1 h2
  exact ⟨v, _, q1, hb, h1, h2, h3⟩
abbrev Rd := List UInt8 × Int
abbrev Rq := List UInt8 × Int × Int
theorem num_rel {p : Rd} {q : Rq} (h : Rel p q) (w : Int) : ∃ (v : Int) (p1 : Rd) (q1 : Rq), octet_Reader_Num p w = some (v, p1) ∧ r04_Reader_Num q w = some (v, q1) ∧ Rel p1 q1 := by
  have hpl := h.plen
  have h1 := rnumR_eq p w (by omega)
  obtain ⟨q1, h2, h3⟩ := rel_num h w
  exact ⟨_, _, q1, h1, h2, h3⟩
theorem bad_zero {p : Rd} (h : (takeR (preN p 1) 1).2.2 ≠ 0) : w64 (val (takeR (preN p 1) 1).1) = 0 := by
  rw [preN_ok (by decide)] at h ⊢
  unfold takeR at h ⊢
  by_cases h1 : p.2 ≠ 0
  · rw [if_pos h1]; rfl
  · rw [if_neg h1, if_neg (by decide)] at h ⊢
    by_cases h2 : (p.1.length : Int) < 1
    · rw [if_pos h2]; rfl
    · rw [if_neg h2] at h; exact absurd rfl h
theorem count_rel {p : Rd} {q : Rq} (h : Rel p q) : ∃ (n : Nat) (p1 : Rd) (q1 : Rq), n ≤ 16 ∧ octet_Reader_Count p 16 = some ((n : Int), p1) ∧ r04_Reader_Count q 16 = some ((n : Int), q1) ∧ Rel p1 q1 := by
  have hpl := h.plen
  have h1 := rnumR_eq p 1 (by omega)
  obtain ⟨q1, h2, h3⟩ := rel_num h 1
  obtain ⟨v, hv, hb⟩ := num_val (p := p)
  have hz : (takeR (preN p 1) 1).2.2 ≠ 0 → v = 0 := fun hn => by rw [← hv]; exact bad_zero hn
  rw [hv] at h1 h2
  generalize (takeR (preN p 1) 1).2 = p1 at h1 h3 hz
  have b1 := hb.1
  unfold octet_Reader_Count r04_Reader_Count
  rw [h1, h2]
  simp only [Option.bind_some]
  by_cases c : 16 < v
  · rw [if_pos c, if_pos c]
    refine ⟨0, octet_Reader_Wrong p1 6, r04_Reader_Wrong q1 6, by decide, ?_, rfl, rel_wrong h3 6⟩
    have hnz : octet_Reader_Ok (octet_Reader_Wrong p1 6) = false := by
      have : p1.2 = 0 := Classical.byContradiction fun hn => by have := hz hn; omega
      unfold octet_Reader_Wrong octet_Reader_Ok
      obtain ⟨a, b⟩ := p1
      simp only at this
      subst this
      simp
    rw [Option.bind_some]
    show (if (!(octet_Reader_Ok (octet_Reader_Wrong p1 6))) = true then some ((0 : Int), octet_Reader_Wrong p1 6) else _) = _
    rw [hnz]; rfl
  · rw [if_neg c, if_neg c, Option.bind_some]
    refine ⟨v.toNat, p1, q1, by omega, ?_, by rw [show ((v.toNat : Nat) : Int) = v by omega], h3⟩
    show (if (!(octet_Reader_Ok p1)) = true then some ((0 : Int), p1) else some (v, p1)) = _
    rw [show ((v.toNat : Nat) : Int) = v by omega]
    by_cases hz2 : p1.2 = 0
    · have : octet_Reader_Ok p1 = true := by unfold octet_Reader_Ok; simp [hz2]
      rw [this]; rfl
    · have e : octet_Reader_Ok p1 = false := by unfold octet_Reader_Ok; simp [hz2]
      rw [e, if_pos (by decide), hz hz2]
theorem reads_acts (ports : Int) {n : Nat} (hn : n ≤ 16) (px : Rd) (qx : Rq) : ∀ (d k : Nat), k + d = n → ∀ (l : List A3) (p : Rd) (q : Rq), l.length = k → Rel p q →
    ∃ (L : List A3) (p' : Rd) (q' : Rq), L.length = n ∧ loopW (act_Read_l1 ports ((n : Int), px)) (l, (k : Int), p.1, p.2) = some (L, p'.1, p'.2) ∧ loopW (r09_Read_l1 ports ((n : Int), qx)) (l, (k : Int), q.1, q.2.1, q.2.2) = some (L, q'.1, q'.2.1, q'.2.2) ∧ Rel p' q' := by
  intro d
  induction d with
  | zero =>
    intro k hk l p q hl h
    obtain rfl : k = n := by omega
    exact ⟨l, p, q, hl, loopW_end (by rw [act_Read_l1, if_neg (by omega)]), loopW_end (by rw [r09_Read_l1, if_neg (by omega)]), h⟩
  | succ d ih =>
    intro k hk l p q hl h
    obtain ⟨a, p1, q1, a1, a2, a3⟩ := num_rel h 1
    obtain ⟨b, p2, q2, b1, b2, b3⟩ := num_rel a3 1
    obtain ⟨c, p3, q3, c1, c2, c3⟩ := num_rel b3 1
    have h4 : Rel (if OkA ports (a, b, c) then p3 else octet_Reader_Wrong p3 2) (if OkA ports (a, b, c) then q3 else r04_Reader_Wrong q3 2) := by
      by_cases hf : OkA ports (a, b, c)
      · rw [if_pos hf, if_pos hf]; exact c3
      · rw [if_neg hf, if_neg hf]; exact rel_wrong c3 2
    have g1 : act_Read_l1 ports ((n : Int), px) (l, (k : Int), p.1, p.2) = some (.inl (l ++ [(a, b, c)], ((k + 1 : Nat) : Int), (if OkA ports (a, b, c) then p3 else octet_Reader_Wrong p3 2).1, (if OkA ports (a, b, c) then p3 else octet_Reader_Wrong p3 2).2)) := by
      rw [act_Read_l1, if_pos (by simp only; omega), show ((p.1, p.2) : Rd) = p from rfl, a1, Option.bind_some, b1, Option.bind_some, c1, Option.bind_some, act_eq, Option.bind_some, app_is (by simp; omega), w64_id (by omega)]
      by_cases hf : OkA ports (a, b, c)
      · rw [decide_eq_true hf, if_neg (by decide), if_pos hf]; rfl
      · rw [decide_eq_false hf, if_pos (by decide), if_neg hf]; rfl
    have g2 : r09_Read_l1 ports ((n : Int), qx) (l, (k : Int), q.1, q.2.1, q.2.2) = some (.inl (l ++ [(a, b, c)], ((k + 1 : Nat) : Int), (if OkA ports (a, b, c) then q3 else r04_Reader_Wrong q3 2).1, (if OkA ports (a, b, c) then q3 else r04_Reader_Wrong q3 2).2.1, (if OkA ports (a, b, c) then q3 else r04_Reader_Wrong q3 2).2.2)) := by
      rw [r09_Read_l1, if_pos (by simp only; omega), show ((q.1, q.2.1, q.2.2) : Rq) = q from rfl, a2, Option.bind_some, b2, Option.bind_some, c2, Option.bind_some, one_eq, app_is (by simp; omega), w64_id (by omega)]
      by_cases hf : OkA ports (a, b, c)
      · rw [decide_eq_true hf, if_neg (by decide), if_pos hf]; rfl
      · rw [decide_eq_false hf, if_pos (by decide), if_neg hf]; rfl
    rw [loopW_go g1, loopW_go g2]
    exact ih (k + 1) (by omega) _ _ _ (by simp [hl]) h4
theorem aread_rel {p : Rd} {q : Rq} (h : Rel p q) (ports : Int) : ∃ (L : List A3) (p2 : Rd) (q2 : Rq), L.length ≤ 16 ∧ act_Read p ports = some (L, p2) ∧ r09_Read q ports = some (L, q2) ∧ Rel p2 q2 := by
  obtain ⟨n, p1, q1, hn, h1, h2, h3⟩ := count_rel h
  obtain ⟨L, p', q', hL, g1, g2, g3⟩ := reads_acts ports hn p1 q1 n 0 (by omega) [] p1 q1 rfl h3
  have hok := rel_ok g3
  have g1' : loopW (act_Read_l1 ports ((n : Int), p1)) ([], 0, p1.1, p1.2) = _ := g1
  have g2' : loopW (r09_Read_l1 ports ((n : Int), q1)) ([], 0, q1.1, q1.2.1, q1.2.2) = _ := g2
  refine ⟨if q'.2.2 = 0 then L else [], p', q', by
    split
    · omega
    · exact Nat.zero_le _, ?_, ?_, g3⟩
  · unfold act_Read
    rw [h1, Option.bind_some, g1', Option.bind_some]
    show (if (!(octet_Reader_Ok p')) = true then some (([] : List A3), p') else some (L, p')) = _
    rw [hok]
    by_cases hq : q'.2.2 = 0
    · rw [decide_eq_true hq, if_neg (by decide), if_pos hq]
    · rw [decide_eq_false hq, if_pos (by decide), if_neg hq]
  · unfold r09_Read
    rw [h2, Option.bind_some, g2', Option.bind_some]
    show (if q'.2.2 ≠ 0 then some (([] : List A3), q') else some (L, q')) = _
    by_cases hq : q'.2.2 = 0
    · rw [if_neg (fun h => h hq), if_pos hq]
    · rw [if_pos hq, if_neg hq]
theorem read_acts_code {ports : Int} (hp : ports ≤ 256) {l : List A3} (h : OkAs ports l) (px : Rd) : ∀ (d k : Nat), k + d = l.length → loopW (act_Read_l1 ports ((l.length : Int), px)) (l.take k, (k : Int), ((l.drop k).map byte3).flatten, 0) = some (l, [], 0) := by
  have hl := h.1
  intro d
  induction d with
  | zero =>
    intro k hk
    refine loopW_end ?_
    rw [act_Read_l1, if_neg (by simp only; omega), List.drop_eq_nil_of_le (by omega), List.take_of_length_le (by omega)]; rfl
  | succ d ih =>
    intro k hk
    have hkl : k < l.length := by omega
    have ho := h.2 _ (List.getElem_mem hkl)
    obtain ⟨b1, b2, b3⟩ := oka_by hp ho
    obtain ⟨x, ex, vx⟩ := be1_byte b1
    obtain ⟨y, ey, vy⟩ := be1_byte b2
    obtain ⟨z, ez, vz⟩ := be1_byte b3
    have hf : ((l.drop k).map byte3).flatten = x :: y :: z :: ((l.drop (k + 1)).map byte3).flatten := by
      rw [List.drop_eq_getElem_cons hkl]
      show byte3 l[k] ++ _ = _
      unfold byte3
      rw [ex, ey, ez]; rfl
    have hfl : (((l.drop (k + 1)).map byte3).flatten).length ≤ 100 := by
      rw [flat_len, List.length_drop]; omega
    rw [← ih (k + 1) (by omega), List.take_succ_eq_append_getElem hkl]
    refine loopW_go ?_
    rw [act_Read_l1, if_pos (by simp only; omega), hf, num_byte x _ (by rw [List.length_cons, List.length_cons]; omega), Option.bind_some, num_byte y _ (by rw [List.length_cons]; omega), Option.bind_some, num_byte z _ (by omega), Option.bind_some]
    simp only
    rw [vx, vy, vz, act_eq, decide_eq_true (show OkA ports (l[k].1, l[k].2.1, l[k].2.2) from ho), Option.bind_some, if_neg (by decide), Option.bind_some, app_is (by simp; omega), Option.bind_some, w64_id (by omega)]; rfl
theorem aread_code {ports : Int} (hp : ports ≤ 256) {l : List A3} (h : OkAs ports l) : act_Read (codeA l, 0) ports = some (l, ([], 0)) := by
  have hl := h.1
  obtain ⟨c, ec, vc⟩ := be1_byte (v := (l.length : Int)) (by constructor <;> omega)
  have hc : codeA l = c :: (l.map byte3).flatten := by unfold codeA; rw [ec]; rfl
  have hfl := flat_len l
  have hcount : octet_Reader_Count (c :: (l.map byte3).flatten, 0) 16 = some ((l.length : Int), ((l.map byte3).flatten, 0)) := by
    unfold octet_Reader_Count
    rw [num_byte c _ (by omega), Option.bind_some]
    simp only
    rw [vc, if_neg (by omega), Option.bind_some]; rfl
  have e := read_acts_code hp h ((l.map byte3).flatten, 0) l.length 0 (by omega)
  have e' : loopW (act_Read_l1 ports ((l.length : Int), ((l.map byte3).flatten, 0))) ([], 0, (l.map byte3).flatten, 0) = _ := e
  unfold act_Read
  rw [hc, hcount, Option.bind_some, e']; rfl
theorem ActReads_core (p0 : List UInt8) (l : List A3) (p2 : Int) (hl1 : l.length ≤ 9223372036854775807) : L09_ActReads p0 l p2 = some true := by
  have hs : ∃ s : List UInt8, s.length ≤ 60 ∧ (if 60 < (p0.length : Int) then (subl p0 0 60).bind fun x2 => some x2 else some p0) = some s := by
    by_cases h : 60 < (p0.length : Int)
    · rw [if_pos h, subl_is (by omega)]
      exact ⟨_, by simp; omega, rfl⟩
    · rw [if_neg h]; exact ⟨p0, by omega, rfl⟩
  obtain ⟨s, hl, hs⟩ := hs
  unfold L09_ActReads
  rw [hs, Option.bind_some, awake09]
  have hrel : Rel (octet_Open s) (s, 0, 0) := ⟨by show (0 : Int) ≤ 0; decide, by simp only; omega, rfl, by simp only; omega⟩
  obtain ⟨x, p', q', hx, r1, r2, g3⟩ := aread_rel hrel p2
  obtain ⟨q3, k1, k2⟩ := rel_end g3
  rw [r1, r2]
  simp only [Option.bind_some]
  rw [rsame_eq (by omega), decide_eq_true rfl, Option.bind_some, if_neg (by decide), rel_left g3, if_neg (by simp), endR_eq, k1]
  simp only [Option.bind_some]
  rw [decide_eq_false (by simp), if_neg (by decide), racts_eq hl1]
  simp only [Option.bind_some]
  by_cases hp : OkAs p2 l
  · rw [decide_eq_true hp, if_neg (by decide), Option.bind_some]
    by_cases hq : 256 < p2
    · rw [decide_eq_true hq]; rfl
    · rw [decide_eq_false hq, if_neg (by decide), actcode_eq (by omega) hp, Option.bind_some]
      have hr := aread_code (by omega) hp
      rw [show octet_Open (codeA l) = (codeA l, 0) from rfl, hr]
      simp only [Option.bind_some]
      rw [same_eq hl1, decide_eq_true rfl, Option.bind_some, if_pos rfl, endR_eq]
      simp
  · rw [decide_eq_false hp]; rfl
theorem ActReads_true (p0 : List UInt8) {A : Prop} (_ : A) (l : List A3) (ok : okL (okP W64 (okP W64 W64)) l) (p2 : Int) {B : Prop} (_ : B) : L09_ActReads p0 l p2 = some true := ActReads_core p0 l p2 ok.1
end Go.Proofs.YtefiglmpdajonaaDoor
