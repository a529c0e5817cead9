/- Layer 30: policies: what they ask for; cells. Conditions: none. -/
import Derived.Test.YtgoifghhcekahaaGreatDoordN30Q
namespace Go.Proofs.YtgoifghhcekahaaGreatDoor
set_option linter.unusedVariables false
set_option linter.unusedSimpArgs false
open Go Go.RowKit
theorem Wj (f : Int) (t : Tr28) : EL f (mi t) = (if t.un.1 = 3 ∧ t.un.2.1 = f then [t.un.2.2.1] else []) ++ ((t.un.2.2.2.map fun x => EL f (mi x)).flatten) := by rw [I9, PZ]; show _ ++ ((t.un.2.2.2.map mi).map (EL f)).flatten = _; rw [List.map_map]; rfl
theorem OY {f v : Int} {t : Tr28} : v ∈ EL f (mi t) ↔ (t.un.1 = 3 ∧ t.un.2.1 = f ∧ t.un.2.2.1 = v) ∨ ∃ x ∈ t.un.2.2.2, v ∈ EL f (mi x) := by
  rw [Wj, List.mem_append]
  refine or_congr ?_ ?_
  · by_cases c : t.un.1 = 3 ∧ t.un.2.1 = f
    · rw [if_pos c, List.mem_singleton]
      exact ⟨fun h => ⟨c.1, c.2, h.symm⟩, fun h => h.2.2.symm⟩
    · rw [if_neg c]
      exact ⟨fun h => absurd h (List.not_mem_nil), fun h => absurd ⟨h.1, h.2.1⟩ c⟩
  · rw [List.mem_flatten]
    constructor
    · rintro ⟨l, hl, hv⟩
      obtain ⟨x, hx, rfl⟩ := List.mem_map.1 hl
      exact ⟨x, hx, hv⟩
    · rintro ⟨x, hx, hv⟩
      exact ⟨_, List.mem_map.2 ⟨x, hx, rfl⟩, hv⟩
theorem Vv (f v : Int) : ∀ (n : Nat) (t : Tr28), SizeOf.sizeOf t < n → t.cnt ≤ 1048576 → EM n t f v = some (decide (v ∈ EL f (mi t)))
  | 0, t, h, _ => absurd h (Nat.not_lt_zero _)
  | n + 1, t, h, hc => by
    have hl := WX t
    show Fb (EM n) t f v = _
    unfold Fb
    by_cases g : t.un.1 = 3 ∧ t.un.2.1 = f ∧ t.un.2.2.1 = v
    · rw [if_pos (by simp [g.1, g.2.1, g.2.2]), decide_eq_true (OY.2 (.inl g))]
    · rw [if_neg (by simpa using g), Gp t.un.2.2.2 (by omega) (Fe (EM n) t f v) (fun x => v ∈ EL f (mi x)) true (fun k hk => by
        have hm := List.getElem_mem hk
        rw [Fe, if_pos (by omega), Bl (List.getElem?_eq_getElem hk), Option.bind_some, Vv f v n _ (by have := Qd hm; omega) (Nat.le_trans (WM hm) hc), Option.bind_some]
        by_cases q : v ∈ EL f (mi t.un.2.2.2[k])
        · rw [decide_eq_true q, if_pos q]; rfl
        · rw [decide_eq_false q, if_neg q]; rfl) (by rw [Fe, if_neg (by omega)])]
      by_cases q : ∃ x ∈ t.un.2.2.2, v ∈ EL f (mi x)
      · rw [if_pos q, decide_eq_true (OY.2 (.inr q))]; rfl
      · rw [if_neg q, decide_eq_false (fun hh => (OY.1 hh).elim g q)]; rfl
theorem Wh {t : Tr28} (hc : t.cnt ≤ 1048576) (f v : Int) : JO t f v = some (decide (v ∈ EL f (mi t))) := CB (g := fun n => EM n t f v) (fun n r h => KM n t f v r h) (Vv f v (SizeOf.sizeOf t + 1) t (by omega) hc)
theorem VU {t : Tr36} (hc : t.cnt ≤ 1000000) (f : Int) : ∃ V, Ho t f = some V ∧ V.Pairwise (· < ·) ∧ V.length ≤ t.cnt ∧ ∀ v, v ∈ V ↔ v ∈ EL f t := by
  have hlen := Lm f (SizeOf.sizeOf t + 1) t (by omega)
  obtain ⟨S, s1, s2, s3⟩ := Ts (L := EL f t) (by omega)
  obtain ⟨R, r1, r2, r3⟩ := OV (L := S) (by rw [s2.length_eq]; omega) s3
  have hRl : R.length ≤ S.length := by
    have hnd : R.Nodup := r2.imp fun h => by omega
    exact PN R S hnd fun x hx => (r3 x).1 hx
  refine ⟨R, ?_, r2, by rw [s2.length_eq] at hRl; omega, fun v => (r3 v).trans s2.mem_iff⟩
  unfold Ho
  rw [RQ (by omega), Option.bind_some, s1, Option.bind_some, r1]; rfl
def us (f : Int) : Tr39 → List Int
  | .mk k p g v l => EL f p ++ (if k = 2 ∧ g = f then [v] else []) ++ (l.map (us f)).flatten
theorem Yw (f : Int) (t : Tr39) : us f t = EL f t.un.2.1 ++ (if t.un.1 = 2 ∧ t.un.2.2.1 = f then [t.un.2.2.2.1] else []) ++ (t.un.2.2.2.2.map (us f)).flatten := by cases t; rw [us]; rfl
theorem SL {f v : Int} {t : Tr39} : v ∈ us f t ↔ v ∈ EL f t.un.2.1 ∨ (t.un.1 = 2 ∧ t.un.2.2.1 = f ∧ t.un.2.2.2.1 = v) ∨ ∃ x ∈ t.un.2.2.2.2, v ∈ us f x := by
  rw [Yw, List.mem_append, List.mem_append, or_assoc]
  refine or_congr Iff.rfl (or_congr ?_ ?_)
  · by_cases c : t.un.1 = 2 ∧ t.un.2.2.1 = f
    · rw [if_pos c, List.mem_singleton]
      exact ⟨fun h => ⟨c.1, c.2, h.symm⟩, fun h => h.2.2.symm⟩
    · rw [if_neg c]
      exact ⟨fun h => absurd h (List.not_mem_nil), fun h => absurd ⟨h.1, h.2.1⟩ c⟩
  · rw [List.mem_flatten]
    constructor
    · rintro ⟨l, hl, hv⟩
      obtain ⟨x, hx, rfl⟩ := List.mem_map.1 hl
      exact ⟨x, hx, hv⟩
    · rintro ⟨x, hx, hv⟩
      exact ⟨_, List.mem_map.2 ⟨x, hx, rfl⟩, hv⟩
theorem Va (f : Int) : ∀ (n : Nat) (t : Tr39), SizeOf.sizeOf t < n → t.cnt ≤ 1000 → ∃ U, Dc n t f = some U ∧ U.length ≤ t.cnt ∧ ∀ v, v ∈ U ↔ v ∈ us f t
  | 0, t, h, _ => absurd h (Nat.not_lt_zero _)
  | n + 1, t, h, hc => by
    have hl := lP t
    have hq := qP t
    have hcc := MY t
    obtain ⟨V, v1, _, v3, v4⟩ := VU (t := t.un.2.1) (by omega) f
    have e1 : ∃ W : List Int, (if (decide (t.un.1 = 2) && decide (t.un.2.2.1 = f)) = true then (GP V ([t.un.2.2.2.1] : List Int)).bind fun x3 => some x3 else some V) = some W ∧ W.length ≤ t.un.2.1.cnt + 1 ∧ ∀ v, v ∈ W ↔ v ∈ EL f t.un.2.1 ∨ (t.un.1 = 2 ∧ t.un.2.2.1 = f ∧ t.un.2.2.2.1 = v) := by
      by_cases c : t.un.1 = 2 ∧ t.un.2.2.1 = f
      · refine ⟨V ++ [t.un.2.2.2.1], by rw [if_pos (by simp [c.1, c.2]), Hz (by simp; omega)]; rfl, by simp; omega, fun v => ?_⟩
        rw [List.mem_append, List.mem_singleton, v4]
        exact or_congr Iff.rfl ⟨fun h => ⟨c.1, c.2, h.symm⟩, fun h => h.2.2.symm⟩
      · refine ⟨V, by rw [if_neg (by simpa using c)], by omega, fun v => ?_⟩
        rw [v4]
        exact ⟨.inl, fun h => h.elim id fun h => absurd ⟨h.1, h.2.1⟩ c⟩
    obtain ⟨W, w1, w2, w3⟩ := e1
    obtain ⟨o, ⟨h1, h1'⟩, h2⟩ := CV t.un.2.2.2.2.length (fun (o : List Int) (i : Nat) => (o, (i : Int))) (CW (Dc n) t f) id (fun o i => o.length ≤ t.un.2.1.cnt + 1 + ((t.un.2.2.2.2.take i).map Tr39.cnt).sum ∧ ∀ v, v ∈ o ↔ (v ∈ EL f t.un.2.1 ∨ (t.un.1 = 2 ∧ t.un.2.2.1 = f ∧ t.un.2.2.2.1 = v)) ∨ ∃ x ∈ t.un.2.2.2.2.take i, v ∈ us f x)
      (fun o i hi ho => by
        have hm := List.getElem_mem hi
        obtain ⟨U, u1, u2, u3⟩ := Va f n t.un.2.2.2.2[i] (by have := Ub hm; omega) (Nat.le_trans (cP hm) hc)
        have hs2 : ((t.un.2.2.2.2.take (i + 1)).map Tr39.cnt).sum = ((t.un.2.2.2.2.take i).map Tr39.cnt).sum + t.un.2.2.2.2[i].cnt := by
          rw [List.take_succ_eq_append_getElem hi, List.map_append, List.sum_append]; simp
        have hle := HX (g := Tr39.cnt) t.un.2.2.2.2 (i + 1)
        have ho1 := ho.1
        refine ⟨o ++ U, ?_, by rw [List.length_append]; omega, fun v => ?_⟩
        · rw [CW, if_pos (by omega), Bl (List.getElem?_eq_getElem hi), Option.bind_some, Lg, MX, u1, Option.bind_some, Hz (by omega), Option.bind_some, Ax (by omega)]; rfl
        · rw [List.mem_append, ho.2, u3, or_assoc]
          refine or_congr Iff.rfl ?_
          rw [List.take_succ_eq_append_getElem hi]
          constructor
          · rintro (⟨x, hx, hv⟩ | hv)
            · exact ⟨x, List.mem_append.2 (.inl hx), hv⟩
            · exact ⟨_, List.mem_append.2 (.inr (List.mem_singleton.2 rfl)), hv⟩
          · rintro ⟨x, hx, hv⟩
            rcases List.mem_append.1 hx with h | h
            · exact .inl ⟨x, h, hv⟩
            · rw [List.mem_singleton.1 h] at hv; exact .inr hv)
      (fun o _ => by rw [CW, if_neg (by omega)]; rfl) W ⟨by simpa using w2, fun v => by rw [w3]; simp⟩
    rw [List.take_length] at h1 h1'
    have h2' : AB (CW (Dc n) t f) (W, 0) = some o := h2
    refine ⟨o, ?_, by omega, fun v => ?_⟩
    · show DG (Dc n) t f = _
      unfold DG
      rw [Lg, v1, Option.bind_some, w1, Option.bind_some, h2']; rfl
    · rw [h1', SL, or_assoc]
theorem Qo {t : Tr39} (hc : t.cnt ≤ 1000) (f : Int) : ∃ V, EJ t f = some V ∧ V.Pairwise (· < ·) ∧ ∀ v, v ∈ V ↔ v ∈ us f t := by
  obtain ⟨U, u1, u2, u3⟩ := Va f (SizeOf.sizeOf t + 1) t (by omega) hc
  obtain ⟨S, s1, s2, s3⟩ := Ts (L := U) (by omega)
  obtain ⟨R, r1, r2, r3⟩ := OV (L := S) (by rw [s2.length_eq]; omega) s3
  refine ⟨R, ?_, r2, fun v => (r3 v).trans (s2.mem_iff.trans (u3 v))⟩
  unfold EJ
  rw [Lg, MX, show Ju t f = some U from CB (g := fun n => Dc n t f) (fun n r h => I0 n t f r h) u1, Option.bind_some, s1, Option.bind_some, r1]; rfl
theorem SU {f v : Int} : ∀ (n : Nat) (t : Tr36), SizeOf.sizeOf t < n → FY t = true → v ∈ EL f t → 0 ≤ v ∧ v ≤ CP f
  | 0, t, h, _, _ => absurd h (Nat.not_lt_zero _)
  | n + 1, t, h, hf, hv => by
    obtain ⟨h1, h2⟩ := (FP t).1 hf
    rw [I9] at hv
    rcases List.mem_append.1 hv with hh | hh
    · by_cases c : t.un.1 = 3 ∧ t.un.2.1 = f
      · rw [if_pos c] at hh
        have h3 := h1.2.2.2.1 c.1
        rw [c.2] at h3
        rw [List.mem_singleton.1 hh]; exact h3.2.2
      · rw [if_neg c] at hh; exact absurd hh (List.not_mem_nil)
    · obtain ⟨l, hl, hvl⟩ := List.mem_flatten.1 hh
      obtain ⟨x, hx, rfl⟩ := List.mem_map.1 hl
      exact SU n x (by have := NJ hx; omega) (h2 x hx) hvl
theorem SV {f v : Int} : ∀ (n : Nat) (t : Tr39), SizeOf.sizeOf t < n → GA t = true → v ∈ us f t → 0 ≤ v ∧ v ≤ CP f
  | 0, t, h, _, _ => absurd h (Nat.not_lt_zero _)
  | n + 1, t, h, hf, hv => by
    obtain ⟨⟨⟨h1, hz⟩, ho⟩, h2⟩ := (GI t).1 hf
    unfold FQ at h1
    rcases SL.1 hv with hh | ⟨a, b, c⟩ | ⟨x, hx, hxv⟩
    · by_cases k : t.un.1 = 1 ∨ t.un.1 = 5
      · exact SU (SizeOf.sizeOf t.un.2.1 + 1) t.un.2.1 (by omega) (ho k).1 hh
      · rw [hz (by omega)] at hh
        have e : EL f ZP = [] := by rw [I9]; rfl
        rw [e] at hh
        exact absurd hh (List.not_mem_nil)
    · have := h1.2.2.2.1 a
      rw [b, c] at this
      omega
    · exact SV n x (by have := Ub hx; omega) (h2 x hx) hxv
theorem Vc {f v : Int} {t : Tr31} : v ∈ us f (pm t) ↔ v ∈ EL f (mi t.un.2.1) ∨ (t.un.1 = 2 ∧ t.un.2.2.1 = f ∧ t.un.2.2.2.1 = v) ∨ ∃ x ∈ t.un.2.2.2.2, v ∈ us f (pm x) := by
  rw [SL, O8]
  refine or_congr Iff.rfl (or_congr Iff.rfl ?_)
  constructor
  · rintro ⟨x, hx, hv⟩
    obtain ⟨y, hy, rfl⟩ := List.mem_map.1 (show x ∈ t.un.2.2.2.2.map pm from hx)
    exact ⟨y, hy, hv⟩
  · rintro ⟨x, hx, hv⟩
    exact ⟨pm x, List.mem_map.2 ⟨x, hx, rfl⟩, hv⟩
theorem Wo (f v : Int) : ∀ (n : Nat) (t : Tr31), SizeOf.sizeOf t < n → t.cnt ≤ 1048576 → FC n t f v = some (decide (v ∈ us f (pm t)))
  | 0, t, h, _ => absurd h (Nat.not_lt_zero _)
  | n + 1, t, h, hc => by
    have hl := lD t
    have hq := qD t
    show FR (FC n) t f v = _
    unfold FR
    rw [Kq, Wh (by omega)]
    simp only [Option.bind_some]
    have e1 : ∃ b : Bool, (if t.un.1 = 2 then (if t.un.2.2.1 = f then (if t.un.2.2.2.1 = v then some true else some (decide (v ∈ EL f (mi t.un.2.1)))) else some (decide (v ∈ EL f (mi t.un.2.1)))) else some (decide (v ∈ EL f (mi t.un.2.1)))) = some b ∧ (b = true ↔ v ∈ EL f (mi t.un.2.1) ∨ (t.un.1 = 2 ∧ t.un.2.2.1 = f ∧ t.un.2.2.2.1 = v)) := by
      by_cases c : t.un.1 = 2 ∧ t.un.2.2.1 = f ∧ t.un.2.2.2.1 = v
      · exact ⟨true, by rw [if_pos c.1, if_pos c.2.1, if_pos c.2.2], ⟨fun _ => .inr c, fun _ => rfl⟩⟩
      · refine ⟨decide (v ∈ EL f (mi t.un.2.1)), ?_, by rw [decide_eq_true_eq]; exact ⟨.inl, fun h => h.elim id fun h => absurd h c⟩⟩
        by_cases c1 : t.un.1 = 2
        · rw [if_pos c1]
          by_cases c2 : t.un.2.2.1 = f
          · rw [if_pos c2, if_neg (fun h => c ⟨c1, c2, h⟩)]
          · rw [if_neg c2]
        · rw [if_neg c1]
    obtain ⟨b, b1, b2⟩ := e1
    rw [b1, Option.bind_some]
    cases b with
    | true => rw [if_pos rfl, decide_eq_true (Vc.2 (or_assoc.1 (.inl (b2.1 rfl))))]
    | false =>
      have hno : ¬ (v ∈ EL f (mi t.un.2.1) ∨ (t.un.1 = 2 ∧ t.un.2.2.1 = f ∧ t.un.2.2.2.1 = v)) := fun h => by have := b2.2 h; cases this
      rw [if_neg (by decide), Gp t.un.2.2.2.2 (by omega) (FM (FC n) t f v) (fun x => v ∈ us f (pm x)) true (fun k hk => by
        have hm := List.getElem_mem hk
        rw [FM, if_pos (by omega), Bl (List.getElem?_eq_getElem hk), Option.bind_some, Kq, Nj, Wo f v n _ (by have := We hm; omega) (Nat.le_trans (cD hm) hc), Option.bind_some]
        by_cases q : v ∈ us f (pm t.un.2.2.2.2[k])
        · rw [decide_eq_true q, if_pos q]; rfl
        · rw [decide_eq_false q, if_neg q]; rfl) (by rw [FM, if_neg (by omega)])]
      by_cases q : ∃ x ∈ t.un.2.2.2.2, v ∈ us f (pm x)
      · rw [if_pos q, decide_eq_true (Vc.2 (.inr (.inr q)))]; rfl
      · rw [if_neg q, decide_eq_false (fun hh => (or_assoc.2 (Vc.1 hh)).elim hno q)]; rfl
theorem Sh {t : Tr31} (hc : t.cnt ≤ 1048576) (f v : Int) : Kh t f v = some (decide (v ∈ us f (pm t))) := CB (g := fun n => FC n t f v) (fun n r h => Lx n t f v r h) (Wo f v (SizeOf.sizeOf t + 1) t (by omega) hc)
def Nh (f : Int) (t : Tr39) (i : Nat) : List Int := ((List.range i).map fun (j : Nat) => (j : Int)).filter fun x => decide (x ∈ us f t)
theorem T1 (f : Int) (t : Tr39) (i : Nat) : Nh f t (i + 1) = Nh f t i ++ if (i : Int) ∈ us f t then [(i : Int)] else [] := by
  unfold Nh
  rw [List.range_succ, List.map_append, List.filter_append]
  congr 1
  show List.filter _ [(i : Int)] = _
  by_cases c : (i : Int) ∈ us f t
  · rw [if_pos c, List.filter_cons_of_pos (by simpa using c)]; rfl
  · rw [if_neg c, List.filter_cons_of_neg (by simpa using c)]; rfl
theorem Sa (f : Int) (t : Tr39) (i : Nat) : (Nh f t i).length ≤ i := by
  unfold Nh
  have := List.length_filter_le (fun x => decide (x ∈ us f t)) ((List.range i).map fun (j : Nat) => (j : Int))
  simpa using this
abbrev len (f : Int) (t : Tr39) : Nat := (Nh f t ((CP f).toNat + 1)).length
theorem Oo (f : Int) (t : Tr39) : len f t ≤ 256 := by
  have := Sa f t ((CP f).toNat + 1)
  have := Oc f
  show (Nh f t _).length ≤ _
  omega
theorem Jy {t : Tr39} (hf : GA t = true) (f : Int) {V : List Int} (h1 : V.Pairwise (· < ·)) (h2 : ∀ v, v ∈ V ↔ v ∈ us f t) : V = Nh f t ((CP f).toNat + 1) := by
  have htb := Oc f
  refine RX h1 ?_ fun x => ?_
  · unfold Nh
    refine List.Pairwise.filter _ ?_
    rw [List.pairwise_map]
    exact List.pairwise_lt_range.imp fun h => by omega
  · unfold Nh
    rw [h2, List.mem_filter, decide_eq_true_eq]
    refine ⟨fun h => ⟨?_, h⟩, fun h => h.2⟩
    have := SV (SizeOf.sizeOf t + 1) t (by omega) hf h
    exact List.mem_map.2 ⟨x.toNat, List.mem_range.2 (by omega), by omega⟩
theorem V7 {t : Tr31} (hc : t.cnt ≤ 1048576) (f : Int) : J3 t f = some (len f (pm t) : Int) := by
  have htb := Oc f
  unfold J3
  obtain ⟨o, h1, h2⟩ := CV ((CP f).toNat + 1) (fun (o : Int) (i : Nat) => (o, (i : Int))) (Gs t f) id (fun o i => o = ((Nh f (pm t) i).length : Nat))
    (fun o i hi ho => by
      have hvl := Sa f (pm t) i
      refine ⟨((Nh f (pm t) (i + 1)).length : Nat), ?_, rfl⟩
      rw [Gs, if_pos (by omega), Kq, Nj, Sh hc, Option.bind_some, T1, ho]
      by_cases c : (i : Int) ∈ us f (pm t)
      · rw [decide_eq_true c, if_pos rfl, if_pos c, Ax (by omega), List.length_append]
        show some (Sum.inl (_, AJ _)) = _
        rw [Ax (by omega)]; rfl
      · rw [decide_eq_false c, if_neg (by decide), if_neg c, List.append_nil]
        show some (Sum.inl (_, AJ _)) = _
        rw [Ax (by omega)]; rfl)
    (fun o _ => by rw [Gs, if_neg (by omega)]; rfl) 0 rfl
  have h2' : AB (Gs t f) (0, 0) = some o := h2
  rw [h2', h1]; rfl
def cl (t : Tr39) : Nat → Int
  | 0 => 1
  | i + 1 => min (cl t i * ((len i t : Nat) + 1 : Int)) 100000
theorem Xb {a b : Int} (ha : 0 ≤ a ∧ a ≤ 100000) (hb : 0 ≤ b ∧ b ≤ 257) : 0 ≤ a * b ∧ a * b ≤ 25700000 := by
  refine ⟨Int.mul_nonneg ha.1 hb.1, ?_⟩
  have h1 : a * b ≤ 100000 * b := Int.mul_le_mul_of_nonneg_right ha.2 hb.1
  omega
theorem Vg (t : Tr39) : ∀ i, 0 ≤ cl t i ∧ cl t i ≤ 100000
  | 0 => by unfold cl; omega
  | i + 1 => by
    have h1 := Vg t i
    have h2 := Oo i t
    have h3 := Xb h1 (b := ((len i t : Nat) + 1 : Int)) (by omega)
    show 0 ≤ min (cl t i * ((len i t : Nat) + 1 : Int)) 100000 ∧ min (cl t i * ((len i t : Nat) + 1 : Int)) 100000 ≤ 100000
    omega
theorem QC {t : Tr39} (hc : t.cnt ≤ 1000) (hf : GA t = true) : Ev t = some (cl t 5) := by
  unfold Ev
  obtain ⟨o, h1, h2⟩ := CV 5 (fun (o : Int) (i : Nat) => (o, (i : Int))) (ES t) id (fun o i => o = cl t i)
    (fun o i hi ho => by
      obtain ⟨V, v1, v2, v3⟩ := Qo hc (i : Int)
      have hV := Jy hf i v2 v3
      have h1 := Vg t i
      have h2 := Oo i t
      have h3 := Xb h1 (b := ((len i t : Nat) + 1 : Int)) (by omega)
      refine ⟨cl t (i + 1), ?_, rfl⟩
      rw [ES, if_pos (by omega), Lg, MX, v1, Option.bind_some, hV]
      show some (Sum.inl (min (AJ (o * AJ ((len i t : Int) + 1))) 100000, _)) = _
      rw [Ax (x := (len i t : Int) + 1) (by omega), ho, Ax (by omega), Ax (by omega)]; rfl)
    (fun o _ => by rw [ES, if_neg (by omega)]; rfl) 1 rfl
  have h2' : AB (ES t) (1, 0) = some o := h2
  rw [h2', h1]; rfl
theorem Un {t : Tr31} (hc : t.cnt ≤ 1048576) : Gq t = some (cl (pm t) 5) := by
  unfold Gq
  obtain ⟨o, h1, h2⟩ := CV 5 (fun (o : Int) (i : Nat) => (o, (i : Int))) (FZ t) id (fun o i => o = cl (pm t) i)
    (fun o i hi ho => by
      have h1 := Vg (pm t) i
      have h2 := Oo i (pm t)
      have h3 := Xb h1 (b := ((len i (pm t) : Nat) + 1 : Int)) (by omega)
      refine ⟨cl (pm t) (i + 1), ?_, rfl⟩
      rw [FZ, if_pos (by omega), Kq, Nj, V7 hc, Option.bind_some, Ax (x := (len i (pm t) : Int) + 1) (by omega), ho, Ax (x := cl (pm t) i * ((len i (pm t) : Int) + 1)) (by omega), Ax (by omega)]
      show _ = some (Sum.inl (min (cl (pm t) i * ((len i (pm t) : Nat) + 1 : Int)) 100000, _))
      by_cases c : 100000 < cl (pm t) i * ((len i (pm t) : Int) + 1)
      · rw [if_pos c, show min (cl (pm t) i * ((len i (pm t) : Nat) + 1 : Int)) 100000 = 100000 by omega]; rfl
      · rw [if_neg c, show min (cl (pm t) i * ((len i (pm t) : Nat) + 1 : Int)) 100000 = cl (pm t) i * ((len i (pm t) : Nat) + 1 : Int) by omega]; rfl)
    (fun o _ => by rw [FZ, if_neg (by omega)]; rfl) 1 rfl
  have h2' : AB (FZ t) (1, 0) = some o := h2
  rw [h2', h1]; rfl
end Go.Proofs.YtgoifghhcekahaaGreatDoor
