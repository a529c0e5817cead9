/- Layer 27: trees of any size. Conditions: none. -/
import Derived.Test.YtpckgggmgijiiaaGreatDoorcN27P
namespace Go.Proofs.YtpckgggmgijiiaaGreatDoor
set_option linter.unusedVariables false
set_option linter.unusedSimpArgs false
open Go Go.RowKit
theorem N7 {σ τ ε : Type} (n : Nat) (mkS : σ → Nat → τ) (step : τ → Option (τ ⊕ ε)) (hs : ∀ s k, k < n → ∃ s', step (mkS s k) = some (.inl (mkS s' (k + 1)))) (he : ∀ s, ∃ e, step (mkS s n) = some (.inr e)) (s : σ) : ∃ e, Ba step (mkS s 0) = some e := by
  obtain ⟨s', _, h⟩ := Kg n mkS step (fun s => Classical.choose (he s)) (fun _ _ => True) (fun s k hk _ => by obtain ⟨s', h⟩ := hs s k hk; exact ⟨s', h, trivial⟩) (fun s _ => Classical.choose_spec (he s)) s trivial
  exact ⟨_, h⟩
inductive SmC : Tr34 → Prop
  | mk (t : Tr34) : t.un.2.2.2.length ≤ 8 → (∀ x ∈ t.un.2.2.2, SmC x) → SmC t
theorem SmC.len {t : Tr34} (h : SmC t) : t.un.2.2.2.length ≤ 8 := by cases h; assumption
theorem SmC.ch {t : Tr34} (h : SmC t) {x : Tr34} (hx : x ∈ t.un.2.2.2) : SmC x := by cases h with | mk _ _ h => exact h x hx
theorem SmC.mi_len {t : Tr24} (h : SmC (mi t)) : t.un.2.2.2.length ≤ 8 := by
  have := h.len
  rw [QZ] at this
  simpa using this
theorem SmC.mi_ch {t : Tr24} (h : SmC (mi t)) {x : Tr24} (hx : x ∈ t.un.2.2.2) : SmC (mi x) := h.ch (by rw [QZ]; exact List.mem_map.2 ⟨x, hx, rfl⟩)
theorem T5 : ∀ (n : Nat) (t : Tr34), SizeOf.sizeOf t < n → Jk t = true → SmC t
  | 0, t, h, _ => absurd h (Nat.not_lt_zero _)
  | n + 1, t, h, hf => by
    obtain ⟨h1, h2⟩ := (Rc t).1 hf
    exact .mk t (by unfold LX at h1; omega) fun x hx => T5 n x (by have := UC hx; omega) (h2 x hx)
theorem XJ {t : Tr34} (h : Jk t = true) : SmC t := T5 (SizeOf.sizeOf t + 1) t (by omega) h
theorem SE : ∀ (n : Nat) (t : Tr24), SizeOf.sizeOf t < n → SmC (mi t) → Ev n t = some (mi t)
  | 0, t, h, _ => absurd h (Nat.not_lt_zero _)
  | n + 1, t, h, hc => by
    have hl := hc.mi_len
    show Fp (Ev n) t = _
    unfold Fp
    obtain ⟨o, h1, h2⟩ := Kg t.un.2.2.2.length (fun (o : List Tr34) (i : Nat) => ((i : Int), o)) (DR (Ev n) t) id (fun o i => o = (t.un.2.2.2.take i).map mi)
      (fun o i hi ho => by
        have hm := List.getElem_mem hi
        have hx := SE n t.un.2.2.2[i] (by have := UB hm; omega) (hc.mi_ch hm)
        refine ⟨o ++ [mi t.un.2.2.2[i]], ?_, by rw [ho, List.take_succ_eq_append_getElem hi, List.map_append]; rfl⟩
        rw [DR, if_pos (by omega), DY (List.getElem?_eq_getElem hi), Option.bind_some, hx, Option.bind_some, Qv (by rw [ho]; simp; omega), Option.bind_some, AK (by omega)]; rfl)
      (fun o _ => by rw [DR, if_neg (by omega)]; rfl) [] rfl
    rw [List.take_length] at h1
    have h2' : Ba (DR (Ev n) t) (0, []) = some o := h2
    rw [h2', h1, Option.bind_some, ← Vn]
theorem Vp {t : Tr24} (hc : SmC (mi t)) : Kn t = some (mi t) := Dv (g := fun n => Ev n t) (fun n r h => LG n t r h) (SE (SizeOf.sizeOf t + 1) t (by omega) hc)
theorem PX : ∀ (n : Nat) (t : Tr34), SizeOf.sizeOf t < n → SmC t → Dr n t = some (th t)
  | 0, t, h, _ => absurd h (Nat.not_lt_zero _)
  | n + 1, t, h, hc => by
    have hl := hc.len
    show Ed (Dr n) t = _
    unfold Ed
    obtain ⟨o, h1, h2⟩ := Kg t.un.2.2.2.length (fun (o : List Tr24) (i : Nat) => ((i : Int), o)) (Dl (Dr n) t) id (fun o i => o = (t.un.2.2.2.take i).map th)
      (fun o i hi ho => by
        have hm := List.getElem_mem hi
        have hx := PX n t.un.2.2.2[i] (by have := UC hm; omega) (hc.ch hm)
        refine ⟨o ++ [th t.un.2.2.2[i]], ?_, by rw [ho, List.take_succ_eq_append_getElem hi, List.map_append]; rfl⟩
        rw [Dl, if_pos (by omega), DY (List.getElem?_eq_getElem hi), Option.bind_some, hx, Option.bind_some, Qv (by rw [ho]; simp; omega), Option.bind_some, AK (by omega)]; rfl)
      (fun o _ => by rw [Dl, if_neg (by omega)]; rfl) [] rfl
    rw [List.take_length] at h1
    have h2' : Ba (Dl (Dr n) t) (0, []) = some o := h2
    rw [h2', h1, Option.bind_some, ← WV]
theorem UZ {t : Tr34} (hc : SmC t) : LL t = some (th t) := Dv (g := fun n => Dr n t) (fun n r h => J9 n t r h) (PX (SizeOf.sizeOf t + 1) t (by omega) hc)
theorem Sx (a : Int × Int × PK) : ∀ (n : Nat) (t : Tr34), SizeOf.sizeOf t < n → SmC t → Bk n a t = some (Ns a t)
  | 0, t, h, _ => absurd h (Nat.not_lt_zero _)
  | n + 1, t, h, hc => by
    have hl := hc.len
    have hx : ∀ x ∈ t.un.2.2.2, Bk n a x = some (Ns a x) := fun x hm => Sx a n x (by have := UC hm; omega) (hc.ch hm)
    show BM (Bk n) a t = _
    rw [Ur]
    unfold BM VD
    by_cases c1 : t.un.1 = 1
    · rw [if_pos c1, if_pos c1]
    rw [if_neg c1, if_neg c1]
    by_cases c3 : t.un.1 = 3
    · rw [if_pos c3, if_pos c3, Wg]
      unfold Dg
      rw [← Bool.decide_and]
      by_cases k : 0 ≤ t.un.2.1 ∧ t.un.2.1 ≤ 5
      · rw [if_pos (decide_eq_true k), Option.bind_some, Option.bind_some]
        exact congrArg some (decide_eq_decide.2 ⟨fun h => ⟨k, h⟩, fun h => h.2⟩)
      · rw [if_neg (by simpa using k), Option.bind_some, decide_eq_false (fun h => k h.1)]
    rw [if_neg c3, if_neg c3]
    by_cases c4 : t.un.1 = 4
    · rw [if_pos c4, if_pos c4]
      cases hll : t.un.2.2.2 with
      | nil => rfl
      | cons y l =>
        rw [if_pos (by simp only [List.length_cons]; omega), show ix (y :: l) 0 = some y from DY (k := 0) rfl, Option.bind_some]
        unfold Cp
        rw [hx y (by rw [hll]; exact List.mem_cons_self ..)]; rfl
    rw [if_neg c4, if_neg c4]
    by_cases c5 : t.un.1 = 5
    · rw [if_pos c5, if_pos c5]
      obtain ⟨i, i1, i2⟩ := Sq t.un.2.2.2 (fun x => !Ns a x) (AN (Bk n) t.un.2.2.2 a) (fun k hk => by
        rw [AN, if_pos (by omega), DY (List.getElem?_eq_getElem hk), Option.bind_some]
        unfold Cp
        rw [hx _ (List.getElem_mem hk), Option.bind_some, Option.bind_some, AK (by omega)]; rfl) (by rw [AN, if_neg (by omega)])
      unfold A8 Bh
      rw [i1, Option.bind_some, Option.bind_some, i2, List.all_map]
      congr 1
      rw [List.any_eq_not_all_not]
      simp only [Bool.not_not]
      rfl
    rw [if_neg c5, if_neg c5]
    by_cases c6 : t.un.1 = 6
    · rw [if_pos c6, if_pos c6]
      obtain ⟨i, i1, i2⟩ := Sq t.un.2.2.2 (fun x => Ns a x) (AJ (Bk n) t.un.2.2.2 a) (fun k hk => by
        rw [AJ, if_pos (by omega), DY (List.getElem?_eq_getElem hk), Option.bind_some, hx _ (List.getElem_mem hk), Option.bind_some, AK (by omega)]; rfl) (by rw [AJ, if_neg (by omega)])
      unfold AV Bb
      rw [i1, Option.bind_some, Option.bind_some, i2, List.any_map]; rfl
    rw [if_neg c6, if_neg c6]
theorem Vy {t : Tr34} (hc : SmC t) (s q : Int) (p : PK) : Hq t s q p = some (Ns (s, q, p) t) := by
  unfold Hq
  rw [show D7 (s, q, p) t = some (Ns (s, q, p) t) from Dv (g := fun n => Bk n (s, q, p) t) (fun n r h => D6 n (s, q, p) t r h) (Sx _ (SizeOf.sizeOf t + 1) t (by omega) hc)]; rfl
theorem Rb : ∀ (n : Nat) (t : Tr24), SizeOf.sizeOf t < n → Eo n t = some (Jk (mi t))
  | 0, t, h => absurd h (Nat.not_lt_zero _)
  | n + 1, t, h => by
    have htb := V7 t.un.2.1
    show Ft (Eo n) t = _
    unfold Ft
    have no : ¬ LX t.un.1 t.un.2.1 t.un.2.2.1 t.un.2.2.2.length → Jk (mi t) = false := fun hn => by
      cases hh : Jk (mi t) with
      | false => rfl
      | true => exact absurd ((R7 t).1 hh).1 hn
    by_cases g1 : (bif decide (t.un.1 ≠ 3) then (decide (t.un.2.1 ≠ 0) || (decide (t.un.2.2.1 ≠ 0) || (decide (t.un.1 < 1) || decide (6 < t.un.1)))) else (decide (t.un.1 < 1) || decide (6 < t.un.1))) = true
    · rw [if_pos g1, no (fun hf => by
        unfold LX at hf
        by_cases c : t.un.1 = 3
        · simp [c] at g1
        · rw [show decide (t.un.1 ≠ 3) = true from decide_eq_true c] at g1
          simp only [cond_true, Bool.or_eq_true, decide_eq_true_eq] at g1
          omega)]
    rw [if_neg g1]
    by_cases g2 : (decide (t.un.1 = 3) && (decide (t.un.2.1 < 0) || (decide (5 < t.un.2.1) || (decide (t.un.2.2.1 < 0) || decide ((EY t.un.2.1) < t.un.2.2.1))))) = true
    · rw [if_pos g2, no (fun hf => by
        unfold LX at hf
        simp only [Bool.and_eq_true, Bool.or_eq_true, decide_eq_true_eq] at g2
        omega)]
    rw [if_neg g2]
    by_cases g3 : (bif decide (t.un.1 ≤ 3) then (decide ((t.un.2.2.2.length : Int) ≠ 0) || (bif decide (t.un.1 = 4) then (decide ((t.un.2.2.2.length : Int) ≠ 1) || (decide (5 ≤ t.un.1) && (decide ((t.un.2.2.2.length : Int) < 2) || decide (8 < (t.un.2.2.2.length : Int))))) else (decide (5 ≤ t.un.1) && (decide ((t.un.2.2.2.length : Int) < 2) || decide (8 < (t.un.2.2.2.length : Int)))))) else (bif decide (t.un.1 = 4) then (decide ((t.un.2.2.2.length : Int) ≠ 1) || (decide (5 ≤ t.un.1) && (decide ((t.un.2.2.2.length : Int) < 2) || decide (8 < (t.un.2.2.2.length : Int))))) else (decide (5 ≤ t.un.1) && (decide ((t.un.2.2.2.length : Int) < 2) || decide (8 < (t.un.2.2.2.length : Int)))))) = true
    · rw [if_pos g3, no (fun hf => by
        unfold LX at hf
        by_cases c : t.un.1 ≤ 3
        · rw [show decide (t.un.1 ≤ 3) = true from decide_eq_true c, show decide (t.un.1 = 4) = false from decide_eq_false (by omega)] at g3
          simp only [cond_true, cond_false, Bool.or_eq_true, Bool.and_eq_true, decide_eq_true_eq] at g3
          omega
        · by_cases c4 : t.un.1 = 4
          · rw [show decide (t.un.1 ≤ 3) = false from decide_eq_false c, show decide (t.un.1 = 4) = true from decide_eq_true c4] at g3
            simp only [cond_true, cond_false, Bool.or_eq_true, Bool.and_eq_true, decide_eq_true_eq] at g3
            omega
          · rw [show decide (t.un.1 ≤ 3) = false from decide_eq_false c, show decide (t.un.1 = 4) = false from decide_eq_false c4] at g3
            simp only [cond_true, cond_false, Bool.or_eq_true, Bool.and_eq_true, decide_eq_true_eq] at g3
            omega)]
    rw [if_neg g3]
    have hfl : LX t.un.1 t.un.2.1 t.un.2.2.1 t.un.2.2.2.length := by
      simp only [Bool.and_eq_true, Bool.or_eq_true, decide_eq_true_eq, not_and, not_or] at g2
      by_cases c3 : t.un.1 = 3
      · rw [show decide (t.un.1 ≤ 3) = true from decide_eq_true (by omega), show decide (t.un.1 = 4) = false from decide_eq_false (by omega)] at g3
        simp only [cond_true, cond_false, Bool.or_eq_true, Bool.and_eq_true, decide_eq_true_eq] at g3
        have := g2 c3
        unfold LX; omega
      · by_cases cl : t.un.1 ≤ 3
        · have c4 : ¬ t.un.1 = 4 := by omega
          simp [c3, cl, c4] at g1 g3
          unfold LX
          have : t.un.2.2.2.length = 0 := by
            rw [List.length_eq_zero_iff]
            exact g3.1
          omega
        · by_cases c4 : t.un.1 = 4
          · simp [c3, cl, c4] at g1 g3
            unfold LX; omega
          · simp [c3, cl, c4] at g1 g3
            unfold LX; omega
    have hl : t.un.2.2.2.length ≤ 8 := by unfold LX at hfl; omega
    have hx : ∀ x ∈ t.un.2.2.2, Eo n x = some (Jk (mi x)) := fun x hm => Rb n x (by have := UB hm; omega)
    rw [Sg t.un.2.2.2.length (Fy (Eo n) t) (fun k => ∃ e, t.un.2.2.2[k]? = some e ∧ Jk (mi e) = false) false (fun k hk => by
      rw [Fy, if_pos (by omega), DY (List.getElem?_eq_getElem hk), Option.bind_some, hx _ (List.getElem_mem hk), Option.bind_some, AK (by omega)]
      cases hq : Jk (mi t.un.2.2.2[k]) with
      | true => rw [if_neg (by decide), if_neg (fun hh => by rw [SI hk, hq] at hh; cases hh)]; rfl
      | false => rw [if_pos (by decide), if_pos ((SI hk).2 hq)]) (by rw [Fy, if_neg (by omega)])]
    by_cases e : ∃ k, k < t.un.2.2.2.length ∧ ∃ e, t.un.2.2.2[k]? = some e ∧ Jk (mi e) = false
    · rw [if_pos e]
      obtain ⟨x, hxm, hxf⟩ := TX.1 e
      have : Jk (mi t) = false := by
        cases hh : Jk (mi t) with
        | false => rfl
        | true => rw [((R7 t).1 hh).2 x hxm] at hxf; cases hxf
      rw [this]; rfl
    · rw [if_neg e]
      have : Jk (mi t) = true := (R7 t).2 ⟨hfl, fun x hxm => by
        cases hh : Jk (mi x) with
        | true => rfl
        | false => exact absurd (TX.2 ⟨x, hxm, hh⟩) e⟩
      rw [this]; rfl
theorem Q1 : ∀ (n : Nat) (t : Tr24), SizeOf.sizeOf t < n → SmC (mi t) → ∃ s, Es n t = some s
  | 0, t, h, _ => absurd h (Nat.not_lt_zero _)
  | n + 1, t, h, hc => by
    have hl := hc.mi_len
    show ∃ s, Fm (Es n) t = some s
    obtain ⟨o, ho⟩ := N7 t.un.2.2.2.length (fun (o : Int) (i : Nat) => (o, (i : Int))) (DL (Es n) t) (fun o i hi => by
      have hm := List.getElem_mem hi
      obtain ⟨x, hx⟩ := Q1 n t.un.2.2.2[i] (by have := UB hm; omega) (hc.mi_ch hm)
      exact ⟨_, by rw [DL, if_pos (by omega), DY (List.getElem?_eq_getElem hi), Option.bind_some, hx, Option.bind_some, AK (x := (i : Int) + 1) (by omega)]; rfl⟩) (fun o => ⟨o, by rw [DL, if_neg (by omega)]⟩) 1
    unfold Fm
    exact ⟨o, by rw [show Ba (DL (Es n) t) (1, 0) = some o from ho]; rfl⟩
theorem TL {t : Tr24} (hc : SmC (mi t)) : ∃ s, KK t = some s := by
  obtain ⟨s, h⟩ := Q1 (SizeOf.sizeOf t + 1) t (by omega) hc
  exact ⟨s, Dv (g := fun n => Es n t) (fun n r h => LA n t r h) h⟩
theorem Re : ∀ (n : Nat) (t : Tr24), SizeOf.sizeOf t < n → SmC (mi t) → ∃ s, En n t = some s
  | 0, t, h, _ => absurd h (Nat.not_lt_zero _)
  | n + 1, t, h, hc => by
    have hl := hc.mi_len
    show ∃ s, FB (En n) t = some s
    obtain ⟨o, ho⟩ := N7 t.un.2.2.2.length (fun (o : Int) (i : Nat) => (o, (i : Int))) (DN (En n) t) (fun o i hi => by
      have hm := List.getElem_mem hi
      obtain ⟨x, hx⟩ := Re n t.un.2.2.2[i] (by have := UB hm; omega) (hc.mi_ch hm)
      rw [DN, if_pos (by omega), DY (List.getElem?_eq_getElem hi), Option.bind_some, hx, Option.bind_some]
      by_cases q : o < AU (x + 1)
      · rw [if_pos q, Option.bind_some, hx, Option.bind_some, Option.bind_some, AK (x := (i : Int) + 1) (by omega)]; exact ⟨_, rfl⟩
      · rw [if_neg q, Option.bind_some, AK (x := (i : Int) + 1) (by omega)]; exact ⟨_, rfl⟩) (fun o => ⟨o, by rw [DN, if_neg (by omega)]⟩) 1
    unfold FB
    exact ⟨o, by rw [show Ba (DN (En n) t) (1, 0) = some o from ho]; rfl⟩
theorem VR {t : Tr24} (hc : SmC (mi t)) : ∃ s, OJ t = some s := by
  obtain ⟨s, h⟩ := Re (SizeOf.sizeOf t + 1) t (by omega) hc
  exact ⟨s, Dv (g := fun n => En n t) (fun n r h => Ll n t r h) h⟩
theorem SN (t : Tr24) : ∃ b, HQ t = some b ∧ (b = true → SmC (mi t)) := by
  unfold HQ
  rw [show Pj t = some (Jk (mi t)) from Dv (g := fun n => Eo n t) (fun n r h => LF n t r h) (Rb (SizeOf.sizeOf t + 1) t (by omega)), Option.bind_some]
  by_cases hf : Jk (mi t) = true
  case neg => exact ⟨false, by rw [if_neg hf]; rfl, fun h => nomatch h⟩
  case pos =>
    have hs := XJ hf
    obtain ⟨s, e1⟩ := TL hs
    obtain ⟨d, e2⟩ := VR hs
    rw [if_pos hf, e1, Option.bind_some, e2]
    by_cases c : s ≤ 64
    · rw [if_pos c]; exact ⟨_, rfl, fun _ => hs⟩
    · rw [if_neg c]; exact ⟨_, rfl, fun _ => hs⟩
abbrev ZD : Tr24 := Tr24.of (0, 0, 0, ([] : List Tr24))
theorem V3 (t : Tr24) : ∃ b, KG t ZD = some b ∧ (b = true → SmC (mi t)) := by
  have key : ∃ b, FM 1 t ZD = some b ∧ (b = true → SmC (mi t)) := by
    show ∃ b, Fq (FM 0) t ZD = some b ∧ (b = true → SmC (mi t))
    unfold Fq
    by_cases c : (decide (t.un.1 ≠ ZD.un.1) || (decide (t.un.2.1 ≠ ZD.un.2.1) || (decide (t.un.2.2.1 ≠ ZD.un.2.2.1) || decide ((t.un.2.2.2.length : Int) ≠ (ZD.un.2.2.2.length : Int))))) = true
    · rw [if_pos c]; exact ⟨false, rfl, fun h => nomatch h⟩
    · have h0 : t.un.2.2.2.length = 0 := by
        simp only [Bool.or_eq_true, decide_eq_true_eq, not_or, Classical.not_not] at c
        have h4 := c.2.2.2
        have : ZD.un.2.2.2.length = 0 := rfl
        omega
      rw [if_neg c, Bg (e := .inl ()) (by rw [Ho, if_neg (by omega)])]
      refine ⟨true, rfl, fun _ => .mk _ (by rw [QZ]; show (t.un.2.2.2.map mi).length ≤ 8; rw [List.length_map]; omega) fun x hx => ?_⟩
      rw [QZ, List.eq_nil_of_length_eq_zero h0] at hx
      cases hx
  obtain ⟨b, h1, h2⟩ := key
  exact ⟨b, Dv (g := fun n => FM n t ZD) (fun n r h => Lx n t ZD r h) h1, h2⟩
inductive Fi : Tr37 → Prop
  | mk (t : Tr37) : (1 ≤ t.un.1 ∧ t.un.1 ≤ 5) → (t.un.1 = 2 → (0 ≤ t.un.2.2.1 ∧ t.un.2.2.1 ≤ 4) ∧ 0 ≤ t.un.2.2.2.1 ∧ t.un.2.2.2.1 ≤ EY t.un.2.2.1) → (t.un.1 = 5 → t.un.2.2.2.2.length = 2) → t.un.2.2.2.2.length ≤ 8 → SmC t.un.2.1 → (∀ x ∈ t.un.2.2.2.2, Fi x) → Fi t
section
variable {t : Tr37} {d : Tr27}
theorem Fi.kind (h : Fi t) : 1 ≤ t.un.1 ∧ t.un.1 ≤ 5 := by cases h; assumption
theorem Fi.set (h : Fi t) : t.un.1 = 2 → (0 ≤ t.un.2.2.1 ∧ t.un.2.2.1 ≤ 4) ∧ 0 ≤ t.un.2.2.2.1 ∧ t.un.2.2.2.1 ≤ EY t.un.2.2.1 := by cases h; assumption
theorem Fi.two (h : Fi t) : t.un.1 = 5 → t.un.2.2.2.2.length = 2 := by cases h; assumption
theorem Fi.len (h : Fi t) : t.un.2.2.2.2.length ≤ 8 := by cases h; assumption
theorem Fi.q (h : Fi t) : SmC t.un.2.1 := by cases h; assumption
theorem Fi.ch (h : Fi t) {x : Tr37} (hx : x ∈ t.un.2.2.2.2) : Fi x := by cases h with | mk _ _ _ _ _ _ h => exact h x hx
theorem Fi.pm_len (h : Fi (pm d)) : d.un.2.2.2.2.length ≤ 8 := by
  have := h.len
  rw [Lv] at this
  simpa using this
theorem Fi.pm_q (h : Fi (pm d)) : SmC (mi d.un.2.1) := by
  have := h.q
  rwa [Lv] at this
theorem Fi.pm_ch (h : Fi (pm d)) {x : Tr27} (hx : x ∈ d.un.2.2.2.2) : Fi (pm x) := h.ch (by rw [Lv]; exact List.mem_map.2 ⟨x, hx, rfl⟩)
end
theorem RG : ∀ (n : Nat) (t : Tr27), SizeOf.sizeOf t < n → Fi (pm t) → EZ n t = some (pm t)
  | 0, t, h, _ => absurd h (Nat.not_lt_zero _)
  | n + 1, t, h, hc => by
    have hl := hc.pm_len
    show Fu (EZ n) t = _
    unfold Fu
    rw [Sw, Vp hc.pm_q, Option.bind_some, loop_copy' t.un.2.2.2.2 (by omega) pm (Ee (EZ n) t) (fun k hk out ho => by
      have hm := List.getElem_mem hk
      rw [Ee, if_pos (by omega), DY (List.getElem?_eq_getElem hk), Option.bind_some, Sw, TT, RG n _ (by have := Xc hm; omega) (hc.pm_ch hm), Option.bind_some, So, T0]) (fun out => by rw [Ee, if_neg (by omega)]), Option.bind_some, Vb]
theorem Sa {t : Tr27} (hc : Fi (pm t)) : H4 t = some (pm t) := Dv (g := fun n => EZ n t) (fun n r h => Lw n t r h) (RG (SizeOf.sizeOf t + 1) t (by omega) hc)
theorem Oi : ∀ (n : Nat) (t : Tr37), SizeOf.sizeOf t < n → Fi t → DI n t = some (pt t)
  | 0, t, h, _ => absurd h (Nat.not_lt_zero _)
  | n + 1, t, h, hc => by
    have hl := hc.len
    show Ef (DI n) t = _
    unfold Ef
    rw [So, UZ hc.q, Option.bind_some, loop_copy' t.un.2.2.2.2 (by omega) pt (Do (DI n) t) (fun k hk out ho => by
      have hm := List.getElem_mem hk
      rw [Do, if_pos (by omega), DY (List.getElem?_eq_getElem hk), Option.bind_some, So, T0, Oi n _ (by have := Xt hm; omega) (hc.ch hm), Option.bind_some, Sw, TT]) (fun out => by rw [Do, if_neg (by omega)]), Option.bind_some, WL]
theorem Ri {t : Tr37} (hc : Fi t) : J2 t = some (pt t) := Dv (g := fun n => DI n t) (fun n r h => J7 n t r h) (Oi (SizeOf.sizeOf t + 1) t (by omega) hc)
theorem QQ : ∀ (n : Nat) (t : Tr27), SizeOf.sizeOf t < n → Fi (pm t) → D0 n t = some (wd (pm t))
  | 0, t, h, _ => absurd h (Nat.not_lt_zero _)
  | n + 1, t, h, hc => by
    have hl := hc.pm_len
    have hx : ∀ x ∈ t.un.2.2.2.2, D0 n x = some (wd (pm x)) := fun x hm => QQ n x (by have := Xc hm; omega) (hc.pm_ch hm)
    have bd : ∀ i, ∀ w ∈ ((t.un.2.2.2.2.take i).map fun x => wd (pm x)), 0 ≤ w ∧ w ≤ 1000 := fun i w hw => by
      obtain ⟨x, _, rfl⟩ := List.mem_map.1 hw
      exact Yg (pm x)
    show Fs (D0 n) t = _
    rw [WQ]
    unfold Fs
    by_cases c : 3 ≤ t.un.1 ∧ t.un.1 ≤ 5
    case neg => rw [if_pos (by simp only [Bool.or_eq_true, decide_eq_true_eq]; omega), if_neg c]
    case pos =>
      have e0 : (if t.un.1 = 3 then some 1 else some 0 : Option Int) = some (w0 t.un.1) := by unfold w0; split <;> rfl
      rw [if_neg (by simp only [Bool.or_eq_true, decide_eq_true_eq]; omega), if_pos c, e0, Option.bind_some]
      obtain ⟨o, h1, h2⟩ := Kg t.un.2.2.2.2.length (fun (o : Int) (i : Nat) => (o, (i : Int))) (DP (D0 n) t) id (fun o i => o = ((t.un.2.2.2.2.take i).map fun x => wd (pm x)).foldl (wf t.un.1) (w0 t.un.1))
        (fun o i hi ho => by
          have hb := Qd (k := t.un.1) _ (w0 t.un.1) (U9 _) (bd i)
          rw [← ho] at hb
          have hw := Yg (pm t.un.2.2.2.2[i])
          have hm := Wj hb hw
          refine ⟨_, ?_, rfl⟩
          rw [DP, if_pos (by omega), DY (List.getElem?_eq_getElem hi), Option.bind_some, Sw, TT, hx _ (List.getElem_mem hi), Option.bind_some, AK (by omega), AK (by omega), List.take_succ_eq_append_getElem hi, List.map_append, List.map_cons, List.map_nil, SS, ← ho, Tm]
          unfold wf
          by_cases c3 : t.un.1 = 3
          · rw [if_pos c3, if_pos c3, Option.bind_some, if_neg (by omega), Option.bind_some, decide_eq_false (show ¬ t.un.1 = 5 by omega), if_neg (by simp)]; rfl
          rw [if_neg c3, if_neg c3, Option.bind_some, AK (by omega)]
          by_cases c4 : t.un.1 = 4
          · rw [if_pos c4, if_pos c4, Option.bind_some, Tm, decide_eq_false (show ¬ t.un.1 = 5 by omega), if_neg (by simp)]; rfl
          rw [if_neg c4, if_neg c4, Option.bind_some, decide_eq_true (show t.un.1 = 5 by omega)]
          by_cases cw : o < wd (pm t.un.2.2.2.2[i])
          · rw [decide_eq_true cw, if_pos (by rfl), show max o (wd (pm t.un.2.2.2.2[i])) = wd (pm t.un.2.2.2.2[i]) by omega]; rfl
          · rw [decide_eq_false cw, if_neg (by decide), show max o (wd (pm t.un.2.2.2.2[i])) = o by omega]; rfl)
        (fun o _ => by rw [DP, if_neg (by omega)]; rfl) (w0 t.un.1) rfl
      rw [List.take_length] at h1
      have h2' : Ba (DP (D0 n) t) (w0 t.un.1, 0) = some o := h2
      rw [h2', h1]; rfl
theorem Wf {t : Tr27} (hc : Fi (pm t)) : O2 t = some (wd (pm t)) := Dv (g := fun n => D0 n t) (fun n r h => LB n t r h) (QQ (SizeOf.sizeOf t + 1) t (by omega) hc)
theorem O9 : ∀ (n : Nat) (t : Tr27), SizeOf.sizeOf t < n → Fi (pm t) → ∃ s, Ey n t = some s
  | 0, t, h, _ => absurd h (Nat.not_lt_zero _)
  | n + 1, t, h, hc => by
    have hl := hc.pm_len
    obtain ⟨q, hq⟩ := TL hc.pm_q
    show ∃ s, Fv (Ey n) t = some s
    unfold Fv
    have e1 : ∃ y, (if (decide (t.un.1 < 2) || decide (4 < t.un.1)) = true then (KK (Tr24.of (t.un.2.1.un.1, t.un.2.1.un.2.1, t.un.2.1.un.2.2.1, t.un.2.1.un.2.2.2))).bind fun x2 => some (AU (1 + x2)) else some 1) = some y := by
      rw [Sw, hq]
      by_cases c : (decide (t.un.1 < 2) || decide (4 < t.un.1)) = true
      · rw [if_pos c]; exact ⟨_, rfl⟩
      · rw [if_neg c]; exact ⟨_, rfl⟩
    obtain ⟨y, hy⟩ := e1
    rw [hy, Option.bind_some]
    obtain ⟨o, ho⟩ := N7 t.un.2.2.2.2.length (fun (o : Int) (i : Nat) => (o, (i : Int))) (DS (Ey n) t) (fun o i hi => by
      have hm := List.getElem_mem hi
      obtain ⟨x, hx⟩ := O9 n t.un.2.2.2.2[i] (by have := Xc hm; omega) (hc.pm_ch hm)
      exact ⟨_, by rw [DS, if_pos (by omega), DY (List.getElem?_eq_getElem hi), Option.bind_some, Sw, TT, hx, Option.bind_some, AK (x := (i : Int) + 1) (by omega)]; rfl⟩) (fun o => ⟨o, by rw [DS, if_neg (by omega)]⟩) y
    exact ⟨o, by rw [show Ba (DS (Ey n) t) (y, 0) = some o from ho]; rfl⟩
theorem TS {t : Tr27} (hc : Fi (pm t)) : ∃ s, Ox t = some s := by
  obtain ⟨s, h⟩ := O9 (SizeOf.sizeOf t + 1) t (by omega) hc
  exact ⟨s, Dv (g := fun n => Ey n t) (fun n r h => Lm n t r h) h⟩
theorem Pe : ∀ (n : Nat) (t : Tr27), SizeOf.sizeOf t < n → Fi (pm t) → ∃ s, Em n t = some s
  | 0, t, h, _ => absurd h (Nat.not_lt_zero _)
  | n + 1, t, h, hc => by
    have hl := hc.pm_len
    show ∃ s, Fk (Em n) t = some s
    obtain ⟨o, ho⟩ := N7 t.un.2.2.2.2.length (fun (o : Int) (i : Nat) => (o, (i : Int))) (DO (Em n) t) (fun o i hi => by
      have hm := List.getElem_mem hi
      obtain ⟨x, hx⟩ := Pe n t.un.2.2.2.2[i] (by have := Xc hm; omega) (hc.pm_ch hm)
      rw [DO, if_pos (by omega), DY (List.getElem?_eq_getElem hi), Option.bind_some, Sw, TT, hx, Option.bind_some, Option.bind_some]
      by_cases q : o ≤ x
      · rw [if_pos q, Sw, TT, hx, Option.bind_some, Option.bind_some, AK (x := (i : Int) + 1) (by omega)]; exact ⟨_, rfl⟩
      · rw [if_neg q, Option.bind_some, AK (x := (i : Int) + 1) (by omega)]; exact ⟨_, rfl⟩) (fun o => ⟨o, by rw [DO, if_neg (by omega)]⟩) 1
    unfold Fk
    exact ⟨o, by rw [show Ba (DO (Em n) t) (1, 0) = some o from ho]; rfl⟩
theorem Tv {t : Tr27} (hc : Fi (pm t)) : ∃ s, Pg t = some s := by
  obtain ⟨s, h⟩ := Pe (SizeOf.sizeOf t + 1) t (by omega) hc
  exact ⟨s, Dv (g := fun n => Em n t) (fun n r h => Lt n t r h) h⟩
theorem Ou : ∀ (n : Nat) (t : Tr27), SizeOf.sizeOf t < n → ∃ b, El n t = some b ∧ (b = true → Fi (pm t))
  | 0, t, h => absurd h (Nat.not_lt_zero _)
  | n + 1, t, h => by
    have no : ∃ b, some false = some b ∧ (b = true → Fi (pm t)) := ⟨false, rfl, fun h => nomatch h⟩
    show ∃ b, Fo (El n) t = some b ∧ (b = true → Fi (pm t))
    unfold Fo
    by_cases g1 : (decide (t.un.1 < 1) || (decide (5 < t.un.1) || (decide (t.un.1 ≠ 2) && (decide (t.un.2.2.1 ≠ 0) || decide (t.un.2.2.2.1 ≠ 0))))) = true
    · rw [if_pos g1]; exact no
    rw [if_neg g1]
    simp only [Bool.and_eq_true, Bool.or_eq_true, decide_eq_true_eq, not_or, not_and] at g1
    have hask : ∃ x : Bool, (if (decide (t.un.1 = 1) || decide (t.un.1 = 5)) = true then (HQ (Tr24.of (t.un.2.1.un.1, t.un.2.1.un.2.1, t.un.2.1.un.2.2.1, t.un.2.1.un.2.2.2))).bind fun x2 => (if (!x2) = true then some true else some false) else (KG (Tr24.of (t.un.2.1.un.1, t.un.2.1.un.2.1, t.un.2.1.un.2.2.1, t.un.2.1.un.2.2.2)) (Tr24.of (0, 0, 0, ([] : List Tr24)))).bind fun x3 => some (!x3)) = some x ∧ (x = false → SmC (mi t.un.2.1)) := by
      rw [Sw]
      obtain ⟨b, e1, e2⟩ := SN t.un.2.1
      obtain ⟨b2, e3, e4⟩ := V3 t.un.2.1
      rw [e1, show KG t.un.2.1 (Tr24.of (0, 0, 0, ([] : List Tr24))) = some b2 from e3]
      by_cases hk : (decide (t.un.1 = 1) || decide (t.un.1 = 5)) = true
      · rw [if_pos hk, Option.bind_some]
        cases b with
        | true => exact ⟨false, rfl, fun _ => e2 rfl⟩
        | false => exact ⟨true, rfl, fun h => nomatch h⟩
      · rw [if_neg hk, Option.bind_some]
        cases b2 with
        | true => exact ⟨false, rfl, fun _ => e4 rfl⟩
        | false => exact ⟨true, rfl, fun h => nomatch h⟩
    obtain ⟨x, hx1, hx2⟩ := hask
    rw [hx1, Option.bind_some]
    cases x with
    | true => rw [if_pos rfl]; exact no
    | false =>
      have hq := hx2 rfl
      rw [if_neg (by decide)]
      by_cases g2 : (decide (t.un.1 = 2) && (decide (t.un.2.2.1 < 0) || (decide (4 < t.un.2.2.1) || (decide (t.un.2.2.2.1 < 0) || decide ((EY t.un.2.2.1) < t.un.2.2.2.1))))) = true
      · rw [if_pos g2]; exact no
      rw [if_neg g2]
      simp only [Bool.and_eq_true, Bool.or_eq_true, decide_eq_true_eq, not_or, not_and] at g2
      have hlen : ∃ y : Bool, (bif decide (t.un.1 ≤ 2) then (decide ((t.un.2.2.2.2.length : Int) ≠ 0) || (bif decide (t.un.1 = 5) then (decide ((t.un.2.2.2.2.length : Int) ≠ 2) || (bif decide (t.un.1 = 3) then (decide ((t.un.2.2.2.2.length : Int) < 2) || decide (8 < (t.un.2.2.2.2.length : Int))) else (decide (t.un.1 = 4) && (decide ((t.un.2.2.2.2.length : Int) < 2) || decide (8 < (t.un.2.2.2.2.length : Int)))))) else (bif decide (t.un.1 = 3) then (decide ((t.un.2.2.2.2.length : Int) < 2) || decide (8 < (t.un.2.2.2.2.length : Int))) else (decide (t.un.1 = 4) && (decide ((t.un.2.2.2.2.length : Int) < 2) || decide (8 < (t.un.2.2.2.2.length : Int))))))) else (bif decide (t.un.1 = 5) then (decide ((t.un.2.2.2.2.length : Int) ≠ 2) || (bif decide (t.un.1 = 3) then (decide ((t.un.2.2.2.2.length : Int) < 2) || decide (8 < (t.un.2.2.2.2.length : Int))) else (decide (t.un.1 = 4) && (decide ((t.un.2.2.2.2.length : Int) < 2) || decide (8 < (t.un.2.2.2.2.length : Int)))))) else (bif decide (t.un.1 = 3) then (decide ((t.un.2.2.2.2.length : Int) < 2) || decide (8 < (t.un.2.2.2.2.length : Int))) else (decide (t.un.1 = 4) && (decide ((t.un.2.2.2.2.length : Int) < 2) || decide (8 < (t.un.2.2.2.2.length : Int))))))) = y ∧ (y = false → t.un.2.2.2.2.length ≤ 8 ∧ (t.un.1 = 5 → t.un.2.2.2.2.length = 2)) := by
        refine ⟨_, rfl, ?_⟩
        have hk : t.un.1 = 1 ∨ t.un.1 = 2 ∨ t.un.1 = 3 ∨ t.un.1 = 4 ∨ t.un.1 = 5 := by omega
        rcases hk with h | h | h | h | h <;> rw [h] <;> intro hy <;> simp at hy
        all_goals first | exact ⟨by rw [hy]; exact Nat.zero_le 8, fun h5 => by omega⟩ | exact ⟨by omega, fun h5 => by omega⟩
      obtain ⟨y, hy1, hy2⟩ := hlen
      rw [hy1]
      cases y with
      | true => rw [if_pos rfl]; exact no
      | false =>
        obtain ⟨hl, h5⟩ := hy2 rfl
        rw [if_neg (by decide)]
        have ih : ∀ x ∈ t.un.2.2.2.2, ∃ b, El n x = some b ∧ (b = true → Fi (pm x)) := fun x hm => Ou n x (by have := Xc hm; omega)
        have key : ∀ (d k : Nat), k + d = t.un.2.2.2.2.length → (∀ x ∈ t.un.2.2.2.2.take k, Fi (pm x)) → ∃ b, Ku (Ba (ER (El n) t) (k : Int)) (fun _ => some true) = some b ∧ (b = true → ∀ x ∈ t.un.2.2.2.2, Fi (pm x)) := by
          intro d
          induction d with
          | zero =>
            intro k hk hx
            refine ⟨true, by rw [Bg (e := .inl ()) (by rw [ER, if_neg (by omega)])]; rfl, fun _ => ?_⟩
            rwa [List.take_of_length_le (by omega)] at hx
          | succ d ihd =>
            intro k hk hx
            have hkl : k < t.un.2.2.2.2.length := by omega
            obtain ⟨b, b1, b2⟩ := ih _ (List.getElem_mem hkl)
            cases b with
            | false =>
              refine ⟨false, ?_, fun h => nomatch h⟩
              rw [Bg (e := .inr false) (by rw [ER, if_pos (by omega), DY (List.getElem?_eq_getElem hkl), Option.bind_some, Sw, TT, b1, Option.bind_some, if_pos (by decide)])]; rfl
            | true =>
              rw [Ce (s' := ((k + 1 : Nat) : Int)) (by rw [ER, if_pos (by omega), DY (List.getElem?_eq_getElem hkl), Option.bind_some, Sw, TT, b1, Option.bind_some, if_neg (by decide), AK (by omega)]; rfl)]
              refine ihd (k + 1) (by omega) fun x hm => ?_
              rw [List.take_succ_eq_append_getElem hkl] at hm
              rcases List.mem_append.1 hm with hm | hm
              · exact hx x hm
              · rw [List.mem_singleton.1 hm]; exact b2 rfl
        obtain ⟨b, b1, b2⟩ := key t.un.2.2.2.2.length 0 (by omega) (by simp)
        refine ⟨b, b1, fun hb => ?_⟩
        have hall := b2 hb
        refine .mk _ ?_ ?_ ?_ ?_ ?_ ?_
        · rw [Lv]; exact ⟨by show 1 ≤ t.un.1; omega, by show t.un.1 ≤ 5; omega⟩
        · rw [Lv]
          intro h2
          have h2' : t.un.1 = 2 := h2
          have := g2 h2'
          show (0 ≤ t.un.2.2.1 ∧ t.un.2.2.1 ≤ 4) ∧ 0 ≤ t.un.2.2.2.1 ∧ t.un.2.2.2.1 ≤ EY t.un.2.2.1
          omega
        · rw [Lv]
          intro h2
          show (t.un.2.2.2.2.map pm).length = 2
          rw [List.length_map]; exact h5 h2
        · rw [Lv]
          show (t.un.2.2.2.2.map pm).length ≤ 8
          rw [List.length_map]; exact hl
        · rw [Lv]; exact hq
        · rw [Lv]
          intro x hx
          obtain ⟨y, hy, rfl⟩ := List.mem_map.1 hx
          exact hall y hy
theorem JM (t : Tr27) : ∃ b, GH t = some b ∧ (b = true → Fi (pm t) ∧ wd (pm t) ≤ 64) := by
  obtain ⟨b, h1, h2⟩ := Ou (SizeOf.sizeOf t + 1) t (by omega)
  unfold GH
  rw [Sw, TT, show Ob t = some b from Dv (g := fun n => El n t) (fun n r h => Ls n t r h) h1, Option.bind_some]
  cases b with
  | false => exact ⟨false, by rw [if_neg (by decide)]; rfl, fun h => nomatch h⟩
  | true =>
    have hf := h2 rfl
    obtain ⟨s, e1⟩ := TS hf
    obtain ⟨d, e2⟩ := Tv hf
    rw [if_pos rfl, e2, Option.bind_some, e1, Option.bind_some, Wf hf]
    by_cases c : d ≤ 8
    · rw [if_pos c]
      by_cases c2 : s ≤ 64
      · rw [if_pos c2]
        exact ⟨_, rfl, fun h => ⟨hf, of_decide_eq_true h⟩⟩
      · rw [if_neg c2]; exact ⟨false, rfl, fun h => nomatch h⟩
    · rw [if_neg c]; exact ⟨false, rfl, fun h => nomatch h⟩
end Go.Proofs.YtpckgggmgijiiaaGreatDoor
