/- Layer 27: trees of any size. Conditions: none. -/
import Derived.Test.YtpckgggmgijiiaaGreatDoorbN27P
namespace Go.Proofs.YtpckgggmgijiiaaGreatDoor
set_option linter.unusedVariables false
set_option linter.unusedSimpArgs false
open Go Go.RowKit
theorem Nc {σ τ ε : Type} (n : Nat) (mkS : σ → Nat → τ) (step : τ → Option (τ ⊕ ε)) (hs : ∀ s k, k < n → ∃ s', step (mkS s k) = some (.inl (mkS s' (k + 1)))) (he : ∀ s, ∃ e, step (mkS s n) = some (.inr e)) (s : σ) : ∃ e, AW step (mkS s 0) = some e := by
  obtain ⟨s', _, h⟩ := I0 n mkS step (fun s => Classical.choose (he s)) (fun _ _ => True) (fun s k hk _ => by obtain ⟨s', h⟩ := hs s k hk; exact ⟨s', h, trivial⟩) (fun s _ => Classical.choose_spec (he s)) s trivial
  exact ⟨_, h⟩
inductive SmC : Tr34 → Prop
  | mk (t : Tr34) : t.un.2.2.2.length ≤ 8 → (∀ x ∈ t.un.2.2.2, SmC x) → SmC t
theorem SmC.len {t : Tr34} (h : SmC t) : t.un.2.2.2.length ≤ 8 := by cases h; assumption
theorem SmC.ch {t : Tr34} (h : SmC t) {x : Tr34} (hx : x ∈ t.un.2.2.2) : SmC x := by cases h with | mk _ _ h => exact h x hx
theorem SmC.mi_len {t : Tr24} (h : SmC (mi t)) : t.un.2.2.2.length ≤ 8 := by
  have := h.len
  rw [Qm] at this
  simpa using this
theorem SmC.mi_ch {t : Tr24} (h : SmC (mi t)) {x : Tr24} (hx : x ∈ t.un.2.2.2) : SmC (mi x) := h.ch (by rw [Qm]; exact List.mem_map.2 ⟨x, hx, rfl⟩)
theorem SV : ∀ (n : Nat) (t : Tr34), SizeOf.sizeOf t < n → Ij t = true → SmC t
  | 0, t, h, _ => absurd h (Nat.not_lt_zero _)
  | n + 1, t, h, hf => by
    obtain ⟨h1, h2⟩ := (QU t).1 hf
    exact .mk t (by unfold KZ at h1; omega) fun x hx => SV n x (by have := TP hx; omega) (h2 x hx)
theorem XC {t : Tr34} (h : Ij t = true) : SmC t := SV (SizeOf.sizeOf t + 1) t (by omega) h
theorem RW : ∀ (n : Nat) (t : Tr24), SizeOf.sizeOf t < n → SmC (mi t) → D1 n t = some (mi t)
  | 0, t, h, _ => absurd h (Nat.not_lt_zero _)
  | n + 1, t, h, hc => by
    have hl := hc.mi_len
    show EV (D1 n) t = _
    unfold EV
    obtain ⟨o, h1, h2⟩ := I0 t.un.2.2.2.length (fun (o : List Tr34) (i : Nat) => ((i : Int), o)) (DB (D1 n) t) id (fun o i => o = (t.un.2.2.2.take i).map mi)
      (fun o i hi ho => by
        have hm := List.getElem_mem hi
        have hx := RW n t.un.2.2.2[i] (by have := Uh hm; omega) (hc.mi_ch hm)
        refine ⟨o ++ [mi t.un.2.2.2[i]], ?_, by rw [ho, List.take_succ_eq_append_getElem hi, List.map_append]; rfl⟩
        rw [DB, if_pos (by omega), Dv (List.getElem?_eq_getElem hi), Option.bind_some, hx, Option.bind_some, Ni (by rw [ho]; simp; omega), Option.bind_some, AF (by omega)]; rfl)
      (fun o _ => by rw [DB, if_neg (by omega)]; rfl) [] rfl
    rw [List.take_length] at h1
    have h2' : AW (DB (D1 n) t) (0, []) = some o := h2
    rw [h2', h1, Option.bind_some, ← UH]
theorem WB {t : Tr24} (hc : SmC (mi t)) : Nl t = some (mi t) := Dd (g := fun n => D1 n t) (fun n r h => KJ n t r h) (RW (SizeOf.sizeOf t + 1) t (by omega) hc)
theorem Pl : ∀ (n : Nat) (t : Tr34), SizeOf.sizeOf t < n → SmC t → CE n t = some (th t)
  | 0, t, h, _ => absurd h (Nat.not_lt_zero _)
  | n + 1, t, h, hc => by
    have hl := hc.len
    show Dh (CE n) t = _
    unfold Dh
    obtain ⟨o, h1, h2⟩ := I0 t.un.2.2.2.length (fun (o : List Tr24) (i : Nat) => ((i : Int), o)) (Cv (CE n) t) id (fun o i => o = (t.un.2.2.2.take i).map th)
      (fun o i hi ho => by
        have hm := List.getElem_mem hi
        have hx := Pl n t.un.2.2.2[i] (by have := TP hm; omega) (hc.ch hm)
        refine ⟨o ++ [th t.un.2.2.2[i]], ?_, by rw [ho, List.take_succ_eq_append_getElem hi, List.map_append]; rfl⟩
        rw [Cv, if_pos (by omega), Dv (List.getElem?_eq_getElem hi), Option.bind_some, hx, Option.bind_some, Ni (by rw [ho]; simp; omega), Option.bind_some, AF (by omega)]; rfl)
      (fun o _ => by rw [Cv, if_neg (by omega)]; rfl) [] rfl
    rw [List.take_length] at h1
    have h2' : AW (Cv (CE n) t) (0, []) = some o := h2
    rw [h2', h1, Option.bind_some, ← UG]
theorem Ux {t : Tr34} (hc : SmC t) : Jb t = some (th t) := Dd (g := fun n => CE n t) (fun n r h => Hp n t r h) (Pl (SizeOf.sizeOf t + 1) t (by omega) hc)
theorem RN (a : Int × Int × PK) : ∀ (n : Nat) (t : Tr34), SizeOf.sizeOf t < n → SmC t → Bc n a t = some (P9 a t)
  | 0, t, h, _ => absurd h (Nat.not_lt_zero _)
  | n + 1, t, h, hc => by
    have hl := hc.len
    have hx : ∀ x ∈ t.un.2.2.2, Bc n a x = some (P9 a x) := fun x hm => RN a n x (by have := TP hm; omega) (hc.ch hm)
    show BD (Bc n) a t = _
    rw [Rc]
    unfold BD Vz
    by_cases c1 : t.un.1 = 1
    · rw [if_pos c1, if_pos c1]
    rw [if_neg c1, if_neg c1]
    by_cases c3 : t.un.1 = 3
    · rw [if_pos c3, if_pos c3, VJ]
      unfold C7
      rw [← Bool.decide_and]
      by_cases k : 0 ≤ t.un.2.1 ∧ t.un.2.1 ≤ 5
      · rw [if_pos (decide_eq_true k), Option.bind_some, Option.bind_some]
        exact congrArg some (decide_eq_decide.2 ⟨fun h => ⟨k, h⟩, fun h => h.2⟩)
      · rw [if_neg (by simpa using k), Option.bind_some, decide_eq_false (fun h => k h.1)]
    rw [if_neg c3, if_neg c3]
    by_cases c4 : t.un.1 = 4
    · rw [if_pos c4, if_pos c4]
      cases hll : t.un.2.2.2 with
      | nil => rfl
      | cons y l =>
        rw [if_pos (by simp only [List.length_cons]; omega), show ix (y :: l) 0 = some y from Dv (k := 0) rfl, Option.bind_some]
        unfold Ch
        rw [hx y (by rw [hll]; exact List.mem_cons_self ..)]; rfl
    rw [if_neg c4, if_neg c4]
    by_cases c5 : t.un.1 = 5
    · rw [if_pos c5, if_pos c5]
      obtain ⟨i, i1, i2⟩ := RX t.un.2.2.2 (fun x => !P9 a x) (AH (Bc n) t.un.2.2.2 a) (fun k hk => by
        rw [AH, if_pos (by omega), Dv (List.getElem?_eq_getElem hk), Option.bind_some]
        unfold Ch
        rw [hx _ (List.getElem_mem hk), Option.bind_some, Option.bind_some, AF (by omega)]; rfl) (by rw [AH, if_neg (by omega)])
      unfold AV Ba
      rw [i1, Option.bind_some, Option.bind_some, i2, List.all_map]
      congr 1
      rw [List.any_eq_not_all_not]
      simp only [Bool.not_not]
      rfl
    rw [if_neg c5, if_neg c5]
    by_cases c6 : t.un.1 = 6
    · rw [if_pos c6, if_pos c6]
      obtain ⟨i, i1, i2⟩ := RX t.un.2.2.2 (fun x => P9 a x) (AE (Bc n) t.un.2.2.2 a) (fun k hk => by
        rw [AE, if_pos (by omega), Dv (List.getElem?_eq_getElem hk), Option.bind_some, hx _ (List.getElem_mem hk), Option.bind_some, AF (by omega)]; rfl) (by rw [AE, if_neg (by omega)])
      unfold AR AY
      rw [i1, Option.bind_some, Option.bind_some, i2, List.any_map]; rfl
    rw [if_neg c6, if_neg c6]
theorem UY {t : Tr34} (hc : SmC t) (s q : Int) (p : PK) : Gt t s q p = some (P9 (s, q, p) t) := by
  unfold Gt
  rw [show DV (s, q, p) t = some (P9 (s, q, p) t) from Dd (g := fun n => Bc n (s, q, p) t) (fun n r h => DS n (s, q, p) t r h) (RN _ (SizeOf.sizeOf t + 1) t (by omega) hc)]; rfl
theorem QG : ∀ (n : Nat) (t : Tr24), SizeOf.sizeOf t < n → D2 n t = some (Ij (mi t))
  | 0, t, h => absurd h (Nat.not_lt_zero _)
  | n + 1, t, h => by
    have htb := Vp t.un.2.1
    show EW (D2 n) t = _
    unfold EW
    have no : ¬ KZ t.un.1 t.un.2.1 t.un.2.2.1 t.un.2.2.2.length → Ij (mi t) = false := fun hn => by
      cases hh : Ij (mi t) with
      | false => rfl
      | true => exact absurd ((Rk t).1 hh).1 hn
    by_cases g1 : (bif decide (t.un.1 ≠ 3) then (decide (t.un.2.1 ≠ 0) || (decide (t.un.2.2.1 ≠ 0) || (decide (t.un.1 < 1) || decide (6 < t.un.1)))) else (decide (t.un.1 < 1) || decide (6 < t.un.1))) = true
    · rw [if_pos g1, no (fun hf => by
        unfold KZ at hf
        by_cases c : t.un.1 = 3
        · simp [c] at g1
        · rw [show decide (t.un.1 ≠ 3) = true from decide_eq_true c] at g1
          simp only [cond_true, Bool.or_eq_true, decide_eq_true_eq] at g1
          omega)]
    rw [if_neg g1]
    by_cases g2 : (decide (t.un.1 = 3) && (decide (t.un.2.1 < 0) || (decide (5 < t.un.2.1) || (decide (t.un.2.2.1 < 0) || decide ((DQ t.un.2.1) < t.un.2.2.1))))) = true
    · rw [if_pos g2, no (fun hf => by
        unfold KZ at hf
        simp only [Bool.and_eq_true, Bool.or_eq_true, decide_eq_true_eq] at g2
        omega)]
    rw [if_neg g2]
    by_cases g3 : (bif decide (t.un.1 ≤ 3) then (decide ((t.un.2.2.2.length : Int) ≠ 0) || (bif decide (t.un.1 = 4) then (decide ((t.un.2.2.2.length : Int) ≠ 1) || (decide (5 ≤ t.un.1) && (decide ((t.un.2.2.2.length : Int) < 2) || decide (8 < (t.un.2.2.2.length : Int))))) else (decide (5 ≤ t.un.1) && (decide ((t.un.2.2.2.length : Int) < 2) || decide (8 < (t.un.2.2.2.length : Int)))))) else (bif decide (t.un.1 = 4) then (decide ((t.un.2.2.2.length : Int) ≠ 1) || (decide (5 ≤ t.un.1) && (decide ((t.un.2.2.2.length : Int) < 2) || decide (8 < (t.un.2.2.2.length : Int))))) else (decide (5 ≤ t.un.1) && (decide ((t.un.2.2.2.length : Int) < 2) || decide (8 < (t.un.2.2.2.length : Int)))))) = true
    · rw [if_pos g3, no (fun hf => by
        unfold KZ at hf
        by_cases c : t.un.1 ≤ 3
        · rw [show decide (t.un.1 ≤ 3) = true from decide_eq_true c, show decide (t.un.1 = 4) = false from decide_eq_false (by omega)] at g3
          simp only [cond_true, cond_false, Bool.or_eq_true, Bool.and_eq_true, decide_eq_true_eq] at g3
          omega
        · by_cases c4 : t.un.1 = 4
          · rw [show decide (t.un.1 ≤ 3) = false from decide_eq_false c, show decide (t.un.1 = 4) = true from decide_eq_true c4] at g3
            simp only [cond_true, cond_false, Bool.or_eq_true, Bool.and_eq_true, decide_eq_true_eq] at g3
            omega
          · rw [show decide (t.un.1 ≤ 3) = false from decide_eq_false c, show decide (t.un.1 = 4) = false from decide_eq_false c4] at g3
            simp only [cond_true, cond_false, Bool.or_eq_true, Bool.and_eq_true, decide_eq_true_eq] at g3
            omega)]
    rw [if_neg g3]
    have hfl : KZ t.un.1 t.un.2.1 t.un.2.2.1 t.un.2.2.2.length := by
      simp only [Bool.and_eq_true, Bool.or_eq_true, decide_eq_true_eq, not_and, not_or] at g2
      by_cases c3 : t.un.1 = 3
      · rw [show decide (t.un.1 ≤ 3) = true from decide_eq_true (by omega), show decide (t.un.1 = 4) = false from decide_eq_false (by omega)] at g3
        simp only [cond_true, cond_false, Bool.or_eq_true, Bool.and_eq_true, decide_eq_true_eq] at g3
        have := g2 c3
        unfold KZ; omega
      · by_cases cl : t.un.1 ≤ 3
        · have c4 : ¬ t.un.1 = 4 := by omega
          simp [c3, cl, c4] at g1 g3
          unfold KZ
          have : t.un.2.2.2.length = 0 := by
            rw [List.length_eq_zero_iff]
            exact g3.1
          omega
        · by_cases c4 : t.un.1 = 4
          · simp [c3, cl, c4] at g1 g3
            unfold KZ; omega
          · simp [c3, cl, c4] at g1 g3
            unfold KZ; omega
    have hl : t.un.2.2.2.length ≤ 8 := by unfold KZ at hfl; omega
    have hx : ∀ x ∈ t.un.2.2.2, D2 n x = some (Ij (mi x)) := fun x hm => QG n x (by have := Uh hm; omega)
    rw [RE t.un.2.2.2.length (E0 (D2 n) t) (fun k => ∃ e, t.un.2.2.2[k]? = some e ∧ Ij (mi e) = false) false (fun k hk => by
      rw [E0, if_pos (by omega), Dv (List.getElem?_eq_getElem hk), Option.bind_some, hx _ (List.getElem_mem hk), Option.bind_some, AF (by omega)]
      cases hq : Ij (mi t.un.2.2.2[k]) with
      | true => rw [if_neg (by decide), if_neg (fun hh => by rw [RJ hk, hq] at hh; cases hh)]; rfl
      | false => rw [if_pos (by decide), if_pos ((RJ hk).2 hq)]) (by rw [E0, if_neg (by omega)])]
    by_cases e : ∃ k, k < t.un.2.2.2.length ∧ ∃ e, t.un.2.2.2[k]? = some e ∧ Ij (mi e) = false
    · rw [if_pos e]
      obtain ⟨x, hxm, hxf⟩ := Tl.1 e
      have : Ij (mi t) = false := by
        cases hh : Ij (mi t) with
        | false => rfl
        | true => rw [((Rk t).1 hh).2 x hxm] at hxf; cases hxf
      rw [this]; rfl
    · rw [if_neg e]
      have : Ij (mi t) = true := (Rk t).2 ⟨hfl, fun x hxm => by
        cases hh : Ij (mi x) with
        | true => rfl
        | false => exact absurd (Tl.2 ⟨x, hxm, hh⟩) e⟩
      rw [this]; rfl
theorem Qn : ∀ (n : Nat) (t : Tr24), SizeOf.sizeOf t < n → SmC (mi t) → ∃ s, Ea n t = some s
  | 0, t, h, _ => absurd h (Nat.not_lt_zero _)
  | n + 1, t, h, hc => by
    have hl := hc.mi_len
    show ∃ s, EY (Ea n) t = some s
    obtain ⟨o, ho⟩ := Nc t.un.2.2.2.length (fun (o : Int) (i : Nat) => (o, (i : Int))) (Dz (Ea n) t) (fun o i hi => by
      have hm := List.getElem_mem hi
      obtain ⟨x, hx⟩ := Qn n t.un.2.2.2[i] (by have := Uh hm; omega) (hc.mi_ch hm)
      exact ⟨_, by rw [Dz, if_pos (by omega), Dv (List.getElem?_eq_getElem hi), Option.bind_some, hx, Option.bind_some, AF (x := (i : Int) + 1) (by omega)]; rfl⟩) (fun o => ⟨o, by rw [Dz, if_neg (by omega)]⟩) 1
    unfold EY
    exact ⟨o, by rw [show AW (Dz (Ea n) t) (1, 0) = some o from ho]; rfl⟩
theorem SU {t : Tr24} (hc : SmC (mi t)) : ∃ s, Ke t = some s := by
  obtain ⟨s, h⟩ := Qn (SizeOf.sizeOf t + 1) t (by omega) hc
  exact ⟨s, Dd (g := fun n => Ea n t) (fun n r h => Kz n t r h) h⟩
theorem QV : ∀ (n : Nat) (t : Tr24), SizeOf.sizeOf t < n → SmC (mi t) → ∃ s, D3 n t = some s
  | 0, t, h, _ => absurd h (Nat.not_lt_zero _)
  | n + 1, t, h, hc => by
    have hl := hc.mi_len
    show ∃ s, ER (D3 n) t = some s
    obtain ⟨o, ho⟩ := Nc t.un.2.2.2.length (fun (o : Int) (i : Nat) => (o, (i : Int))) (DA (D3 n) t) (fun o i hi => by
      have hm := List.getElem_mem hi
      obtain ⟨x, hx⟩ := QV n t.un.2.2.2[i] (by have := Uh hm; omega) (hc.mi_ch hm)
      rw [DA, if_pos (by omega), Dv (List.getElem?_eq_getElem hi), Option.bind_some, hx, Option.bind_some]
      by_cases q : o < AO (x + 1)
      · rw [if_pos q, Option.bind_some, hx, Option.bind_some, Option.bind_some, AF (x := (i : Int) + 1) (by omega)]; exact ⟨_, rfl⟩
      · rw [if_neg q, Option.bind_some, AF (x := (i : Int) + 1) (by omega)]; exact ⟨_, rfl⟩) (fun o => ⟨o, by rw [DA, if_neg (by omega)]⟩) 1
    unfold ER
    exact ⟨o, by rw [show AW (DA (D3 n) t) (1, 0) = some o from ho]; rfl⟩
theorem Vh {t : Tr24} (hc : SmC (mi t)) : ∃ s, Ox t = some s := by
  obtain ⟨s, h⟩ := QV (SizeOf.sizeOf t + 1) t (by omega) hc
  exact ⟨s, Dd (g := fun n => D3 n t) (fun n r h => KO n t r h) h⟩
theorem UA (t : Tr24) : ∃ b, Hz t = some b ∧ (b = true → SmC (mi t)) := by
  unfold Hz
  rw [show Nq t = some (Ij (mi t)) from Dd (g := fun n => D2 n t) (fun n r h => KP n t r h) (QG (SizeOf.sizeOf t + 1) t (by omega)), Option.bind_some]
  by_cases hf : Ij (mi t) = true
  case neg => exact ⟨false, by rw [if_neg hf]; rfl, fun h => nomatch h⟩
  case pos =>
    have hs := XC hf
    obtain ⟨s, e1⟩ := SU hs
    obtain ⟨d, e2⟩ := Vh hs
    rw [if_pos hf, e1, Option.bind_some, e2]
    by_cases c : s ≤ 64
    · rw [if_pos c]; exact ⟨_, rfl, fun _ => hs⟩
    · rw [if_neg c]; exact ⟨_, rfl, fun _ => hs⟩
abbrev ZD : Tr24 := Tr24.of (0, 0, 0, ([] : List Tr24))
theorem VP (t : Tr24) : ∃ b, JJ t ZD = some b ∧ (b = true → SmC (mi t)) := by
  have key : ∃ b, E9 1 t ZD = some b ∧ (b = true → SmC (mi t)) := by
    show ∃ b, ES (E9 0) t ZD = some b ∧ (b = true → SmC (mi t))
    unfold ES
    by_cases c : (decide (t.un.1 ≠ ZD.un.1) || (decide (t.un.2.1 ≠ ZD.un.2.1) || (decide (t.un.2.2.1 ≠ ZD.un.2.2.1) || decide ((t.un.2.2.2.length : Int) ≠ (ZD.un.2.2.2.length : Int))))) = true
    · rw [if_pos c]; exact ⟨false, rfl, fun h => nomatch h⟩
    · have h0 : t.un.2.2.2.length = 0 := by
        simp only [Bool.or_eq_true, decide_eq_true_eq, not_or, Classical.not_not] at c
        have h4 := c.2.2.2
        have : ZD.un.2.2.2.length = 0 := rfl
        omega
      rw [if_neg c, A9 (e := .inl ()) (by rw [Gz, if_neg (by omega)])]
      refine ⟨true, rfl, fun _ => .mk _ (by rw [Qm]; show (t.un.2.2.2.map mi).length ≤ 8; rw [List.length_map]; omega) fun x hx => ?_⟩
      rw [Qm, List.eq_nil_of_length_eq_zero h0] at hx
      cases hx
  obtain ⟨b, h1, h2⟩ := key
  exact ⟨b, Dd (g := fun n => E9 n t ZD) (fun n r h => KA n t ZD r h) h1, h2⟩
inductive Fi : Tr37 → Prop
  | mk (t : Tr37) : (1 ≤ t.un.1 ∧ t.un.1 ≤ 5) → (t.un.1 = 2 → (0 ≤ t.un.2.2.1 ∧ t.un.2.2.1 ≤ 4) ∧ 0 ≤ t.un.2.2.2.1 ∧ t.un.2.2.2.1 ≤ DQ t.un.2.2.1) → (t.un.1 = 5 → t.un.2.2.2.2.length = 2) → t.un.2.2.2.2.length ≤ 8 → SmC t.un.2.1 → (∀ x ∈ t.un.2.2.2.2, Fi x) → Fi t
section
variable {t : Tr37} {d : Tr27}
theorem Fi.kind (h : Fi t) : 1 ≤ t.un.1 ∧ t.un.1 ≤ 5 := by cases h; assumption
theorem Fi.set (h : Fi t) : t.un.1 = 2 → (0 ≤ t.un.2.2.1 ∧ t.un.2.2.1 ≤ 4) ∧ 0 ≤ t.un.2.2.2.1 ∧ t.un.2.2.2.1 ≤ DQ t.un.2.2.1 := by cases h; assumption
theorem Fi.two (h : Fi t) : t.un.1 = 5 → t.un.2.2.2.2.length = 2 := by cases h; assumption
theorem Fi.len (h : Fi t) : t.un.2.2.2.2.length ≤ 8 := by cases h; assumption
theorem Fi.q (h : Fi t) : SmC t.un.2.1 := by cases h; assumption
theorem Fi.ch (h : Fi t) {x : Tr37} (hx : x ∈ t.un.2.2.2.2) : Fi x := by cases h with | mk _ _ _ _ _ _ h => exact h x hx
theorem Fi.pm_len (h : Fi (pm d)) : d.un.2.2.2.2.length ≤ 8 := by
  have := h.len
  rw [KB] at this
  simpa using this
theorem Fi.pm_q (h : Fi (pm d)) : SmC (mi d.un.2.1) := by
  have := h.q
  rwa [KB] at this
theorem Fi.pm_ch (h : Fi (pm d)) {x : Tr27} (hx : x ∈ d.un.2.2.2.2) : Fi (pm x) := h.ch (by rw [KB]; exact List.mem_map.2 ⟨x, hx, rfl⟩)
end
theorem Qt : ∀ (n : Nat) (t : Tr27), SizeOf.sizeOf t < n → Fi (pm t) → EA n t = some (pm t)
  | 0, t, h, _ => absurd h (Nat.not_lt_zero _)
  | n + 1, t, h, hc => by
    have hl := hc.pm_len
    show EQ (EA n) t = _
    unfold EQ
    rw [Q9, WB hc.pm_q, Option.bind_some, loop_copy' t.un.2.2.2.2 (by omega) pm (DX (EA n) t) (fun k hk out ho => by
      have hm := List.getElem_mem hk
      rw [DX, if_pos (by omega), Dv (List.getElem?_eq_getElem hk), Option.bind_some, Q9, SN, Qt n _ (by have := Wu hm; omega) (hc.pm_ch hm), Option.bind_some, Q7, SS]) (fun out => by rw [DX, if_neg (by omega)]), Option.bind_some, UW]
theorem Vt {t : Tr27} (hc : Fi (pm t)) : NQ t = some (pm t) := Dd (g := fun n => EA n t) (fun n r h => KE n t r h) (Qt (SizeOf.sizeOf t + 1) t (by omega) hc)
theorem Nm : ∀ (n : Nat) (t : Tr37), SizeOf.sizeOf t < n → Fi t → C1 n t = some (pt t)
  | 0, t, h, _ => absurd h (Nat.not_lt_zero _)
  | n + 1, t, h, hc => by
    have hl := hc.len
    show Di (C1 n) t = _
    unfold Di
    rw [Q7, Ux hc.q, Option.bind_some, loop_copy' t.un.2.2.2.2 (by omega) pt (CW (C1 n) t) (fun k hk out ho => by
      have hm := List.getElem_mem hk
      rw [CW, if_pos (by omega), Dv (List.getElem?_eq_getElem hk), Option.bind_some, Q7, SS, Nm n _ (by have := WM hm; omega) (hc.ch hm), Option.bind_some, Q9, SN]) (fun out => by rw [CW, if_neg (by omega)]), Option.bind_some, U2]
theorem TX {t : Tr37} (hc : Fi t) : FE t = some (pt t) := Dd (g := fun n => C1 n t) (fun n r h => Hq n t r h) (Nm (SizeOf.sizeOf t + 1) t (by omega) hc)
theorem Qe : ∀ (n : Nat) (t : Tr27), SizeOf.sizeOf t < n → Fi (pm t) → DJ n t = some (wd (pm t))
  | 0, t, h, _ => absurd h (Nat.not_lt_zero _)
  | n + 1, t, h, hc => by
    have hl := hc.pm_len
    have hx : ∀ x ∈ t.un.2.2.2.2, DJ n x = some (wd (pm x)) := fun x hm => Qe n x (by have := Wu hm; omega) (hc.pm_ch hm)
    have bd : ∀ i, ∀ w ∈ ((t.un.2.2.2.2.take i).map fun x => wd (pm x)), 0 ≤ w ∧ w ≤ 1000 := fun i w hw => by
      obtain ⟨x, _, rfl⟩ := List.mem_map.1 hw
      exact XL (pm x)
    show EU (DJ n) t = _
    rw [WA]
    unfold EU
    by_cases c : 3 ≤ t.un.1 ∧ t.un.1 ≤ 5
    case neg => rw [if_pos (by simp only [Bool.or_eq_true, decide_eq_true_eq]; omega), if_neg c]
    case pos =>
      have e0 : (if t.un.1 = 3 then some 1 else some 0 : Option Int) = some (w0 t.un.1) := by unfold w0; split <;> rfl
      rw [if_neg (by simp only [Bool.or_eq_true, decide_eq_true_eq]; omega), if_pos c, e0, Option.bind_some]
      obtain ⟨o, h1, h2⟩ := I0 t.un.2.2.2.2.length (fun (o : Int) (i : Nat) => (o, (i : Int))) (DE (DJ n) t) id (fun o i => o = ((t.un.2.2.2.2.take i).map fun x => wd (pm x)).foldl (wf t.un.1) (w0 t.un.1))
        (fun o i hi ho => by
          have hb := P1 (k := t.un.1) _ (w0 t.un.1) (UM _) (bd i)
          rw [← ho] at hb
          have hw := XL (pm t.un.2.2.2.2[i])
          have hm := VM hb hw
          refine ⟨_, ?_, rfl⟩
          rw [DE, if_pos (by omega), Dv (List.getElem?_eq_getElem hi), Option.bind_some, Q9, SN, hx _ (List.getElem_mem hi), Option.bind_some, AF (by omega), AF (by omega), List.take_succ_eq_append_getElem hi, List.map_append, List.map_cons, List.map_nil, SL, ← ho, TH]
          unfold wf
          by_cases c3 : t.un.1 = 3
          · rw [if_pos c3, if_pos c3, Option.bind_some, if_neg (by omega), Option.bind_some, decide_eq_false (show ¬ t.un.1 = 5 by omega), if_neg (by simp)]; rfl
          rw [if_neg c3, if_neg c3, Option.bind_some, AF (by omega)]
          by_cases c4 : t.un.1 = 4
          · rw [if_pos c4, if_pos c4, Option.bind_some, TH, decide_eq_false (show ¬ t.un.1 = 5 by omega), if_neg (by simp)]; rfl
          rw [if_neg c4, if_neg c4, Option.bind_some, decide_eq_true (show t.un.1 = 5 by omega)]
          by_cases cw : o < wd (pm t.un.2.2.2.2[i])
          · rw [decide_eq_true cw, if_pos (by rfl), show max o (wd (pm t.un.2.2.2.2[i])) = wd (pm t.un.2.2.2.2[i]) by omega]; rfl
          · rw [decide_eq_false cw, if_neg (by decide), show max o (wd (pm t.un.2.2.2.2[i])) = o by omega]; rfl)
        (fun o _ => by rw [DE, if_neg (by omega)]; rfl) (w0 t.un.1) rfl
      rw [List.take_length] at h1
      have h2' : AW (DE (DJ n) t) (w0 t.un.1, 0) = some o := h2
      rw [h2', h1]; rfl
theorem Vq {t : Tr27} (hc : Fi (pm t)) : Ok t = some (wd (pm t)) := Dd (g := fun n => DJ n t) (fun n r h => Kx n t r h) (Qe (SizeOf.sizeOf t + 1) t (by omega) hc)
theorem Oj : ∀ (n : Nat) (t : Tr27), SizeOf.sizeOf t < n → Fi (pm t) → ∃ s, D9 n t = some s
  | 0, t, h, _ => absurd h (Nat.not_lt_zero _)
  | n + 1, t, h, hc => by
    have hl := hc.pm_len
    obtain ⟨q, hq⟩ := SU hc.pm_q
    show ∃ s, E2 (D9 n) t = some s
    unfold E2
    have e1 : ∃ y, (if (decide (t.un.1 < 2) || decide (4 < t.un.1)) = true then (Ke (Tr24.of (t.un.2.1.un.1, t.un.2.1.un.2.1, t.un.2.1.un.2.2.1, t.un.2.1.un.2.2.2))).bind fun x2 => some (AO (1 + x2)) else some 1) = some y := by
      rw [Q9, hq]
      by_cases c : (decide (t.un.1 < 2) || decide (4 < t.un.1)) = true
      · rw [if_pos c]; exact ⟨_, rfl⟩
      · rw [if_neg c]; exact ⟨_, rfl⟩
    obtain ⟨y, hy⟩ := e1
    rw [hy, Option.bind_some]
    obtain ⟨o, ho⟩ := Nc t.un.2.2.2.2.length (fun (o : Int) (i : Nat) => (o, (i : Int))) (Dw (D9 n) t) (fun o i hi => by
      have hm := List.getElem_mem hi
      obtain ⟨x, hx⟩ := Oj n t.un.2.2.2.2[i] (by have := Wu hm; omega) (hc.pm_ch hm)
      exact ⟨_, by rw [Dw, if_pos (by omega), Dv (List.getElem?_eq_getElem hi), Option.bind_some, Q9, SN, hx, Option.bind_some, AF (x := (i : Int) + 1) (by omega)]; rfl⟩) (fun o => ⟨o, by rw [Dw, if_neg (by omega)]⟩) y
    exact ⟨o, by rw [show AW (Dw (D9 n) t) (y, 0) = some o from ho]; rfl⟩
theorem Tu {t : Tr27} (hc : Fi (pm t)) : ∃ s, Nt t = some s := by
  obtain ⟨s, h⟩ := Oj (SizeOf.sizeOf t + 1) t (by omega) hc
  exact ⟨s, Dd (g := fun n => D9 n t) (fun n r h => KF n t r h) h⟩
theorem Ot : ∀ (n : Nat) (t : Tr27), SizeOf.sizeOf t < n → Fi (pm t) → ∃ s, Ec n t = some s
  | 0, t, h, _ => absurd h (Nat.not_lt_zero _)
  | n + 1, t, h, hc => by
    have hl := hc.pm_len
    show ∃ s, ET (Ec n) t = some s
    obtain ⟨o, ho⟩ := Nc t.un.2.2.2.2.length (fun (o : Int) (i : Nat) => (o, (i : Int))) (Dx (Ec n) t) (fun o i hi => by
      have hm := List.getElem_mem hi
      obtain ⟨x, hx⟩ := Ot n t.un.2.2.2.2[i] (by have := Wu hm; omega) (hc.pm_ch hm)
      rw [Dx, if_pos (by omega), Dv (List.getElem?_eq_getElem hi), Option.bind_some, Q9, SN, hx, Option.bind_some, Option.bind_some]
      by_cases q : o ≤ x
      · rw [if_pos q, Q9, SN, hx, Option.bind_some, Option.bind_some, AF (x := (i : Int) + 1) (by omega)]; exact ⟨_, rfl⟩
      · rw [if_neg q, Option.bind_some, AF (x := (i : Int) + 1) (by omega)]; exact ⟨_, rfl⟩) (fun o => ⟨o, by rw [Dx, if_neg (by omega)]⟩) 1
    unfold ET
    exact ⟨o, by rw [show AW (Dx (Ec n) t) (1, 0) = some o from ho]; rfl⟩
theorem Tv {t : Tr27} (hc : Fi (pm t)) : ∃ s, NM t = some s := by
  obtain ⟨s, h⟩ := Ot (SizeOf.sizeOf t + 1) t (by omega) hc
  exact ⟨s, Dd (g := fun n => Ec n t) (fun n r h => KI n t r h) h⟩
theorem NB : ∀ (n : Nat) (t : Tr27), SizeOf.sizeOf t < n → ∃ b, D8 n t = some b ∧ (b = true → Fi (pm t))
  | 0, t, h => absurd h (Nat.not_lt_zero _)
  | n + 1, t, h => by
    have no : ∃ b, some false = some b ∧ (b = true → Fi (pm t)) := ⟨false, rfl, fun h => nomatch h⟩
    show ∃ b, EP (D8 n) t = some b ∧ (b = true → Fi (pm t))
    unfold EP
    by_cases g1 : (decide (t.un.1 < 1) || (decide (5 < t.un.1) || (decide (t.un.1 ≠ 2) && (decide (t.un.2.2.1 ≠ 0) || decide (t.un.2.2.2.1 ≠ 0))))) = true
    · rw [if_pos g1]; exact no
    rw [if_neg g1]
    simp only [Bool.and_eq_true, Bool.or_eq_true, decide_eq_true_eq, not_or, not_and] at g1
    have hask : ∃ x : Bool, (if (decide (t.un.1 = 1) || decide (t.un.1 = 5)) = true then (Hz (Tr24.of (t.un.2.1.un.1, t.un.2.1.un.2.1, t.un.2.1.un.2.2.1, t.un.2.1.un.2.2.2))).bind fun x2 => (if (!x2) = true then some true else some false) else (JJ (Tr24.of (t.un.2.1.un.1, t.un.2.1.un.2.1, t.un.2.1.un.2.2.1, t.un.2.1.un.2.2.2)) (Tr24.of (0, 0, 0, ([] : List Tr24)))).bind fun x3 => some (!x3)) = some x ∧ (x = false → SmC (mi t.un.2.1)) := by
      rw [Q9]
      obtain ⟨b, e1, e2⟩ := UA t.un.2.1
      obtain ⟨b2, e3, e4⟩ := VP t.un.2.1
      rw [e1, show JJ t.un.2.1 (Tr24.of (0, 0, 0, ([] : List Tr24))) = some b2 from e3]
      by_cases hk : (decide (t.un.1 = 1) || decide (t.un.1 = 5)) = true
      · rw [if_pos hk, Option.bind_some]
        cases b with
        | true => exact ⟨false, rfl, fun _ => e2 rfl⟩
        | false => exact ⟨true, rfl, fun h => nomatch h⟩
      · rw [if_neg hk, Option.bind_some]
        cases b2 with
        | true => exact ⟨false, rfl, fun _ => e4 rfl⟩
        | false => exact ⟨true, rfl, fun h => nomatch h⟩
    obtain ⟨x, hx1, hx2⟩ := hask
    rw [hx1, Option.bind_some]
    cases x with
    | true => rw [if_pos rfl]; exact no
    | false =>
      have hq := hx2 rfl
      rw [if_neg (by decide)]
      by_cases g2 : (decide (t.un.1 = 2) && (decide (t.un.2.2.1 < 0) || (decide (4 < t.un.2.2.1) || (decide (t.un.2.2.2.1 < 0) || decide ((DQ t.un.2.2.1) < t.un.2.2.2.1))))) = true
      · rw [if_pos g2]; exact no
      rw [if_neg g2]
      simp only [Bool.and_eq_true, Bool.or_eq_true, decide_eq_true_eq, not_or, not_and] at g2
      have hlen : ∃ y : Bool, (bif decide (t.un.1 ≤ 2) then (decide ((t.un.2.2.2.2.length : Int) ≠ 0) || (bif decide (t.un.1 = 5) then (decide ((t.un.2.2.2.2.length : Int) ≠ 2) || (bif decide (t.un.1 = 3) then (decide ((t.un.2.2.2.2.length : Int) < 2) || decide (8 < (t.un.2.2.2.2.length : Int))) else (decide (t.un.1 = 4) && (decide ((t.un.2.2.2.2.length : Int) < 2) || decide (8 < (t.un.2.2.2.2.length : Int)))))) else (bif decide (t.un.1 = 3) then (decide ((t.un.2.2.2.2.length : Int) < 2) || decide (8 < (t.un.2.2.2.2.length : Int))) else (decide (t.un.1 = 4) && (decide ((t.un.2.2.2.2.length : Int) < 2) || decide (8 < (t.un.2.2.2.2.length : Int))))))) else (bif decide (t.un.1 = 5) then (decide ((t.un.2.2.2.2.length : Int) ≠ 2) || (bif decide (t.un.1 = 3) then (decide ((t.un.2.2.2.2.length : Int) < 2) || decide (8 < (t.un.2.2.2.2.length : Int))) else (decide (t.un.1 = 4) && (decide ((t.un.2.2.2.2.length : Int) < 2) || decide (8 < (t.un.2.2.2.2.length : Int)))))) else (bif decide (t.un.1 = 3) then (decide ((t.un.2.2.2.2.length : Int) < 2) || decide (8 < (t.un.2.2.2.2.length : Int))) else (decide (t.un.1 = 4) && (decide ((t.un.2.2.2.2.length : Int) < 2) || decide (8 < (t.un.2.2.2.2.length : Int))))))) = y ∧ (y = false → t.un.2.2.2.2.length ≤ 8 ∧ (t.un.1 = 5 → t.un.2.2.2.2.length = 2)) := by
        refine ⟨_, rfl, ?_⟩
        have hk : t.un.1 = 1 ∨ t.un.1 = 2 ∨ t.un.1 = 3 ∨ t.un.1 = 4 ∨ t.un.1 = 5 := by omega
        rcases hk with h | h | h | h | h <;> rw [h] <;> intro hy <;> simp at hy
        all_goals first | exact ⟨by rw [hy]; exact Nat.zero_le 8, fun h5 => by omega⟩ | exact ⟨by omega, fun h5 => by omega⟩
      obtain ⟨y, hy1, hy2⟩ := hlen
      rw [hy1]
      cases y with
      | true => rw [if_pos rfl]; exact no
      | false =>
        obtain ⟨hl, h5⟩ := hy2 rfl
        rw [if_neg (by decide)]
        have ih : ∀ x ∈ t.un.2.2.2.2, ∃ b, D8 n x = some b ∧ (b = true → Fi (pm x)) := fun x hm => NB n x (by have := Wu hm; omega)
        have key : ∀ (d k : Nat), k + d = t.un.2.2.2.2.length → (∀ x ∈ t.un.2.2.2.2.take k, Fi (pm x)) → ∃ b, Ko (AW (Eu (D8 n) t) (k : Int)) (fun _ => some true) = some b ∧ (b = true → ∀ x ∈ t.un.2.2.2.2, Fi (pm x)) := by
          intro d
          induction d with
          | zero =>
            intro k hk hx
            refine ⟨true, by rw [A9 (e := .inl ()) (by rw [Eu, if_neg (by omega)])]; rfl, fun _ => ?_⟩
            rwa [List.take_of_length_le (by omega)] at hx
          | succ d ihd =>
            intro k hk hx
            have hkl : k < t.un.2.2.2.2.length := by omega
            obtain ⟨b, b1, b2⟩ := ih _ (List.getElem_mem hkl)
            cases b with
            | false =>
              refine ⟨false, ?_, fun h => nomatch h⟩
              rw [A9 (e := .inr false) (by rw [Eu, if_pos (by omega), Dv (List.getElem?_eq_getElem hkl), Option.bind_some, Q9, SN, b1, Option.bind_some, if_pos (by decide)])]; rfl
            | true =>
              rw [BV (s' := ((k + 1 : Nat) : Int)) (by rw [Eu, if_pos (by omega), Dv (List.getElem?_eq_getElem hkl), Option.bind_some, Q9, SN, b1, Option.bind_some, if_neg (by decide), AF (by omega)]; rfl)]
              refine ihd (k + 1) (by omega) fun x hm => ?_
              rw [List.take_succ_eq_append_getElem hkl] at hm
              rcases List.mem_append.1 hm with hm | hm
              · exact hx x hm
              · rw [List.mem_singleton.1 hm]; exact b2 rfl
        obtain ⟨b, b1, b2⟩ := key t.un.2.2.2.2.length 0 (by omega) (by simp)
        refine ⟨b, b1, fun hb => ?_⟩
        have hall := b2 hb
        refine .mk _ ?_ ?_ ?_ ?_ ?_ ?_
        · rw [KB]; exact ⟨by show 1 ≤ t.un.1; omega, by show t.un.1 ≤ 5; omega⟩
        · rw [KB]
          intro h2
          have h2' : t.un.1 = 2 := h2
          have := g2 h2'
          show (0 ≤ t.un.2.2.1 ∧ t.un.2.2.1 ≤ 4) ∧ 0 ≤ t.un.2.2.2.1 ∧ t.un.2.2.2.1 ≤ DQ t.un.2.2.1
          omega
        · rw [KB]
          intro h2
          show (t.un.2.2.2.2.map pm).length = 2
          rw [List.length_map]; exact h5 h2
        · rw [KB]
          show (t.un.2.2.2.2.map pm).length ≤ 8
          rw [List.length_map]; exact hl
        · rw [KB]; exact hq
        · rw [KB]
          intro x hx
          obtain ⟨y, hy, rfl⟩ := List.mem_map.1 hx
          exact hall y hy
theorem Mh (t : Tr27) : ∃ b, FO t = some b ∧ (b = true → Fi (pm t) ∧ wd (pm t) ≤ 64) := by
  obtain ⟨b, h1, h2⟩ := NB (SizeOf.sizeOf t + 1) t (by omega)
  unfold FO
  rw [Q9, SN, show OJ t = some b from Dd (g := fun n => D8 n t) (fun n r h => KK n t r h) h1, Option.bind_some]
  cases b with
  | false => exact ⟨false, by rw [if_neg (by decide)]; rfl, fun h => nomatch h⟩
  | true =>
    have hf := h2 rfl
    obtain ⟨s, e1⟩ := Tu hf
    obtain ⟨d, e2⟩ := Tv hf
    rw [if_pos rfl, e2, Option.bind_some, e1, Option.bind_some, Vq hf]
    by_cases c : d ≤ 8
    · rw [if_pos c]
      by_cases c2 : s ≤ 64
      · rw [if_pos c2]
        exact ⟨_, rfl, fun h => ⟨hf, of_decide_eq_true h⟩⟩
      · rw [if_neg c2]; exact ⟨false, rfl, fun h => nomatch h⟩
    · rw [if_neg c]; exact ⟨false, rfl, fun h => nomatch h⟩
end Go.Proofs.YtpckgggmgijiiaaGreatDoor
