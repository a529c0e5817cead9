/- Layer 29: whole texts. Conditions: none. -/
import Derived.Test.YtlgjpoapclifbaaDoorbM29P
namespace Go.Proofs.YtlgjpoapclifbaaDoor
set_option linter.unusedVariables false
set_option linter.unusedSimpArgs false
open Go Go.RowKit
theorem SI : ∀ (n : Nat) (t : Tr25), SizeOf.sizeOf t < n → (th t).cnt = t.cnt
  | 0, t, h => absurd h (Nat.not_lt_zero _)
  | n + 1, t, h => by
    rw [O4, Nt, R7]
    show 1 + ((t.un.2.2.2.map th).map Tr34.cnt).sum = _
    rw [List.map_map]
    congr 2
    exact List.map_congr_left fun x hx => SI n x (by have := Sj hx; omega)
theorem Th : ∀ (n : Nat) (t : Tr28), SizeOf.sizeOf t < n → (pt t).cnt = t.cnt
  | 0, t, h => absurd h (Nat.not_lt_zero _)
  | n + 1, t, h => by
    rw [QD, Pr, R9]
    show 1 + ((th t.un.2.1).cnt + ((t.un.2.2.2.2.map pt).map Tr37.cnt).sum) = _
    rw [List.map_map, SI (SizeOf.sizeOf t.un.2.1 + 1) _ (by omega)]
    congr 3
    exact List.map_congr_left fun x hx => Th n x (by have := S7 hx; omega)
theorem Q1 : ∀ w ∈ W6, 0 < BN Iq w ∧ 0 < w.length ∧ w.length ≤ 5000 := by decide +kernel
theorem Ph {t : Fj} (h : Good t) (h3 : t.1 = 3) : ∀ w ∈ W6, t.2.2.1 ≠ w := fun w hw e => by
  have h1 := h.fst
  have h2 : tx t = w := by unfold tx; rw [if_neg (by omega)]; exact e
  obtain ⟨g1, g2, g3⟩ := Q1 w hw
  rw [h2, F9 g2 g3, if_pos g1] at h1
  have h4 := congrArg (fun q : Fj × Int => q.1.1) (Option.some.inj h1)
  simp only at h4
  omega
theorem P0 {s : List UInt8} (hs : s.length ≤ 4000) {a : Nat} {ts : List Fj} (h : Run s a ts) (hl : ts.length ≤ 500) : Tks (ts ++ [Gg s]) where
  len := by simp; omega
  nxt := fun i hi hk => by
    rw [List.length_append, List.length_singleton] at hi ⊢
    by_cases c : i < ts.length
    · omega
    · exfalso
      obtain rfl : i = ts.length := by omega
      rw [List.getElem_append_right (by omega)] at hk
      simp at hk
  sgn := fun i hi hk => by
    rw [List.length_append, List.length_singleton] at hi
    by_cases c : i < ts.length
    · rw [List.getElem_append_left c] at hk ⊢
      exact Ph ((PQ hs h).1 _ (List.getElem_mem c)) hk
    · exfalso
      obtain rfl : i = ts.length := by omega
      rw [List.getElem_append_right (by omega)] at hk
      simp at hk
theorem Ri {l : List Fj} {i : Nat} (h : i < l.length) (c : l[i].1 = 4) : BD (l, (i : Int)) = some (.inl ()) := by
  unfold BD
  rw [IH h, Option.bind_some, if_neg (fun q => q c)]
theorem Rh {l : List Fj} {i : Nat} (h : i < l.length) (c : l[i].1 ≠ 4) : BD (l, (i : Int)) = some (.inr (l[i].2.2.2, 10)) := by
  unfold BD
  rw [IH h, Option.bind_some, if_pos c, KM h]; rfl
abbrev Jq : Tr28 := Tr28.of (0, Tr25.of (0, 0, 0, []), 0, 0, [])
abbrev Nc : Tr25 := Tr25.of (0, 0, 0, [])
theorem MU : pt Jq = Tr37.of (0, Tr34.of (0, 0, 0, []), 0, 0, []) := by rw [Jq, Kc, O7]; rfl
theorem LG : Jq.cnt ≤ 100000 := by rw [Jq, Ha, Sv]; simp
theorem Oh {s : List UInt8} (hs : s.length ≤ 4000) : ∃ x a e, DX s = some (x, a, e) ∧ HC s = some (pt x, a, e) ∧ x.cnt ≤ 100000 := by
  unfold DX HC ED
  simp only [Pl, Qk, PM, Qv, Af, A8]
  rw [OQ hs]
  rcases NL hs with ⟨ts, h1, h2, h3⟩ | ⟨p, e, h1, h2⟩
  · have hl := P0 hs h2 h3
    rw [h1]
    simp only [Option.bind_some]
    rw [if_neg (fun q => q rfl), if_neg (fun q => q rfl)]
    simp only [Option.bind_some]
    rcases QQ hl 0 (by simp) with ⟨x, j, p1, p2, p3, p4, p5⟩ | ⟨k, hk, q, y, p1, p2⟩
    · have p1' : CB (ts ++ [Gg s], 0) = _ := p1
      have p2' : IG (ts ++ [Gg s]) 0 = _ := p2
      simp only [BZ, p1', p2', Option.bind_some]
      have e1 : ix (ts ++ [Gg s]) (j : Int) = some (ts ++ [Gg s])[j] := CQ (List.getElem?_eq_getElem p4)
      by_cases c : (ts ++ [Gg s])[j].1 = 4
      · have e2 : BD (ts ++ [Gg s], (j : Int)) = _ := Ri p4 c
        rw [e2, if_neg (by decide), e1, Option.bind_some, Option.bind_some, decide_eq_false (fun q => q c)]
        exact ⟨x, 0, 0, rfl, rfl, by have := hl.len; omega⟩
      · have e2 : BD (ts ++ [Gg s], (j : Int)) = _ := Rh p4 c
        rw [e2, if_neg (by decide), e1, Option.bind_some, Option.bind_some, decide_eq_true c]
        exact ⟨Jq, _, _, rfl, by rw [MU]; rfl, LG⟩
    · have p1' : CB (ts ++ [Gg s], 0) = _ := p1
      have p2' : IG (ts ++ [Gg s]) 0 = _ := p2
      have e1 : ix (ts ++ [Gg s]) (k : Int) = some (ts ++ [Gg s])[k] := CQ (List.getElem?_eq_getElem hk)
      simp only [BZ, p1', p2', Option.bind_some]
      rw [if_pos (by decide), Option.bind_some, if_pos rfl, e1, Option.bind_some]
      exact ⟨Jq, _, _, rfl, by rw [MU], LG⟩
  · rw [h1]
    simp only [Option.bind_some]
    rw [if_pos h2, if_pos h2]
    exact ⟨Jq, p, e, rfl, by rw [MU], LG⟩
theorem Px {s : List UInt8} (hs : s.length ≤ 4000) : ∃ x a e, GC s = some (x, a, e) ∧ IA s = some (th x, a, e) ∧ x.cnt ≤ 100000 := by
  have hz : Nc.cnt ≤ 100000 := by rw [Sv]; decide
  unfold GC IA ED
  simp only [Pl, Am, A8]
  rw [OQ hs]
  rcases NL hs with ⟨ts, h1, h2, h3⟩ | ⟨p, e, h1, h2⟩
  · have hl := P0 hs h2 h3
    rw [h1]
    simp only [Option.bind_some]
    rw [if_neg (fun q => q rfl), if_neg (fun q => q rfl)]
    simp only [Option.bind_some]
    rcases LE hl 0 (by simp) with ⟨x, j, p1, p2, p3, p4, p5⟩ | ⟨k, hk, q, y, p1, p2⟩
    · have p1' : BR (ts ++ [Gg s], 0) = _ := p1
      have p2' : GO (ts ++ [Gg s]) 0 = _ := p2
      simp only [BZ, p1', p2', Option.bind_some]
      have e1 : ix (ts ++ [Gg s]) (j : Int) = some (ts ++ [Gg s])[j] := CQ (List.getElem?_eq_getElem p4)
      by_cases c : (ts ++ [Gg s])[j].1 = 4
      · have e2 : BD (ts ++ [Gg s], (j : Int)) = _ := Ri p4 c
        rw [e2, if_neg (by decide), e1, Option.bind_some, Option.bind_some, decide_eq_false (fun q => q c)]
        exact ⟨x, 0, 0, rfl, rfl, by have := hl.len; omega⟩
      · have e2 : BD (ts ++ [Gg s], (j : Int)) = _ := Rh p4 c
        rw [e2, if_neg (by decide), e1, Option.bind_some, Option.bind_some, decide_eq_true c]
        exact ⟨Nc, _, _, rfl, by rw [O7]; rfl, hz⟩
    · have p1' : BR (ts ++ [Gg s], 0) = _ := p1
      have p2' : GO (ts ++ [Gg s]) 0 = _ := p2
      have e1 : ix (ts ++ [Gg s]) (k : Int) = some (ts ++ [Gg s])[k] := CQ (List.getElem?_eq_getElem hk)
      simp only [BZ, p1', p2', Option.bind_some]
      rw [if_pos (by decide), Option.bind_some, if_pos rfl, e1, Option.bind_some]
      exact ⟨Nc, _, _, rfl, by rw [O7], hz⟩
  · rw [h1]
    simp only [Option.bind_some]
    rw [if_pos h2, if_pos h2]
    exact ⟨Nc, p, e, rfl, by rw [O7], hz⟩
theorem Kz (s : List UInt8) : EB s = some true := by
  unfold EB
  simp only [Pl, Qk, PM, Qv]
  by_cases c : 1000 < (s.length : Int)
  · rw [if_pos c, ON]; rfl
  rw [if_neg c]
  obtain ⟨x, a, e, p1, p2, p3⟩ := Oh (s := s) (by omega)
  obtain ⟨y, b, f, q1, q2, q3⟩ := Px (s := s) (by omega)
  rw [p1, Option.bind_some, p2, Option.bind_some]
  dsimp only
  rw [Od (by omega), Option.bind_some, RB (by rw [Th _ x (Nat.lt_succ_self _)]; omega), Option.bind_some, if_neg (by decide), if_neg (fun h => h rfl), Option.bind_some, decide_eq_false (fun h => h rfl), if_neg (by decide), q1, Option.bind_some, q2, Option.bind_some]
  dsimp only
  rw [Mr (by omega), Option.bind_some, NI (by rw [SI _ y (Nat.lt_succ_self _)]; omega), Option.bind_some, @decide_eq_true _ (_) rfl, if_pos rfl, if_pos rfl, if_pos rfl, ON]; rfl
theorem KG (p0 : List UInt8) {A : Prop} (_ : A) : EB p0 = some true := Kz p0
end Go.Proofs.YtlgjpoapclifbaaDoor
