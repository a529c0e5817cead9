/- Layer 11: there and back. Conditions: none. -/
import Derived.Test.YtkjjioigbpkifaaeM11C
namespace Go.Proofs.Ytkjjioigbpkifaa
set_option linter.unusedVariables false
set_option linter.unusedSimpArgs false
set_option synthInstance.maxSize 1000
open Go Go.RowKit
theorem Id {α : Type} (P : α → Bool) : ∀ (l : List α) (k : Nat), (Ge P l k = -1 ∧ l.find? P = none) ∨ ∃ (j : Nat) (x : α), l[j]? = some x ∧ Ge P l k = ((k + j : Nat) : Int) ∧ l.find? P = some x
  | [], k => .inl ⟨rfl, rfl⟩
  | x :: l, k => by
    by_cases c : P x = true
    · exact .inr ⟨0, x, rfl, if_pos c, by rw [List.find?_cons, c]⟩
    · have e : Ge P (x :: l) k = Ge P l (k + 1) := if_neg c
      have c' : P x = false := by simpa using c
      rcases Id P l (k + 1) with ⟨h1, h2⟩ | ⟨j, y, h1, h2, h3⟩
      · exact .inl ⟨e.trans h1, by rw [List.find?_cons, c']; exact h2⟩
      · exact .inr ⟨j + 1, y, h1, by rw [e, h2]; omega, by rw [List.find?_cons, c']; exact h3⟩
def hB (port : Int) (p : P4) (x : Rl) : Bool := decide (LJ x.2.1 port p)
def OA (o : Option Rl) (p : P4) : List Sd := match o with | none => [] | some x => (Ln x.2.2 p).1
theorem J6 (t : List Rl) (port : Int) (p : P4) : Jw t port p = OA (t.find? (hB port p)) p := by
  unfold Jw
  rcases Id (hB port p) t 0 with ⟨h1, h2⟩ | ⟨j, x, h1, h2, h3⟩
  · have h1 : Gd t port p = -1 := h1
    rw [if_pos (by omega), h2]; rfl
  · have h2 : Gd t port p = ((0 + j : Nat) : Int) := h2
    rw [if_neg (by omega), h3, h2, Int.toNat_natCast, Nat.zero_add, List.getD_eq_getElem?_getD, h1]; rfl
theorem JY (r : Rl) (H : Rl → Bool) : ∀ {t : List Rl}, t.Pairwise Bf → (C9 r t).find? H = match t.find? H with | none => (if H r = true then some r else none) | some x => if H r = true ∧ ¬ r.1 ≤ x.1 then some r else some x
  | [], _ => by
    show ([r].find? H) = if H r = true then some r else none
    by_cases c : H r = true
    · rw [if_pos c, List.find?_cons, c]
    · have c' : H r = false := by simpa using c
      rw [if_neg c, List.find?_cons, c']; rfl
  | y :: t, h => by
    have hy := List.pairwise_cons.1 h
    by_cases c : y.1 < r.1
    · have e : C9 r (y :: t) = r :: y :: t := if_pos c
      rw [e, List.find?_cons]
      by_cases d : H r = true
      · rw [d]
        cases hf : (y :: t).find? H with
        | none => simp
        | some x =>
          have hx : x ∈ y :: t := List.mem_of_find?_eq_some hf
          have hle : x.1 ≤ y.1 := by
            rcases List.mem_cons.1 hx with rfl | hx
            · exact Int.le_refl _
            · exact (hy.1 x hx).1
          have : (true = true ∧ ¬ r.1 ≤ x.1) := ⟨rfl, by omega⟩
          exact (if_pos this).symm
      · have d' : H r = false := by simpa using d
        rw [d']
        cases hf : (y :: t).find? H with
        | none => simp
        | some x => simp
    · have e : C9 r (y :: t) = y :: C9 r t := if_neg c
      rw [e, List.find?_cons, List.find?_cons]
      by_cases d : H y = true
      · rw [d]
        have : ¬ (H r = true ∧ ¬ r.1 ≤ y.1) := fun hc => hc.2 (by omega)
        simp only [if_neg this]
      · have d' : H y = false := by simpa using d
        rw [d']
        exact JY r H hy.2
theorem I3 {r : Rl} : ∀ {t : List Rl}, (∀ y ∈ t, ¬ kq y r) → (C9 r t).filter (fun x => !Pm true r x) = t
  | [], _ => by
    have hp : Pm true r r = true := decide_eq_true ⟨rfl, rfl⟩
    show [r].filter _ = []
    simp [hp]
  | y :: t, h => by
    have hy : Pm true r y = false := decide_eq_false (h y (List.mem_cons_self ..))
    have hp : Pm true r r = true := decide_eq_true ⟨rfl, rfl⟩
    have ht : t.filter (fun x => !Pm true r x) = t := List.filter_eq_self.2 fun x hx => by rw [show Pm true r x = false from decide_eq_false (h x (List.mem_cons_of_mem _ hx))]; rfl
    by_cases c : y.1 < r.1
    · have e : C9 r (y :: t) = r :: y :: t := if_pos c
      rw [e, List.filter_cons_of_neg (by simp [hp]), List.filter_cons_of_pos (by simp [hy]), ht]
    · have e : C9 r (y :: t) = y :: C9 r t := if_neg c
      rw [e, List.filter_cons_of_pos (by simp [hy]), I3 fun x hx => h x (List.mem_cons_of_mem _ hx)]
theorem Iq {t : List Rl} (hl : t.length ≤ 9223372036854775807) {r : Rl} (hlr : r.2.2.length ≤ 9223372036854775807) (ports room port : Int) (p : P4) : DO t r ports room port p = some true := by
  unfold DO
  rw [KB]
  obtain ⟨b, hb, hs⟩ := LT hl
  rw [hb, Option.bind_some]
  cases b with
  | false => rfl
  | true =>
    obtain ⟨s1, s2⟩ := hs.1 rfl
    have hA : ∀ x ∈ t, x.2.2.length ≤ 1000 := fun x hx => by have := s2 x hx; omega
    rw [if_neg (by decide)]
    by_cases h10 : 10 < (r.2.2.length : Int)
    · rw [if_pos h10]; rfl
    · rw [if_neg h10, MK (by omega) hA, Option.bind_some]
      by_cases h : Lp ports room t
      · rw [decide_eq_true h, if_neg (by decide), J3 (by omega), Option.bind_some]
        by_cases hr : Hq ports r
        · rw [decide_eq_true hr, if_neg (by decide), Kl, Option.bind_some]
          by_cases hp : N0 p
          · have hbp := NM hp
            rw [decide_eq_true hp, Option.bind_some, if_neg (by decide)]
            rw [FJ t (by omega) (CT t r) (fun x => kq x r) true (fun k hk => by
              rw [CT, if_pos (by omega), Cg (List.getElem?_eq_getElem hk), Option.bind_some, Kc, KB]
              by_cases c : kq t[k] r
              · rw [decide_eq_true c, if_pos rfl, if_pos c]; rfl
              · rw [decide_eq_false c, if_neg (by decide), if_neg c]) (by rw [CT, if_neg (by omega)])]
            by_cases hk : ∃ x ∈ t, kq x r
            · rw [if_pos hk]; rfl
            · have hk' : ∀ y ∈ t, ¬ kq y r := fun y hy e => hk ⟨y, hy, e⟩
              rw [if_neg hk, Ju, JN (by omega) h.2.1 (1, r, false) (KF hr.2.1), Option.bind_some]
              have hap : G9 t (1, r, false) ports room = if room ≤ (t.length : Int) then (t, 6) else (C9 r t, 0) := by
                unfold G9
                rw [if_neg (fun hc => hc hr), if_pos rfl, if_neg (fun hc => by cases hc.1), if_neg hk]
              by_cases hroom : room ≤ (t.length : Int)
              · rw [hap, if_pos hroom]
                show (if (6 : Int) ≠ 0 then _ else _) = _
                rw [if_pos (by decide), if_pos rfl, if_pos (by have := h.1; omega), Ix (by omega) hA]; rfl
              · rw [if_neg hroom] at hap
                have hok1 := Np (1, r, false) h
                rw [hap] at hok1 ⊢
                have hok2 : Lp ports room (C9 r t) := hok1.1
                have hlen := G0 (v := r) t
                have hin : GG (C9 r t) r := ⟨r, Hn.2 (.inl rfl), rfl, rfl⟩
                have hap2 : G9 (C9 r t) (5, r, false) ports room = (t, 0) := by
                  unfold G9
                  rw [if_neg (fun hc => hc hr), if_neg (show ¬ (5 : Int) = 1 by decide), if_neg (show ¬ (5 : Int) = 2 by decide), if_neg (show ¬ (5 : Int) = 3 by decide), if_neg (show ¬ (5 : Int) = 4 by decide), if_pos (show (5 : Int) = 5 from rfl), if_pos hin, I3 hk']
                show (if (0 : Int) ≠ 0 then _ else _) = _
                rw [if_neg (by decide)]
                show Option.bind (Cx (C9 r t) (5, r, false) ports room) _ = _
                rw [JN (by omega) hok2.2.1 (5, r, false) (KF hr.2.1), hap2, Option.bind_some]
                have hw : CA ((t.length : Int) + 1) = (t.length : Int) + 1 := BW (by omega)
                have hg : (if ((C9 r t).length : Int) ≠ (CA ((t.length : Int) + 1)) then some true else if ((t, (0 : Int)) : List Rl × Int).2 ≠ 0 then some true else (El t t).bind fun x16 => some (!x16)) = some false := by
                  rw [if_neg (by rw [hw]; omega), if_neg (show ¬ (0 : Int) ≠ 0 by decide), Ix (by omega) hA]; rfl
                show Option.bind (if ((C9 r t).length : Int) ≠ (CA ((t.length : Int) + 1)) then _ else _) _ = _
                rw [hg, Option.bind_some, if_neg (by decide), JI (by omega) h.2.1 port hbp, Option.bind_some, KP hr.2.1 port hbp, Option.bind_some]
                have r1 := Kz (t := C9 r t) (by omega) hok2.2.1 port hbp
                have r2 := Kz (t := t) (by omega) h.2.1 port hbp
                have r3 := KN (l := r.2.2) (by omega) p
                have r4 := Mk (l := r.2.2) (by omega) p
                have ff := JY r (hB port p) h.2.2
                have fr := J6 (C9 r t) port p
                have ft := J6 t port p
                have same : ∀ b, (b = true → Jw (C9 r t) port p = Jw t port p) → (b = false → Jw (C9 r t) port p = (Ln r.2.2 p).1) → (if b = true then ((CS (C9 r t) port p).bind fun x22 => (GF t port p).bind fun x23 => (EF x22 x23).bind fun x24 => (if x24 = true then (some true).bind fun x25 => some x25 else some false)).bind fun x21 => some x21 else ((CS (C9 r t) port p).bind fun x27 => (F0 r.2.2 p).bind fun x28 => (EF x27 x28).bind fun x29 => (if x29 = true then (some true).bind fun x30 => some x30 else some false)).bind fun x26 => some x26) = some true := fun b h1 h2 => by
                  cases b with
                  | true =>
                    rw [if_pos rfl, r1.1, r2.2.1, Option.bind_some, Option.bind_some, h1 rfl, JG (by have := r2.2.2; omega), decide_eq_true rfl]; rfl
                  | false =>
                    rw [if_neg (by decide), r1.1, r3, Option.bind_some, Option.bind_some, h2 rfl, JG (by have := r4.2; omega), decide_eq_true rfl]; rfl
                by_cases hh : LJ r.2.1 port p
                · have hH : hB port p r = true := decide_eq_true hh
                  rw [decide_eq_true hh, if_neg (by decide)]
                  rcases Id (hB port p) t 0 with ⟨h1, h2⟩ | ⟨j, x, h1, h2, h3⟩
                  · have h1 : Gd t port p = -1 := h1
                    rw [if_neg (by omega), Option.bind_some]
                    refine same false (fun e => by cases e) fun _ => ?_
                    rw [h2] at ff
                    simp only [if_pos hH] at ff
                    rw [fr, ff]; rfl
                  · have h2 : Gd t port p = ((0 + j : Nat) : Int) := h2
                    rw [if_pos (by omega), h2, Nat.zero_add, Cg h1, Option.bind_some, Option.bind_some]
                    rw [h3] at ff ft
                    by_cases hle : r.1 ≤ x.1
                    · rw [decide_eq_true hle]
                      refine same true (fun _ => ?_) fun e => by cases e
                      have hn : ¬ (hB port p r = true ∧ ¬ r.1 ≤ x.1) := fun hc => hc.2 hle
                      simp only [if_neg hn] at ff
                      rw [fr, ff, ft]
                    · rw [decide_eq_false hle]
                      refine same false (fun e => by cases e) fun _ => ?_
                      have hn : (hB port p r = true ∧ ¬ r.1 ≤ x.1) := ⟨hH, hle⟩
                      simp only [if_pos hn] at ff
                      rw [fr, ff]; rfl
                · have hH : ¬ hB port p r = true := fun e => hh (of_decide_eq_true e)
                  rw [decide_eq_false hh, if_pos (by decide), Option.bind_some]
                  refine same true (fun _ => ?_) fun e => by cases e
                  rw [fr, ft, ff]
                  cases hf : t.find? (hB port p) with
                  | none => simp only [if_neg hH]
                  | some x =>
                    have hn : ¬ (hB port p r = true ∧ ¬ r.1 ≤ x.1) := fun hc => hH hc.1
                    simp only [if_neg hn]
          · rw [decide_eq_false hp]; rfl
        · rw [decide_eq_false hr]; rfl
      · rw [decide_eq_false h]; rfl
theorem In (p0 : List Rl) (ok0 : Ny Nn p0) (p1 : Rl) (ok1 : Nn p1) (p2 : Int) {A : Prop} (_ : A) (p3 : Int) {B : Prop} (_ : B) (p4 : Int) {C : Prop} (_ : C) (p5 : P4) {D : Prop} (_ : D) : DO p0 p1 p2 p3 p4 p5 = some true := Iq ok0.1 (Nl ok1) p2 p3 p4 p5
end Go.Proofs.Ytkjjioigbpkifaa
