/- Layer 19: the statement. Conditions: none. -/
import Derived.Test.YtieebnllkjmjiaabM21W
import Derived.Test.YtieebnllkjmjiaabEV
namespace Go.Proofs.Ytieebnllkjmjiaa
set_option linter.unusedVariables false
set_option linter.unusedSimpArgs false
open Go Go.RowKit
variable {t : Tp} {L c : List Nat}
theorem JX : ∀ R : List (List Int), GU OP (R.map fun r => ((2, r) : Nat × List Int)) = some R
  | [] => rfl
  | r :: R => by
    show (QZ ((2, r) : Nat × List Int)).bind (fun a => (GU OP (R.map fun r => ((2, r) : Nat × List Int))).bind fun m => some (a :: m)) = _
    rw [JX R]; rfl
def NQ (t : Tp) (P : Nat → List Int) : List (List Int) := (List.range t.1.toNat).map fun k => Ff P t.2.2.length k
theorem N4 (P : Nat → List Int) : Ca t P t.2.2.length 0 = (NQ t P).map fun r => ((2, r) : Nat × List Int) := by
  unfold Ca NQ
  rw [List.map_map]
  refine List.map_congr_left fun k _ => ?_
  rw [if_neg (Nat.not_lt_zero _)]; rfl
theorem Kw (P : Nat → List Int) {u : Int} (hu : VV t u) {i : Nat} (hi : i < t.2.2.length) : JP (NQ t P) u (i : Int) = hv (P i) u := by
  have h0 := hu.1
  have h1 := hu.2
  have e1 : (NQ t P).getD u.toNat [] = Ff P t.2.2.length u.toNat := by
    unfold NQ
    rw [List.getD_eq_getElem?_getD, List.getElem?_map, List.getElem?_range (by omega)]; rfl
  have e2 : (Ff P t.2.2.length u.toNat).getD i 0 = hv (P i) ((u.toNat : Nat) : Int) := by
    unfold Ff
    rw [List.getD_eq_getElem?_getD, List.getElem?_map, List.getElem?_range hi]; rfl
  unfold JP
  rw [e1, show ((i : Int).toNat) = i by omega, e2, show ((u.toNat : Nat) : Int) = u by omega]
theorem P8 (hok : C6 t) {P : Nat → List Int} {i : Nat} (hi : i < t.2.2.length) {r : Int → Nat} {h : List Int} (H : Tr19 t L t.2.2[i] c r h) (hP : P i = FX t L c h t.2.2[i]) :
    ∀ (n : Nat) (u : Int), VV t u → hv h u = (n : Int) → ∃ l, Wy t (NQ t P) (i : Int) (u :: l) := by
  intro n
  induction n with
  | zero =>
    intro u hu h0
    have hug : u = t.2.2[i].1 := H.sp.zero u hu h0
    refine ⟨[], .last ?_⟩
    unfold Ni
    rw [Kw P hu hi, hP, Hf hu, show Ft t L c h t.2.2[i] u = t.2.2[i].2 from if_pos hug, show ((i : Int).toNat) = i by omega, List.getElem?_eq_getElem hi, hug]
  | succ n ih =>
    intro u hu hn
    by_cases q : u = t.2.2[i].1
    · refine ⟨[], .last ?_⟩
      unfold Ni
      rw [Kw P hu hi, hP, Hf hu, show Ft t L c h t.2.2[i] u = t.2.2[i].2 from if_pos q, show ((i : Int).toNat) = i by omega, List.getElem?_eq_getElem hi, q]
    · obtain ⟨x, x1, x2, x3, x4, x5⟩ := H.next hok hu q (by omega)
      have hV : VV t x.2.1 := (Td.V (t := t) hok (L := L) (c := c) (u := x.2.1) (v := u) ⟨x.2.2, ⟨x.1, x1⟩, x3⟩).1
      obtain ⟨l, hl⟩ := ih x.2.1 hV (by omega)
      obtain ⟨b, hb⟩ := Pg hok x1
      have hpe := PV hok u x.1
      rw [hb] at hpe
      have hpe' := (Option.some.inj hpe).symm
      have hp : JP (NQ t P) u (i : Int) = x.1 := by rw [Kw P hu hi, hP, Hf hu, x4]
      refine ⟨x.2.1 :: l, .go ?_ ?_ hl⟩
      · unfold Ni
        rw [show ((i : Int).toNat) = i by omega, List.getElem?_eq_getElem hi]
        exact fun e => q (by rw [Option.some.inj e])
      · unfold nx
        rw [hp, hpe', if_pos rfl]
open Classical in
theorem IB (t : Tp) (L : List Nat) (hL : ∀ x ∈ L, F2 x) : Da t (nz L) = some true := by
  have hsm : ∃ b, FC t ([] : List (List Int)) = some b := by
    unfold FC
    rw [AZ (e := .inl ()) (by rw [FK, if_neg (by simp)])]
    exact ⟨_, rfl⟩
  obtain ⟨b, hb⟩ := hsm
  unfold Da
  rw [hb, Option.bind_some]
  cases b with
  | false => rw [if_pos (by decide), Option.bind_some, if_pos rfl, HM]; rfl
  | true =>
    rw [if_neg (by decide), GR]
    by_cases c30 : 30 < (L.length : Int)
    · rw [if_pos c30, Option.bind_some, if_pos rfl, HM]; rfl
    · have hll : L.length ≤ 1000000 := by omega
      rw [if_neg c30, KY hll, Option.bind_some, Option.bind_some]
      by_cases q : C6 t ∧ GT t L
      case neg => rw [decide_eq_false q, if_pos (by decide), HM]; rfl
      case pos =>
        obtain ⟨hok, hw⟩ := q
        obtain ⟨P, H, hT⟩ := PZ (L := L) hok hw
        have h8 := hok.1.2.1
        have h1t := hok.1.1
        rw [decide_eq_true (⟨hok, hw⟩ : C6 t ∧ GT t L), if_neg (by decide), PB hll, Option.bind_some, KB hw, Ll hok hw H, Option.bind_some]
        by_cases hbad : Oz t P
        · rw [if_pos hbad, if_pos (show (7 : Int) ≠ 0 by decide), if_pos rfl, if_pos (by rfl), HM]; rfl
        · have hnn : ∀ (i : Nat), i < t.2.2.length → ∀ u, VV t u → 0 ≤ hv (P i) u := fun i hi u hu => by
            have h0 := hu.1
            have h1 := hu.2
            refine Int.not_lt.1 fun hn => hbad ⟨i, hi, u.toNat, by omega, ?_⟩
            rw [show ((u.toNat : Nat) : Int) = u by omega]; exact hn
          have hgood : KW t (NQ t P) := by
            refine ⟨⟨hok, by unfold NQ; simp; omega, fun row hrow => ?_⟩, fun sw h hs hh => ?_⟩
            · obtain ⟨k, hk, rfl⟩ := List.mem_map.1 (show row ∈ (List.range t.1.toNat).map fun k => Ff P t.2.2.length k from hrow)
              have hk' := List.mem_range.1 hk
              have hu : VV t (k : Int) := ⟨by omega, by omega⟩
              refine ⟨KC .., fun p hp => ?_⟩
              obtain ⟨i, hi, rfl⟩ := List.mem_map.1 (show p ∈ (List.range t.2.2.length).map fun i => hv (P i) (k : Int) from hp)
              have hi' := List.mem_range.1 hi
              refine ⟨hnn i hi' _ hu, ?_⟩
              obtain ⟨c, r, h, T, hPi⟩ := hT i hi'
              have hpo := hok.2.2 _ (List.getElem_mem hi')
              rw [hPi, Hf hu]
              by_cases e : (k : Int) = t.2.2[i].1
              · rw [show Ft t L c h t.2.2[i] (k : Int) = t.2.2[i].2 from if_pos e]
                exact hpo.2.2.2.1
              · have h0 := hnn i hi' _ hu
                rw [hPi, Hf hu] at h0
                rcases T.port hok (by have := hpo.2.2.1; exact this) hu with ⟨a, _, _⟩ | ⟨_, b⟩
                · omega
                · obtain ⟨x, x1, _, _, x4, _⟩ := T.next hok hu e b
                  rw [x4]; exact (Fb hok x1).2
            · have hi : h.toNat < t.2.2.length := by omega
              obtain ⟨c, r, hop, T, hPi⟩ := hT h.toNat hi
              have hpo := hok.2.2 _ (List.getElem_mem hi)
              have hu : VV t sw := hs
              have h0 := hnn h.toNat hi _ hu
              rw [hPi, Hf hu] at h0
              rcases T.port hok (by have := hpo.2.2.1; exact this) hu with ⟨a, _, _⟩ | ⟨_, b⟩
              · omega
              · have := P8 hok hi T hPi (hv hop sw).toNat sw hu (by omega)
                rwa [show ((h.toNat : Nat) : Int) = h by omega] at this
          have hlen : (NQ t P).length ≤ 12 := by unfold NQ; simp; omega
          have hrow : ∀ row ∈ NQ t P, row.length ≤ 1000000000 := fun row hrow => by
            obtain ⟨k, _, rfl⟩ := List.mem_map.1 (show row ∈ (List.range t.1.toNat).map fun k => Ff P t.2.2.length k from hrow)
            rw [KC]
            have := hok.1.2.2.2
            omega
          rw [if_neg hbad, if_neg (show ¬ (0 : Int) ≠ 0 by decide)]
          show ((GU OP (Ca t P t.2.2.length 0)).bind _).bind _ = _
          rw [N4, JX, Option.bind_some, Qf hlen hrow, Option.bind_some, decide_eq_true hgood, if_pos rfl, HM]; rfl
theorem IL (p0 : Tp) {A : Prop} (_ : A) (p1 : List Int) (ok1 : PW (fun n => (Lit.int .u64 n).wf = true) p1) : Da p0 p1 = some true := by
  obtain ⟨L, rfl, hL⟩ := Q5 ok1
  exact IB p0 L hL
end Go.Proofs.Ytieebnllkjmjiaa
