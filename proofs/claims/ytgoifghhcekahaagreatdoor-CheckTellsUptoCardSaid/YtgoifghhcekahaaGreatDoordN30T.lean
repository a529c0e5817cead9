/- Layer 30: the document's answers. Conditions: none. -/
import Derived.Test.YtgoifghhcekahaaGreatDoordN30U
import Derived.Test.YtgoifghhcekahaaGreatDoordN17
namespace Go.Proofs.YtgoifghhcekahaaGreatDoor
set_option linter.unusedVariables false
set_option linter.unusedSimpArgs false
open Go Go.RowKit
def named (t : Tp) (p : Int) : Bool := t.2.1.any (fun l => De l p) || t.2.2.any (fun h => Dn h p)
theorem Up {t : Tp} (hl : t.2.1.length ≤ 1000) (hh : t.2.2.length ≤ 1000) (p : Int) : Gm t p = some (named t p) := by
  obtain ⟨i, i1, i2⟩ := LI t.2.1 (fun l => De l p) (BJ t.2.1 p) (fun k hk => by
    rw [BJ, if_pos (by omega), Bl (List.getElem?_eq_getElem hk), Option.bind_some, Ax (by omega)]; rfl) (by rw [BJ, if_neg (by omega)])
  obtain ⟨j, j1, j2⟩ := LI t.2.2 (fun h => Dn h p) (BN t.2.2 p) (fun k hk => by
    rw [BN, if_pos (by omega), Bl (List.getElem?_eq_getElem hk), Option.bind_some, Ax (by omega)]; rfl) (by rw [BN, if_neg (by omega)])
  unfold Gm Ca Cr Cn CG named
  rw [i1, j1]
  simp only [Option.bind_some]
  rw [i2, j2]
  cases t.2.1.any fun l => De l p with
  | true => rfl
  | false => rfl
theorem Uj {t : Tp} (hl : t.2.1.length ≤ 1000) (hh : t.2.2.length ≤ 1000) (p : Int) : HG t p = some (named t p) := by
  unfold HG named
  rw [Gp t.2.1 (by omega) (GB t p) (fun l => De l p = true) true (fun k hk => by
      rw [GB, if_pos (by omega), Bl (List.getElem?_eq_getElem hk)]
      simp only [Option.bind_some]
      unfold De
      by_cases a : t.2.1[k].2.1 = p
      · rw [if_pos a, Option.bind_some, if_pos rfl, if_pos (by simp [a])]
      · rw [if_neg a, Option.bind_some]
        by_cases b : t.2.1[k].2.2.2.1 = p
        · rw [decide_eq_true b, if_pos rfl, if_pos (by simp)]
        · rw [decide_eq_false b, if_neg (by decide), if_neg (by simp [a])]) (by rw [GB, if_neg (by omega)]),
    Gp t.2.2 (by omega) (GL t p) (fun h => Dn h p = true) true (fun k hk => by
      rw [GL, if_pos (by omega), Bl (List.getElem?_eq_getElem hk), Option.bind_some]
      unfold Dn
      by_cases a : t.2.2[k].2 = p
      · rw [if_pos a, if_pos (by simp [a])]
      · rw [if_neg a, if_neg (by simp [a])]) (by rw [GL, if_neg (by omega)])]
  by_cases a : ∃ l ∈ t.2.1, De l p = true
  · rw [if_pos a, List.any_eq_true.2 a]; rfl
  · rw [if_neg a]
    have ha : (t.2.1.any fun l => De l p) = false := List.any_eq_false.2 fun x hx h => a ⟨x, hx, h⟩
    rw [ha]
    by_cases b : ∃ l ∈ t.2.2, Dn l p = true
    · rw [if_pos b, List.any_eq_true.2 b]; rfl
    · have hb : (t.2.2.any fun l => Dn l p) = false := List.any_eq_false.2 fun x hx h => b ⟨x, hx, h⟩
      rw [if_neg b, hb]; rfl
theorem Vj {ε : Type} (n : Nat) (step : Int → Option (Int ⊕ (Unit ⊕ ε))) (q : Nat → Prop) (e : ε)
    (hs : ∀ k, k < n → (q k → step (k : Int) = some (.inr (.inr e))) ∧ (¬ q k → step (k : Int) = some (.inl ((k + 1 : Nat) : Int)))) (he : step (n : Int) = some (.inr (.inl ()))) :
    ((∃ k, k < n ∧ q k) → AB step 0 = some (.inr e)) ∧ ((∀ k, k < n → ¬ q k) → AB step 0 = some (.inl ())) := by
  have key : ∀ (d k : Nat), k + d = n → ((∃ j, k ≤ j ∧ j < n ∧ q j) → AB step (k : Int) = some (.inr e)) ∧ ((∀ j, k ≤ j → j < n → ¬ q j) → AB step (k : Int) = some (.inl ())) := by
    intro d
    induction d with
    | zero =>
      intro k hk
      obtain rfl : k = n := by omega
      exact ⟨fun ⟨j, h1, h2, _⟩ => by omega, fun _ => AV he⟩
    | succ d ih =>
      intro k hk
      obtain ⟨a, b⟩ := ih (k + 1) (by omega)
      obtain ⟨s1, s2⟩ := hs k (by omega)
      by_cases c : q k
      · exact ⟨fun _ => AV (s1 c), fun h => absurd c (h k (by omega) (by omega))⟩
      · refine ⟨fun ⟨j, h1, h2, h3⟩ => ?_, fun h => ?_⟩
        · rw [BU (s2 c)]
          refine a ⟨j, ?_, h2, h3⟩
          rcases Nat.lt_or_ge k j with hh | hh
          · omega
          · obtain rfl : j = k := by omega
            exact absurd h3 c
        · rw [BU (s2 c)]
          exact b fun j h1 h2 => h j (by omega) h2
  obtain ⟨a, b⟩ := key n 0 (by omega)
  exact ⟨fun ⟨k, h1, h2⟩ => a ⟨k, by omega, h1, h2⟩, fun h => b fun j _ h2 => h j h2⟩
abbrev TP (t : Tp) (x : Tr39) : Prop := (∃ v, v ∈ us 4 x ∧ named t v = false) ∨ ∃ v, v ∈ us 5 x ∧ t.1 ≤ v
theorem WI {t : Tp} (hl : t.2.1.length ≤ 1000) (hh : t.2.2.length ≤ 1000) {x : Tr39} (hc : x.cnt ≤ 1000) (hf : GA x = true) : ∃ b, Fu t x = some b ∧ (b = true ↔ TP t x) := by
  obtain ⟨V, v1, v2, v3⟩ := Qo hc 4
  obtain ⟨U, u1, u2, u3⟩ := Qo hc 5
  have lV : V.length ≤ 1000 := by rw [Jy hf 4 v2 v3]; exact Nat.le_trans (Oo 4 x) (by omega)
  have lU : U.length ≤ 1000 := by rw [Jy hf 5 u2 u3]; exact Nat.le_trans (Oo 5 x) (by omega)
  obtain ⟨i, i1, i2⟩ := LI V (fun v => !named t v) (CO V t) (fun k hk => by
    rw [CO, if_pos (by omega), Bl (List.getElem?_eq_getElem hk), Option.bind_some]
    unfold FH
    rw [Up hl hh, Option.bind_some, Option.bind_some, Ax (by omega)]; rfl) (by rw [CO, if_neg (by omega)])
  obtain ⟨j, j1, j2⟩ := LI U (fun v => DW v t) (CD U t) (fun k hk => by
    rw [CD, if_pos (by omega), Bl (List.getElem?_eq_getElem hk), Option.bind_some, Ax (by omega)]; rfl) (by rw [CD, if_neg (by omega)])
  refine ⟨(V.any fun v => !named t v) || U.any fun v => DW v t, ?_, ?_⟩
  · unfold Fu Dl DE C8 Do
    rw [Lg, MX, v1, u1]
    simp only [Option.bind_some]
    rw [i1, j1]
    simp only [Option.bind_some]
    rw [i2, j2]
    cases V.any fun v => !named t v with
    | true => rfl
    | false => rfl
  · rw [Bool.or_eq_true, List.any_eq_true, List.any_eq_true]
    refine or_congr ?_ ?_
    · exact ⟨fun ⟨v, h1, h2⟩ => ⟨v, (v3 v).1 h1, by simpa using h2⟩, fun ⟨v, h1, h2⟩ => ⟨v, (v3 v).2 h1, by simpa using h2⟩⟩
    · exact ⟨fun ⟨v, h1, h2⟩ => ⟨v, (u3 v).1 h1, of_decide_eq_true h2⟩, fun ⟨v, h1, h2⟩ => ⟨v, (u3 v).2 h1, decide_eq_true h2⟩⟩
theorem Yr {t : Tp} (hl : t.2.1.length ≤ 1000) (hh : t.2.2.length ≤ 1000) {x : Tr31} (hc : x.cnt ≤ 1048576) (hf : GA (pm x) = true) : (TP t (pm x) → AB (Fh t x) 0 = some (.inr 13)) ∧ (¬ TP t (pm x) → AB (Fh t x) 0 = some (.inl ())) := by
  have lack : TP t (pm x) ↔ ∃ k : Nat, k < 8 ∧ (((k : Int) ∈ us 4 (pm x) ∧ named t k = false) ∨ ((k : Int) ∈ us 5 (pm x) ∧ t.1 ≤ (k : Int))) := by
    have t4 : CP 4 = 7 := rfl
    have t5 : CP 5 = 7 := rfl
    constructor
    · rintro (⟨v, h1, h2⟩ | ⟨v, h1, h2⟩)
      · have := SV (SizeOf.sizeOf (pm x) + 1) (pm x) (by omega) hf h1
        exact ⟨v.toNat, by omega, .inl (by rw [show ((v.toNat : Nat) : Int) = v by omega]; exact ⟨h1, h2⟩)⟩
      · have := SV (SizeOf.sizeOf (pm x) + 1) (pm x) (by omega) hf h1
        exact ⟨v.toNat, by omega, .inr (by rw [show ((v.toNat : Nat) : Int) = v by omega]; exact ⟨h1, h2⟩)⟩
    · rintro ⟨k, _, h | h⟩
      · exact .inl ⟨_, h.1, h.2⟩
      · exact .inr ⟨_, h.1, h.2⟩
  obtain ⟨a, b⟩ := Vj 8 (Fh t x) (fun k : Nat => ((k : Int) ∈ us 4 (pm x) ∧ named t k = false) ∨ ((k : Int) ∈ us 5 (pm x) ∧ t.1 ≤ (k : Int))) 13 (fun k hk => by
    rw [Fh, if_pos (by omega), Kq, Nj, Sh hc, Sh hc, Uj hl hh, Ax (by omega)]
    simp only [Option.bind_some]
    by_cases c4 : (k : Int) ∈ us 4 (pm x)
    · rw [decide_eq_true c4, if_pos rfl]
      cases hn : named t k with
      | false => 
        rw [if_pos (by decide), Option.bind_some, if_pos rfl]
        exact ⟨fun _ => rfl, fun h => absurd (.inl ⟨c4, rfl⟩) h⟩
      | true =>
        rw [if_neg (by decide)]
        by_cases c5 : (k : Int) ∈ us 5 (pm x)
        · rw [decide_eq_true c5, if_pos rfl, Option.bind_some]
          by_cases cs : t.1 ≤ (k : Int)
          · rw [decide_eq_true cs, if_pos rfl]
            exact ⟨fun _ => rfl, fun h => absurd (.inr ⟨c5, cs⟩) h⟩
          · rw [decide_eq_false cs, if_neg (by decide)]
            exact ⟨fun h => h.elim (fun h => by cases h.2) fun h => absurd h.2 cs, fun _ => rfl⟩
        · rw [decide_eq_false c5, if_neg (by decide), Option.bind_some, if_neg (by decide)]
          exact ⟨fun h => h.elim (fun h => by cases h.2) fun h => absurd h.1 c5, fun _ => rfl⟩
    · rw [decide_eq_false c4, if_neg (by decide)]
      by_cases c5 : (k : Int) ∈ us 5 (pm x)
      · rw [decide_eq_true c5, if_pos rfl, Option.bind_some]
        by_cases cs : t.1 ≤ (k : Int)
        · rw [decide_eq_true cs, if_pos rfl]
          exact ⟨fun _ => rfl, fun h => absurd (.inr ⟨c5, cs⟩) h⟩
        · rw [decide_eq_false cs, if_neg (by decide)]
          exact ⟨fun h => h.elim (fun h => absurd h.1 c4) fun h => absurd h.2 cs, fun _ => rfl⟩
      · rw [decide_eq_false c5, if_neg (by decide), Option.bind_some, if_neg (by decide)]
        exact ⟨fun h => h.elim (fun h => absurd h.1 c4) fun h => absurd h.1 c5, fun _ => rfl⟩) (by rw [Fh, if_neg (by omega)])
  exact ⟨fun h => a (lack.1 h), fun h => b fun k hk hq => h (lack.2 ⟨k, hk, hq⟩)⟩
theorem Th {α : Type} {g h : α → Nat} : ∀ (l : List α), (∀ x ∈ l, g x ≤ 2 * h x) → (l.map g).sum ≤ 2 * (l.map h).sum
  | [], _ => Nat.le_refl _
  | x :: l, hx => by
    have h1 := hx x (List.mem_cons_self ..)
    have h2 := Th (g := g) (h := h) l fun y hy => hx y (List.mem_cons_of_mem _ hy)
    rw [List.map_cons, List.sum_cons, List.map_cons, List.sum_cons]; omega
theorem Uy : ∀ (n : Nat) (t : Tr39), SizeOf.sizeOf t < n → GA t = true → t.cnt ≤ 2 * sz t
  | 0, t, h, _ => absurd h (Nat.not_lt_zero _)
  | n + 1, t, h, hf => by
    obtain ⟨⟨⟨h1, hz⟩, ho⟩, h2⟩ := (GI t).1 hf
    unfold FQ at h1
    have hs := Th (g := Tr39.cnt) (h := sz) t.un.2.2.2.2 fun x hx => Uy n x (by have := Ub hx; omega) (h2 x hx)
    rw [MY, RT]
    by_cases k : t.un.1 < 2 ∨ 4 < t.un.1
    · rw [if_pos k]; omega
    · rw [if_neg k, hz (by omega)]
      have : (ZP).cnt = 1 := by rw [H3]; rfl
      omega
theorem Td {t : Tr39} (h : XC t) : t.cnt ≤ 128 := by
  have := Uy (SizeOf.sizeOf t + 1) t (by omega) h.1.1
  have := h.1.2.2
  omega
open Classical in
theorem Sr {t : Tp} (hl : t.2.1.length ≤ 30) (hh : t.2.2.length ≤ 12) {x : Tr31} (hc : x.cnt ≤ 1048576) : DS t (pm x) = HH t x ∧ ∃ r, HH t x = some r := by
  have hm := YV x
  unfold DS HH
  rw [Tf, Vu, Lg, MX, Kq, Nj, RF (by omega), RY hc]
  simp only [Option.bind_some]
  by_cases c1 : XI t
  case neg => rw [decide_eq_false c1, if_pos (show (!false) = true by decide), if_pos (show (!false) = true by decide)]; exact ⟨rfl, _, rfl⟩
  case pos =>
    rw [decide_eq_true c1, if_neg (show ¬ (!true) = true by decide), if_neg (show ¬ (!true) = true by decide)]
    by_cases c2 : XC (pm x)
    case neg => rw [decide_eq_false c2, if_pos (show (!false) = true by decide), if_pos (show (!false) = true by decide)]; exact ⟨rfl, _, rfl⟩
    case pos =>
      have hcm := Td c2
      have hf := c2.1.1
      rw [decide_eq_true c2, if_neg (show ¬ (!true) = true by decide), if_neg (show ¬ (!true) = true by decide)]
      obtain ⟨b, b1, b2⟩ := WI (t := t) (by omega) (by omega) (x := pm x) (by omega) hf
      obtain ⟨r1, r2⟩ := Yr (t := t) (by omega) (by omega) hc hf
      rw [b1, Option.bind_some]
      by_cases c3 : TP t (pm x)
      · rw [if_pos (b2.2 c3), r1 c3]; exact ⟨rfl, _, rfl⟩
      · rw [if_neg (fun h => c3 (b2.1 h)), r2 c3, QC (by omega) hf]
        show _ = (Gq x).bind _ ∧ ∃ r, (Gq x).bind _ = some r
        rw [Un hc, Option.bind_some]
        refine ⟨rfl, ?_⟩
        by_cases c4 : 4096 < cl (pm x) 5
        · rw [if_pos c4]; exact ⟨_, rfl⟩
        · rw [if_neg c4]; exact ⟨_, rfl⟩
theorem Uh {α : Type} {l : List α} (h : l.length = 2) : ∃ a b, l = [a, b] := by
  match l, h with
  | [a, b], _ => exact ⟨a, b, rfl⟩
def TQ (k : Int) (p : Tr36) (f v : Int) (L : List Tr39) : Tr39 :=
  match L with
  | [a, b] => if k = 5 ∧ p.un.1 = 1 then a else if k = 5 ∧ p.un.1 = 2 then b else .mk k p f v [a, b]
  | L => .mk k p f v L
def at' (sw : Int) : Tr39 → Tr39
  | .mk k p f v l => TQ k (if k = 1 ∨ k = 5 then ct sw p else p) f v (l.map (at' sw))
abbrev cp (sw : Int) (k : Int) (p : Tr36) : Tr36 := if k = 1 ∨ k = 5 then ct sw p else p
theorem VC (sw : Int) (t : Tr39) : at' sw t = TQ t.un.1 (cp sw t.un.1 t.un.2.1) t.un.2.2.1 t.un.2.2.2.1 (t.un.2.2.2.2.map (at' sw)) := by cases t; rw [at']; rfl
theorem LO {k : Int} {p : Tr36} {f v : Int} {L : List Tr39} (h : k ≠ 5) : TQ k p f v L = .mk k p f v L := by
  unfold TQ
  split
  · rw [if_neg (fun hh => h hh.1), if_neg (fun hh => h hh.1)]
  · rfl
theorem YH (sw : Int) : ∀ (n : Nat) (t : Tr39), SizeOf.sizeOf t < n → t.cnt ≤ 1048576 → C3 n t sw = some (at' sw t)
  | 0, t, h, _ => absurd h (Nat.not_lt_zero _)
  | n + 1, t, h, hc => by
    have hl := lP t
    have hq := qP t
    have hx : ∀ x ∈ t.un.2.2.2.2, C3 n x sw = some (at' sw x) := fun x hm => YH sw n x (by have := Ub hm; omega) (Nat.le_trans (cP hm) hc)
    have hall : AB (Dj (C3 n) t sw) ([], 0) = some (t.un.2.2.2.2.map (at' sw)) := PH t.un.2.2.2.2 (by omega) (at' sw) (Dj (C3 n) t sw) (fun k hk out ho => by
      rw [Dj, if_pos (by omega), Bl (List.getElem?_eq_getElem hk), Option.bind_some, Lg, MX, hx _ (List.getElem_mem hk), Option.bind_some, Lg, MX]) (fun out => by rw [Dj, if_neg (by omega)])
    show D5 (C3 n) t sw = _
    unfold D5
    rw [hall, VC]
    have e1 : (if (decide (t.un.1 = 1) || decide (t.un.1 = 5)) = true then (IW (Tr36.of (t.un.2.1.un.1, t.un.2.1.un.2.1, t.un.2.1.un.2.2.1, t.un.2.1.un.2.2.2)) sw).bind fun x5 => some (x5.un.1, x5.un.2.1, x5.un.2.2.1, x5.un.2.2.2) else some (t.un.2.1.un.1, t.un.2.1.un.2.1, t.un.2.1.un.2.2.1, t.un.2.1.un.2.2.2)) = some (cp sw t.un.1 t.un.2.1).un := by
      rw [Lg, Wl (by omega), Option.bind_some]
      unfold cp
      by_cases c : t.un.1 = 1 ∨ t.un.1 = 5
      · rw [if_pos (by simpa using c), if_pos c]
      · rw [if_neg (by simpa using c), if_neg c]
    rw [e1, Option.bind_some]
    show (if (decide (t.un.1 = 5) && (decide ((t.un.2.2.2.2.length : Int) = 2) && decide ((cp sw t.un.1 t.un.2.1).un.1 = 1))) = true then _ else if (decide (t.un.1 = 5) && (decide ((t.un.2.2.2.2.length : Int) = 2) && decide ((cp sw t.un.1 t.un.2.1).un.1 = 2))) = true then _ else _) = _
    have ofc : Tr36.of ((cp sw t.un.1 t.un.2.1).un.1, (cp sw t.un.1 t.un.2.1).un.2.1, (cp sw t.un.1 t.un.2.1).un.2.2.1, (cp sw t.un.1 t.un.2.1).un.2.2.2) = cp sw t.un.1 t.un.2.1 := Lg _
    generalize cp sw t.un.1 t.un.2.1 = P at ofc ⊢
    by_cases c5 : t.un.1 = 5 ∧ t.un.2.2.2.2.length = 2
    · obtain ⟨a, b, hab⟩ := Uh c5.2
      have ha : C3 n a sw = some (at' sw a) := hx a (by rw [hab]; simp)
      have hb : C3 n b sw = some (at' sw b) := hx b (by rw [hab]; simp)
      rw [hab, show ix [a, b] 0 = some a from Bl (k := 0) rfl, show ix [a, b] 1 = some b from Bl (k := 1) rfl]
      simp only [Option.bind_some]
      rw [Lg, MX, Lg, MX, ha, hb]
      simp only [Option.bind_some]
      show _ = some (TQ t.un.1 P t.un.2.2.1 t.un.2.2.2.1 [at' sw a, at' sw b])
      unfold TQ
      dsimp only
      by_cases p1 : P.un.1 = 1
      · rw [if_pos (by simp [c5.1, p1]), if_pos ⟨c5.1, p1⟩, Lg, MX]
      rw [if_neg (by simp [p1]), if_neg (show ¬ (t.un.1 = 5 ∧ P.un.1 = 1) from fun h => p1 h.2)]
      by_cases p2 : P.un.1 = 2
      · rw [if_pos (by simp [c5.1, p2]), if_pos (show t.un.1 = 5 ∧ P.un.1 = 2 from ⟨c5.1, p2⟩), Lg, MX]
      rw [if_neg (by simp [p2]), if_neg (show ¬ (t.un.1 = 5 ∧ P.un.1 = 2) from fun h => p2 h.2)]
      show some (Tr39.of (t.un.1, Tr36.of (P.un.1, P.un.2.1, P.un.2.2.1, P.un.2.2.2), t.un.2.2.1, t.un.2.2.2.1, _)) = _
      rw [ofc]; rfl
    · have e5 : TQ t.un.1 P t.un.2.2.1 t.un.2.2.2.1 (t.un.2.2.2.2.map (at' sw)) = .mk t.un.1 P t.un.2.2.1 t.un.2.2.2.1 (t.un.2.2.2.2.map (at' sw)) := by
        by_cases k : t.un.1 = 5
        · have hlen : (t.un.2.2.2.2.map (at' sw)).length ≠ 2 := by rw [List.length_map]; exact fun h => c5 ⟨k, h⟩
          unfold TQ
          split
          · rename_i a b hh
            rw [hh] at hlen; exact absurd rfl hlen
          · rfl
        · exact LO k
      rw [if_neg (by simp only [Bool.and_eq_true, decide_eq_true_eq]; omega), if_neg (by simp only [Bool.and_eq_true, decide_eq_true_eq]; omega), Option.bind_some, e5]
      show some (Tr39.of (t.un.1, Tr36.of (P.un.1, P.un.2.1, P.un.2.2.1, P.un.2.2.2), t.un.2.2.1, t.un.2.2.2.1, _)) = _
      rw [ofc]
theorem YA {t : Tr39} (hc : t.cnt ≤ 1048576) (sw : Int) : Ga t sw = some (at' sw t) := CB (g := fun n => C3 n t sw) (fun n r h => IA n t sw r h) (YH sw (SizeOf.sizeOf t + 1) t (by omega) hc)
abbrev Xp (sw : Int) (t : Tr31) : Tr31 := pt (at' sw (pm t))
theorem TD (k : Int) (p : Tr36) (f v : Int) (l : List Tr39) : pt (.mk k p f v l) = Tr31.of (k, th p, f, v, l.map pt) := WS _
theorem WF (sw : Int) : ∀ (n : Nat) (t : Tr31), SizeOf.sizeOf t < n → t.cnt ≤ 1048576 → GA (pm t) = true → EC n t sw = some (Xp sw t)
  | 0, t, h, _, _ => absurd h (Nat.not_lt_zero _)
  | n + 1, t, h, hc, hf => by
    obtain ⟨⟨⟨h1, hz⟩, ho⟩, h2⟩ := (Nw t).1 hf
    unfold FQ at h1
    have hl := lD t
    have hq := qD t
    have hx : ∀ x ∈ t.un.2.2.2.2, EC n x sw = some (Xp sw x) := fun x hm => WF sw n x (by have := We hm; omega) (Nat.le_trans (cD hm) hc) (h2 x hm)
    have e0 : at' sw (pm t) = TQ t.un.1 (cp sw t.un.1 (mi t.un.2.1)) t.un.2.2.1 t.un.2.2.2.1 (t.un.2.2.2.2.map fun x => at' sw (pm x)) := by
      rw [VC, O8]; show TQ _ _ _ _ ((t.un.2.2.2.2.map pm).map (at' sw)) = _; rw [List.map_map]; rfl
    show Gn (EC n) t sw = some (pt (at' sw (pm t)))
    rw [e0]
    unfold Gn
    by_cases c1 : t.un.1 = 1
    · have he : t.un.2.2.2.2 = [] := List.length_eq_zero_iff.1 (by omega)
      rw [if_pos c1, Kq, SY (by omega) (ho (.inl c1)).1, Option.bind_some, LO (by omega), TD, he, show cp sw t.un.1 (mi t.un.2.1) = ct sw (mi t.un.2.1) from if_pos (.inl c1), c1, (h1.2.2.1 (by omega)).1, (h1.2.2.1 (by omega)).2]; rfl
    rw [if_neg c1]
    by_cases c2 : t.un.1 = 2
    · have he : t.un.2.2.2.2 = [] := List.length_eq_zero_iff.1 (by omega)
      rw [if_pos c2, Kq, LO (by omega), TD, he, show cp sw t.un.1 (mi t.un.2.1) = mi t.un.2.1 from if_neg (by omega), th_mi']; rfl
    rw [if_neg c2]
    by_cases c5 : t.un.1 = 5
    · obtain ⟨a, b, hab⟩ := Uh (h1.2.2.2.2.2.1 c5)
      have ha : EC n a sw = some (Xp sw a) := hx a (by rw [hab]; simp)
      have hb : EC n b sw = some (Xp sw b) := hx b (by rw [hab]; simp)
      rw [if_pos c5, Kq, SY (by omega) (ho (.inr c5)).1, Option.bind_some, hab, show ix [a, b] 0 = some a from Bl (k := 0) rfl, show ix [a, b] 1 = some b from Bl (k := 1) rfl]
      simp only [Option.bind_some]
      rw [Kq, Nj, Kq, Nj, ha, hb]
      simp only [Option.bind_some]
      rw [show cp sw t.un.1 (mi t.un.2.1) = ct sw (mi t.un.2.1) from if_pos (.inr c5), Xk]
      show _ = some (pt (TQ t.un.1 (ct sw (mi t.un.2.1)) t.un.2.2.1 t.un.2.2.2.1 [at' sw (pm a), at' sw (pm b)]))
      unfold TQ
      dsimp only
      by_cases p1 : (ct sw (mi t.un.2.1)).un.1 = 1
      · rw [if_pos p1, if_pos ⟨c5, p1⟩, Kq, Nj]
      rw [if_neg p1, if_neg (show ¬ (t.un.1 = 5 ∧ (ct sw (mi t.un.2.1)).un.1 = 1) from fun h => p1 h.2)]
      by_cases p2 : (ct sw (mi t.un.2.1)).un.1 = 2
      · rw [if_pos p2, if_pos (show t.un.1 = 5 ∧ (ct sw (mi t.un.2.1)).un.1 = 2 from ⟨c5, p2⟩), Kq, Nj]
      rw [if_neg p2, if_neg (show ¬ (t.un.1 = 5 ∧ (ct sw (mi t.un.2.1)).un.1 = 2) from fun h => p2 h.2), TD, Kq, Nj, Kq, Nj, c5, (h1.2.2.1 (by omega)).1, (h1.2.2.1 (by omega)).2]; rfl
    rw [if_neg c5]
    have hall : AB (EQ (EC n) t sw) (0, []) = some (t.un.2.2.2.2.map (Xp sw)) := loop_copy' t.un.2.2.2.2 (by omega) (Xp sw) (EQ (EC n) t sw) (fun k hk out ho => by
      rw [EQ, if_pos (by omega), Bl (List.getElem?_eq_getElem hk), Option.bind_some, Kq, Nj, hx _ (List.getElem_mem hk), Option.bind_some, Kq, Nj]) (fun out => by rw [EQ, if_neg (by omega)])
    rw [hall, Option.bind_some, LO c5, TD, show cp sw t.un.1 (mi t.un.2.1) = mi t.un.2.1 from if_neg (by omega), hz (by omega), (h1.2.2.1 (by omega)).1, (h1.2.2.1 (by omega)).2, List.map_map]
    have hzz : th ZP = ZD := by rw [← WV, th_mi']
    rw [hzz]; rfl
theorem Xc {t : Tr31} (hc : t.cnt ≤ 1048576) (hf : GA (pm t) = true) (sw : Int) : SG t sw = some (Xp sw t) := CB (g := fun n => EC n t sw) (fun n r h => ME n t sw r h) (WF sw (SizeOf.sizeOf t + 1) t (by omega) hc hf)
theorem R1 : ∀ (n : Nat) (t : Tr31), SizeOf.sizeOf t < n → t.cnt ≤ 1048576 → EK n t t = some true
  | 0, t, h, _ => absurd h (Nat.not_lt_zero _)
  | n + 1, t, h, hc => by
    have hl := lD t
    have hq := qD t
    show Fa (EK n) t t = _
    unfold Fa
    rw [if_neg (fun h => h rfl), if_neg (fun h => h rfl), if_neg (fun h => h rfl), Kq, Ra (by omega), Option.bind_some, if_neg (by rw [@decide_eq_true _ (_) rfl]; decide), Option.bind_some, if_neg (by simp), Gp t.un.2.2.2.2 (by omega) (E8 (EK n) t t) (fun _ => False) false (fun k hk => by
      have hm := List.getElem_mem hk
      rw [E8, if_pos (by omega), Bl (List.getElem?_eq_getElem hk), Option.bind_some, Option.bind_some, Kq, Nj, R1 n _ (by have := We hm; omega) (Nat.le_trans (cD hm) hc), Option.bind_some, if_neg (by decide), if_neg id]) (by rw [E8, if_neg (by omega)]), if_neg (by simp)]; rfl
theorem Xh {t : Tr31} (hc : t.cnt ≤ 1048576) : NG t t = some true := CB (g := fun n => EK n t t) (fun n r h => Kx n t t r h) (R1 (SizeOf.sizeOf t + 1) t (by omega) hc)
theorem U2 : ∀ (n : Nat) (t : Tr39), SizeOf.sizeOf t < n → (pt t).cnt = t.cnt
  | 0, t, h => absurd h (Nat.not_lt_zero _)
  | n + 1, t, h => by
    rw [MY, T2, Yu]
    show 1 + ((th t.un.2.1).cnt + ((t.un.2.2.2.2.map pt).map Tr31.cnt).sum) = _
    rw [List.map_map, UP (SizeOf.sizeOf t.un.2.1 + 1) _ (by omega)]
    congr 3
    exact List.map_congr_left fun x hx => U2 n x (by have := Ub hx; omega)
theorem UM (sw : Int) : ∀ (n : Nat) (t : Tr39), SizeOf.sizeOf t < n → GA t = true → (at' sw t).cnt ≤ t.cnt
  | 0, t, h, _ => absurd h (Nat.not_lt_zero _)
  | n + 1, t, h, hf => by
    obtain ⟨⟨⟨h1, hz⟩, ho⟩, h2⟩ := (GI t).1 hf
    have hs := sum_mono' (g := fun x => (at' sw x).cnt) (h := Tr39.cnt) t.un.2.2.2.2 fun x hx => UM sw n x (by have := Ub hx; omega) (h2 x hx)
    have hP : (cp sw t.un.1 t.un.2.1).cnt ≤ t.un.2.1.cnt := by
      unfold cp
      by_cases c : t.un.1 = 1 ∨ t.un.1 = 5
      · rw [if_pos c]
        exact (QQ 0 (0, 0, 0, 0) sw (SizeOf.sizeOf t.un.2.1 + 1) t.un.2.1 (by omega) (ho c).1).size
      · rw [if_neg c]; exact Nat.le_refl _
    have mk : ∀ (k : Int) (p : Tr36) (f v : Int) (l : List Tr39), (Tr39.mk k p f v l).cnt = 1 + (p.cnt + (l.map Tr39.cnt).sum) := fun k p f v l => MY (.mk k p f v l)
    have hmap : ((t.un.2.2.2.2.map (at' sw)).map Tr39.cnt).sum ≤ (t.un.2.2.2.2.map Tr39.cnt).sum := by rw [List.map_map]; exact hs
    rw [VC, MY t]
    unfold TQ
    split
    · rename_i a b hab
      rw [hab] at hmap
      simp only [List.map_cons, List.map_nil, List.sum_cons, List.sum_nil] at hmap
      split
      · omega
      · split
        · omega
        · rw [mk]; simp only [List.map_cons, List.map_nil, List.sum_cons, List.sum_nil]; omega
    · rw [mk]; omega
abbrev PA : Tr36 := Tr36.of (3, 5, 2, [])
abbrev PB : Tr36 := Tr36.of (3, 1, 1, [])
abbrev PC : Tr36 := Tr36.of (5, 0, 0, [PA, PB])
abbrev T0 : Tr39 := Tr39.of (1, PC, 0, 0, [])
theorem cS : FY PC = true := by
  refine (FP _).2 ⟨by decide, fun x hx => ?_⟩
  rcases List.mem_cons.1 hx with rfl | hx
  · exact (FP _).2 ⟨by decide, fun x hx => by cases hx⟩
  · rw [List.mem_singleton.1 hx]; exact (FP _).2 ⟨by decide, fun x hx => by cases hx⟩
theorem Yz : T0.cnt = 4 := by simp [T0, PC, PA, PB, Tr39.of, Tr36.of, Tr39.cnt, Tr36.cnt]
theorem Yg : PC.cnt = 3 := by simp [PC, PA, PB, Tr36.of, Tr36.cnt]
theorem bF : dp PC = 2 := by simp [PC, PA, PB, Tr36.of, dp, mx]
theorem bN : dq T0 = 1 := by simp [T0, Tr39.of, dq, mx]
theorem bK : sz T0 = 4 := by
  rw [RT]
  show 1 + (if (1 : Int) < 2 ∨ 4 < (1 : Int) then PC.cnt else 0) + 0 = 4
  rw [if_pos (by decide), Yg]
theorem Zm : wd T0 = 1 := by
  rw [Tr]
  exact if_neg (by decide)
theorem Wx (f : Int) : us f T0 = (if (3 : Int) = 3 ∧ (5 : Int) = f then [2] else []) ++ (if (3 : Int) = 3 ∧ (1 : Int) = f then [1] else []) := by
  simp [T0, PC, PA, PB, Tr39.of, Tr36.of, us, EL]
theorem VV : XC T0 := ⟨⟨(GI _).2 ⟨⟨⟨by decide, fun h => (by rcases h with h | h | h <;> cases h)⟩, fun _ => ⟨cS, by show (dp PC : Int) ≤ 8; rw [bF]; decide, by show (PC.cnt : Int) ≤ 64; rw [Yg]; decide⟩⟩, fun x hx => (by cases hx)⟩, by rw [bN]; decide, by rw [bK]; decide⟩, by rw [Zm]; decide⟩
theorem Vw (f : Int) (L : List Int) (h : us f T0 = L) : len f T0 = (((List.range ((CP f).toNat + 1)).map fun (j : Nat) => (j : Int)).filter fun x => decide (x ∈ L)).length := by subst h; rfl
theorem Z5 : cl T0 5 = 2 := by
  have l0 : len 0 T0 = 0 := (Vw 0 [] (Wx 0)).trans (by decide +kernel)
  have l1 : len 1 T0 = 1 := (Vw 1 [1] (Wx 1)).trans (by decide +kernel)
  have l2 : len 2 T0 = 0 := (Vw 2 [] (Wx 2)).trans (by decide +kernel)
  have l3 : len 3 T0 = 0 := (Vw 3 [] (Wx 3)).trans (by decide +kernel)
  have l4 : len 4 T0 = 0 := (Vw 4 [] (Wx 4)).trans (by decide +kernel)
  have e : ∀ i : Nat, cl T0 (i + 1) = min (cl T0 i * ((len i T0 : Nat) + 1 : Int)) 100000 := fun _ => rfl
  rw [e 4, e 3, e 2, e 1, e 0, show ((4 : Nat) : Int) = 4 from rfl, show ((3 : Nat) : Int) = 3 from rfl, show ((2 : Nat) : Int) = 2 from rfl, show ((1 : Nat) : Int) = 1 from rfl, show ((0 : Nat) : Int) = 0 from rfl, l0, l1, l2, l3, l4, show cl T0 0 = 1 from rfl]
  decide
theorem Ui (n : Int) (h : 1 ≤ n ∧ n ≤ 8) : DS (n, [], []) T0 = some (if n ≤ 2 then 13 else 0) := by
  have hO : XI (n, [], []) := ⟨⟨h.1, h.2, Nat.zero_le _, Nat.zero_le _⟩, fun l hl => (by cases hl), fun l hl => (by cases hl)⟩
  have hc : T0.cnt ≤ 1000 := by rw [Yz]; decide
  obtain ⟨b, b1, b2⟩ := WI (t := (n, [], [])) (Nat.zero_le _) (Nat.zero_le _) hc VV.1.1
  have hL : TP (n, [], []) T0 ↔ n ≤ 2 := by
    constructor
    · rintro (⟨v, hv, _⟩ | ⟨v, hv, hn⟩)
      · exact absurd hv (by rw [show us 4 T0 = [] from Wx 4]; simp)
      · rw [show us 5 T0 = [2] from Wx 5, List.mem_singleton] at hv
        subst hv; exact hn
    · exact fun hn => .inr ⟨2, by rw [show us 5 T0 = [2] from Wx 5]; simp, hn⟩
  unfold DS
  rw [Tf, decide_eq_true hO, Option.bind_some, if_neg (by decide), Lg, MX, RF (by omega), @decide_eq_true _ (_) VV, Option.bind_some, if_neg (by decide), b1, Option.bind_some]
  by_cases c : n ≤ 2
  · rw [if_pos (b2.2 (hL.2 c)), if_pos c]
  · rw [if_neg (fun h => c (hL.1 (b2.1 h))), if_neg c, QC hc VV.1.1, Z5]; rfl
theorem QE : Hf = some true := by
  have a1 : Ga T0 2 = some (Tr39.of (1, PB, 0, 0, [])) := MC 100 T0 2 _ (by kernel_rfl)
  have a2 : Ga T0 1 = some (Tr39.of (1, Tr36.of (2, 0, 0, []), 0, 0, [])) := MC 100 T0 1 _ (by kernel_rfl)
  have b1 : E9 (Tr39.of (1, PB, 0, 0, [])) = some [119, 104, 101, 110, 32, 100, 115, 116, 32, 61, 32, 49] := J6 100 _ _ (by kernel_rfl)
  have b2 : E9 (Tr39.of (1, Tr36.of (2, 0, 0, []), 0, 0, [])) = some [100, 114, 111, 112] := J6 100 _ _ (by kernel_rfl)
  have c1 : Ev T0 = some 2 := by rw [QC (by rw [Yz]; decide) VV.1.1, Z5]
  unfold Hf
  rw [show Ga _ 2 = _ from a1, Option.bind_some, Lg, MX, show E9 _ = _ from b1, Option.bind_some, if_pos rfl, show Ga _ 1 = _ from a2, Option.bind_some, Lg, MX, show E9 _ = _ from b2, Option.bind_some, if_pos rfl, show Ev _ = _ from c1, Option.bind_some, if_pos rfl, show DS (3, [], []) _ = _ from Ui 3 (by decide), Option.bind_some, if_pos (by decide), show DS (2, [], []) _ = _ from Ui 2 (by decide), Option.bind_some]
  rfl
theorem M3 (p0 : Tp) {A : Prop} (_ : A) (p1 : Tr31) (ok1 : p1.cnt ≤ 1048576) (p2 : Int) {B : Prop} (_ : B) (p3 : Int) {C : Prop} (_ : C) : GE p0 p1 p2 p3 = some true := by
  have hm := YV p1
  have hs : ∃ b, IZ p0 p1 = some b ∧ (b = true → p0.2.1.length ≤ 30 ∧ p0.2.2.length ≤ 12) := by
    unfold IZ
    rw [Kq, Nj, NQ ok1]
    by_cases a : (p0.2.1.length : Int) ≤ 30
    · rw [if_pos a]
      by_cases b : (p0.2.2.length : Int) ≤ 12
      · rw [if_pos b]; exact ⟨_, rfl, fun _ => by omega⟩
      · rw [if_neg b]; exact ⟨false, rfl, fun h => nomatch h⟩
    · rw [if_neg a]; exact ⟨false, rfl, fun h => nomatch h⟩
  obtain ⟨b, b1, b2⟩ := hs
  unfold GE
  rw [Kq, Nj, b1, Option.bind_some]
  cases b with
  | false => rw [if_pos (by decide), QE]; rfl
  | true =>
    obtain ⟨hl, hh⟩ := b2 rfl
    obtain ⟨e, r, hr⟩ := Sr hl hh ok1
    rw [if_neg (by decide), Ux ok1, Option.bind_some, Lg, MX, e, hr]
    simp only [Option.bind_some]
    rw [if_neg (fun h => h rfl), Up (by omega) (by omega), Uj (by omega) (by omega)]
    simp only [Option.bind_some]
    rw [if_neg (by simp), RY ok1, Option.bind_some]
    by_cases ok : XC (pm p1)
    case neg => rw [@decide_eq_false _ (_) ok, if_pos (by decide), QE]; rfl
    case pos =>
      have hc := Td ok
      have hf := ok.1.1
      have hac := UM p3 (SizeOf.sizeOf (pm p1) + 1) (pm p1) (by omega) hf
      have hpc := U2 (SizeOf.sizeOf (at' p3 (pm p1)) + 1) (at' p3 (pm p1)) (by omega)
      rw [@decide_eq_true _ (_) ok, if_neg (by decide), QC (by omega) hf, Un ok1, Option.bind_some, Option.bind_some]
      rw [if_pos rfl, YA (by omega), Option.bind_some, Lg, MX, SD (by omega), Option.bind_some, Xc ok1 hf, Option.bind_some, Kq, Nj, Xh (by omega), Option.bind_some, if_pos rfl, QE]; rfl
end Go.Proofs.YtgoifghhcekahaaGreatDoor
