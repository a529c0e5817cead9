/- Layer 40: whole texts, the two parsers. Conditions: none. -/
import Derived.Test.YthmkgdnnocemmaaGreatDoorbM40V
namespace Go.Proofs.YthmkgdnnocemmaaGreatDoor
set_option linter.unusedVariables false
set_option linter.unusedSimpArgs false
open Go Go.RowKit
theorem Nk : ∀ (M : List (List UInt8)) (a : Nat), (jn (M.drop a)).length ≤ (jn M).length
  | M, 0 => by rw [List.drop_zero]; exact Nat.le_refl _
  | [], a + 1 => by simp [jn]
  | [t], a + 1 => by simp [jn]
  | x :: y :: r, a + 1 => by
    have := Nk (y :: r) a
    rw [List.drop_succ_cons]
    show _ ≤ (x ++ 10 :: jn (y :: r)).length
    simp; omega
theorem LG {L : List (List UInt8)} (hL : Ls L) (a : Nat) (h : a < L.length) (h2 : a + 1 < L.length) (w : List UInt8) :
    (∃ ns, ns.length ≤ 3000 ∧ Ba L (a : Int) w = some true ∧ Dn L[a] (-1) = some (ns, true) ∧ AG (jn (L.drop a), ((a + 1 : Nat) : Int)) w (-1) = some (.inl (ns, jn (L.drop (a + 1)), ((a + 1 + 1 : Nat) : Int)))) ∨
    ((Ba L (a : Int) w = some false ∨ (Ba L (a : Int) w = some true ∧ ∃ l, Dn L[a] (-1) = some (l, false))) ∧ ∃ t, AG (jn (L.drop a), ((a + 1 : Nat) : Int)) w (-1) = some (.inr (((a + 1 : Nat) : Int), t))) := by
  have hxa := hL.ok _ (List.getElem_mem h)
  have hn := hL.n
  rcases HY h with ⟨e1, e2⟩ | ⟨e1, e2⟩
  · omega
  · have hs := hL.s a
    rw [e2] at hs ⊢
    have hw := Hs hL h e1 w
    have hp := Gz hxa.1 hs ((a + 1 : Nat) : Int) w (-1)
    by_cases c : hd L[a] = w
    · rw [decide_eq_true c] at hw
      obtain ⟨ns, b, g1, g2⟩ := IB (x := L[a]) (w := w) (c := -1) (by omega) (by decide)
      have g2 := g2 c
      cases b with
      | true =>
        left
        rw [if_pos rfl] at g2
        rw [g2] at hp
        refine ⟨ns, by have := (HE g2).1; omega, hw, g1, ?_⟩
        rw [hp, Bx (by omega), show ((a + 1 : Nat) : Int) + 1 = ((a + 1 + 1 : Nat) : Int) from by omega]
      | false =>
        right
        rw [if_neg (by decide)] at g2
        rw [g2] at hp
        exact ⟨.inr ⟨hw, ns, g1⟩, _, hp⟩
    · right
      rw [decide_eq_false c] at hw
      rw [Oo c] at hp
      exact ⟨.inl hw, _, hp⟩
theorem DR : Sz DX := ⟨Nat.zero_le _, Nat.zero_le _, Nat.zero_le _, Nat.zero_le _, fun x h => by cases h⟩
set_option maxHeartbeats 1000000 in
theorem Ot {s : List UInt8} (hs : s.length ≤ 2000) : ∃ c n e, DF s = some (c, n, e) ∧ GD s = some (c, n, e) ∧ Sz c := by
  obtain ⟨L, hLd⟩ : ∃ L, L = Lib.split s [10] := ⟨_, rfl⟩
  obtain ⟨n1, n2, n3, n4⟩ := LV (s.length + 1) s (Nat.lt_succ_self _)
  have hrl := Rb (s := s) (by omega)
  rw [← hLd] at n1 n2 n3 n4 hrl
  have hL : Ls L := ⟨by omega, fun x hx => ⟨(n3 x hx).1, by have := (n3 x hx).2; omega⟩, fun a => by have := Nk L a; rw [n2] at this; omega⟩
  have hn := hL.n
  have h0 : 0 < L.length := List.length_pos_iff.2 n1
  have w1 : ∀ a : Nat, a ≤ 3010 → BD ((a : Int) + 1) = ((a + 1 : Nat) : Int) := fun a h => by rw [Bx (by omega)]; omega
  have w2 : ∀ a : Nat, a ≤ 3010 → BD ((a : Int) + 2) = ((a + 1 + 1 : Nat) : Int) := fun a h => by rw [Bx (by omega)]; omega
  unfold DF GD
  simp only [Ab, BV]
  rw [hrl, Option.bind_some, show ix L 0 = some L[0] from AQ (k := 0) (List.getElem?_eq_getElem h0), Option.bind_some]
  have hs0 : s = jn (L.drop 0) := by rw [List.drop_zero, n2]
  obtain ⟨i0, ib, hi0, _⟩ := IB (x := L[0]) (w := []) (c := 1) (by have := (hL.ok _ (List.getElem_mem h0)).2; omega) (by decide)
  rcases LK hL 0 h0 [115, 119, 105, 116, 99, 104, 101, 115] with ⟨v, g1, g2, g3, g4, g5⟩ | ⟨g1, t, g2⟩
  case inr =>
    refine ⟨DX, 1, 10, ?_, ?_, DR⟩
    · rw [hs0, show Aq (jn (L.drop 0), 1) _ = _ from g2]; rfl
    · rcases g1 with g1 | ⟨g1, l, g3⟩
      · rw [hi0, Option.bind_some, show Ba L 0 _ = _ from g1]; rfl
      · rw [g3, Option.bind_some, show Ba L 0 _ = _ from g1]; rfl
  rw [g4, Option.bind_some, show Ba L 0 _ = _ from g3, hs0, show Aq (jn (L.drop 0), 1) _ = _ from g5]
  simp only [Option.bind_some, Cq]
  rw [if_neg (show ¬ (!true) = true from by decide), Option.bind_some, if_neg (show ¬ (!true) = true from by decide), show ix [v] 0 = some v from AQ (k := 0) rfl, Option.bind_some]
  unfold HD
  rcases HG hL (w := DE) (rd := Rt) (okA := fun _ => True) (SO (v, jn (L.drop (0 + 1)), ((0 + 1 + 1 : Nat) : Int))) (SL (v, jn (L.drop (0 + 1)), ((0 + 1 + 1 : Nat) : Int))) (S1 hL ((v, [], []), [], [], 0, 0, 0, 0, 0, 0)) (SZ hL ((v, [], []), [], [], 0, 0, 0, 0, 0, 0)) (fun _ _ _ _ => trivial) (L.length - 2) 1 [] (by omega) (Nat.zero_le _) (fun y h => by cases h) with ⟨a1, li, b1, c1, _, k1, m1⟩ | ⟨a1, cc, b1, k1, m1⟩ | ⟨a1, li, b1, k1, m1⟩
  case inr.inl =>
    refine ⟨DX, ((a1 + 1 : Nat) : Int), 10, ?_, ?_, DR⟩
    · rw [show Av (Cb (v, jn (L.drop (0 + 1)), ((0 + 1 + 1 : Nat) : Int))) (jn (L.drop (0 + 1)), ((0 + 1 + 1 : Nat) : Int), []) = _ from k1]; rfl
    · rw [show Av (Cp L ((v, [], []), [], [], 0, 0, 0, 0, 0, 0)) (1, []) = _ from m1, ← w1 a1 (by omega)]; rfl
  case inr.inr =>
    refine ⟨DX, ((a1 + 1 : Nat) : Int), 10, ?_, ?_, DR⟩
    · rw [show Av (Cb (v, jn (L.drop (0 + 1)), ((0 + 1 + 1 : Nat) : Int))) (jn (L.drop (0 + 1)), ((0 + 1 + 1 : Nat) : Int), []) = _ from k1]; rfl
    · rw [show Av (Cp L ((v, [], []), [], [], 0, 0, 0, 0, 0, 0)) (1, []) = _ from m1, C0]
      dsimp only
      rw [AN (Si hL ((v, [], []), [], [], 0, 0, 0, 0, 0, 0) li a1 [] b1), C0]
      dsimp only
      rw [AN (Q7 hL ((v, [], []), [], [], 0, 0, 0, 0, 0, 0) li [] a1 [] b1), C0, Option.bind_some]
      dsimp only
      rw [if_neg (show ¬ (!true) = true from by decide), show Ba L (a1 : Int) _ = _ from F7 hL b1 [115, 116, 97, 114, 116, 115], ← w1 a1 (by omega)]; rfl
  rw [show Av (Cb (v, jn (L.drop (0 + 1)), ((0 + 1 + 1 : Nat) : Int))) (jn (L.drop (0 + 1)), ((0 + 1 + 1 : Nat) : Int), []) = _ from k1, show Av (Cp L ((v, [], []), [], [], 0, 0, 0, 0, 0, 0)) (1, []) = _ from m1, C0, C0]
  dsimp only
  rcases HG hL (w := DD) (rd := RA) (okA := fun _ => True) (SM (v, jn (L.drop (0 + 1)), ((0 + 1 + 1 : Nat) : Int)) li) (SC (v, jn (L.drop (0 + 1)), ((0 + 1 + 1 : Nat) : Int)) li) (Si hL ((v, [], []), [], [], 0, 0, 0, 0, 0, 0) li) (SH hL ((v, [], []), [], [], 0, 0, 0, 0, 0, 0) li) (fun _ _ _ _ => trivial) (L.length - 1 - a1) a1 [] (by omega) (Nat.zero_le _) (fun y h => by cases h) with ⟨a2, ho, b2, c2, _, k2, m2⟩ | ⟨a2, cc, b2, k2, m2⟩ | ⟨a2, ho, b2, k2, m2⟩
  case inr.inl =>
    refine ⟨DX, ((a2 + 1 : Nat) : Int), 10, ?_, ?_, DR⟩
    · rw [k2]; rfl
    · rw [m2, ← w1 a2 (by omega)]; rfl
  case inr.inr =>
    refine ⟨DX, ((a2 + 1 : Nat) : Int), 10, ?_, ?_, DR⟩
    · rw [k2]; rfl
    · rw [m2, C0]
      dsimp only
      rw [AN (Q7 hL ((v, [], []), [], [], 0, 0, 0, 0, 0, 0) li ho a2 [] b2), C0, Option.bind_some]
      dsimp only
      rw [if_neg (show ¬ (!true) = true from by decide), show Ba L (a2 : Int) _ = _ from F7 hL b2 [115, 116, 97, 114, 116, 115], ← w1 a2 (by omega)]; rfl
  rw [k2, m2, C0, C0]
  dsimp only
  rcases HG hL (w := DO) (rd := Ok DO) (okA := fun y => y.length ≤ 3000) (SA (v, jn (L.drop (0 + 1)), ((0 + 1 + 1 : Nat) : Int)) li ho) (Sx (v, jn (L.drop (0 + 1)), ((0 + 1 + 1 : Nat) : Int)) li ho) (Q7 hL ((v, [], []), [], [], 0, 0, 0, 0, 0, 0) li ho) (SX hL ((v, [], []), [], [], 0, 0, 0, 0, 0, 0) li ho) (fun x y hx hy => by have := Ql hy; omega) (L.length - 1 - a2) a2 [] (by omega) (Nat.zero_le _) (fun y h => by cases h) with ⟨a3, we, b3, c3, d3, k3, m3⟩ | ⟨a3, cc, b3, k3, m3⟩ | ⟨a3, we, b3, k3, m3⟩
  case inr.inl =>
    refine ⟨DX, ((a3 + 1 : Nat) : Int), 10, ?_, ?_, DR⟩
    · rw [k3]; rfl
    · rw [m3, ← w1 a3 (by omega)]; rfl
  case inr.inr =>
    refine ⟨DX, ((a3 + 1 : Nat) : Int), 10, ?_, ?_, DR⟩
    · rw [k3]; rfl
    · rw [m3, C0, Option.bind_some]
      dsimp only
      rw [if_neg (show ¬ (!true) = true from by decide), show Ba L (a3 : Int) _ = _ from F7 hL b3 [115, 116, 97, 114, 116, 115], ← w1 a3 (by omega)]; rfl
  rw [k3, m3, C0, C0, Option.bind_some]
  dsimp only
  have h3 : a3 < L.length := by omega
  rw [if_neg (show ¬ (!true) = true from by decide)]
  rcases LG hL a3 h3 b3 [115, 116, 97, 114, 116, 115] with ⟨st, q0, q1, q2, q3⟩ | ⟨q1, t, q3⟩
  case inr =>
    refine ⟨DX, ((a3 + 1 : Nat) : Int), 10, ?_, ?_, DR⟩
    · rw [q3]; rfl
    · rcases q1 with q1 | ⟨q1, l, q2⟩
      · rw [q1, ← w1 a3 (by omega)]; rfl
      · rw [q1, Option.bind_some, Option.bind_some, if_neg (show ¬ (!true) = true from by decide), AQ (List.getElem?_eq_getElem h3), Option.bind_some, q2, ← w1 a3 (by omega)]; rfl
  rw [q3, q1, Option.bind_some, Option.bind_some, Option.bind_some, if_neg (show ¬ (!true) = true from by decide), AQ (List.getElem?_eq_getElem h3), Option.bind_some, q2, Option.bind_some, if_neg (show ¬ (!true) = true from by decide)]
  simp only [Cq]
  -- the six lines
  rcases FU hL a3 0 [] (by decide) (Nat.zero_le _) [114, 97, 116, 101] rfl b3 with ⟨v5, f5, e5, p5⟩ | ⟨e5, t, p5⟩
  case inr => exact ⟨DX, ((a3 + 1 + 1 : Nat) : Int), 10, by rw [p5]; rfl, by rw [show Av (A2 L) ((a3 : Int), [], 0) = _ from AN e5]; rfl, DR⟩
  rw [p5, Option.bind_some, show Av (A2 L) ((a3 : Int), [], 0) = _ from BZ e5]
  simp only [Cq, List.nil_append]
  rcases FU hL (a3 + 1) 1 [v5] (by decide) (by simp) [114, 111, 111, 109] rfl f5 with ⟨v6, f6, e6, p6⟩ | ⟨e6, t, p6⟩
  case inr => exact ⟨DX, _, 10, by rw [p6]; rfl, by rw [show Av (A2 L) (((a3 + 1 : Nat) : Int), [v5], ((0 + 1 : Nat) : Int)) = _ from AN e6]; rfl, DR⟩
  rw [p6, Option.bind_some, show Av (A2 L) (((a3 + 1 : Nat) : Int), [v5], ((0 + 1 : Nat) : Int)) = _ from BZ e6]
  simp only [Cq, List.cons_append, List.nil_append]
  rcases FU hL (a3 + 1 + 1) 2 [v5, v6] (by decide) (by simp) [119, 105, 100, 101] rfl f6 with ⟨v7, f7, e7, p7⟩ | ⟨e7, t, p7⟩
  case inr => exact ⟨DX, _, 10, by rw [p7]; rfl, by rw [show Av (A2 L) (((a3 + 1 + 1 : Nat) : Int), [v5, v6], ((1 + 1 : Nat) : Int)) = _ from AN e7]; rfl, DR⟩
  rw [p7, Option.bind_some, show Av (A2 L) (((a3 + 1 + 1 : Nat) : Int), [v5, v6], ((1 + 1 : Nat) : Int)) = _ from BZ e7]
  simp only [Cq, List.cons_append, List.nil_append]
  rcases FU hL (a3 + 1 + 1 + 1) 3 [v5, v6, v7] (by decide) (by simp) [108, 101, 97, 100] rfl f7 with ⟨v8, f8, e8, p8⟩ | ⟨e8, t, p8⟩
  case inr => exact ⟨DX, _, 10, by rw [p8]; rfl, by rw [show Av (A2 L) (((a3 + 1 + 1 + 1 : Nat) : Int), [v5, v6, v7], ((2 + 1 : Nat) : Int)) = _ from AN e8]; rfl, DR⟩
  rw [p8, Option.bind_some, show Av (A2 L) (((a3 + 1 + 1 + 1 : Nat) : Int), [v5, v6, v7], ((2 + 1 : Nat) : Int)) = _ from BZ e8]
  simp only [Cq, List.cons_append, List.nil_append]
  rcases FU hL (a3 + 1 + 1 + 1 + 1) 4 [v5, v6, v7, v8] (by decide) (by simp) [109, 97, 114, 103, 105, 110] rfl f8 with ⟨v9, f9, e9, p9⟩ | ⟨e9, t, p9⟩
  case inr => exact ⟨DX, _, 10, by rw [p9]; rfl, by rw [show Av (A2 L) (((a3 + 1 + 1 + 1 + 1 : Nat) : Int), [v5, v6, v7, v8], ((3 + 1 : Nat) : Int)) = _ from AN e9]; rfl, DR⟩
  rw [p9, Option.bind_some, show Av (A2 L) (((a3 + 1 + 1 + 1 + 1 : Nat) : Int), [v5, v6, v7, v8], ((3 + 1 : Nat) : Int)) = _ from BZ e9]
  simp only [Cq, List.cons_append, List.nil_append]
  rcases FU hL (a3 + 1 + 1 + 1 + 1 + 1) 5 [v5, v6, v7, v8, v9] (by decide) (by simp) [114, 101, 116, 114, 121] rfl f9 with ⟨vt, ft, et, pt⟩ | ⟨et, t, pt⟩
  case inr => exact ⟨DX, _, 10, by rw [pt]; rfl, by rw [show Av (A2 L) (((a3 + 1 + 1 + 1 + 1 + 1 : Nat) : Int), [v5, v6, v7, v8, v9], ((4 + 1 : Nat) : Int)) = _ from AN et]; rfl, DR⟩
  have efin : Av (A2 L) (((a3 + 1 + 1 + 1 + 1 + 1 + 1 : Nat) : Int), [v5, v6, v7, v8, v9, vt], ((5 + 1 : Nat) : Int)) = some (.inl (((a3 + 1 + 1 + 1 + 1 + 1 + 1 : Nat) : Int), [v5, v6, v7, v8, v9, vt])) := AN (by rw [A2, if_neg (by decide)])
  rw [pt, Option.bind_some, show Av (A2 L) (((a3 + 1 + 1 + 1 + 1 + 1 : Nat) : Int), [v5, v6, v7, v8, v9], ((4 + 1 : Nat) : Int)) = _ from (BZ et).trans efin, C0]
  simp only [Cq, Option.bind_some]
  generalize hb : a3 + 1 + 1 + 1 + 1 + 1 + 1 = b at *
  have hbl : b + 1 < L.length := by omega
  have hne : L.drop (b + 1) ≠ [] := fun h => by have := congrArg List.length h; rw [List.length_drop] at this; simp at this; omega
  have hj := Rm hne
  have hgb : L[b + 1]? = some (L[b + 1]'hbl) := List.getElem?_eq_getElem hbl
  have hix : ix L ((b + 1 : Nat) : Int) = some (L[b + 1]'hbl) := AQ hgb
  have hsz : Sz (((v, li, ho), we, st, v5, v6, v7, v8, v9, vt) : Js) := ⟨by show li.length ≤ 3000; omega, by show ho.length ≤ 3000; omega, by show we.length ≤ 3000; omega, q0, d3⟩
  have r6 : ∀ (k : Nat) (hk : k < 6), ix [v5, v6, v7, v8, v9, vt] ((k : Nat) : Int) = some ([v5, v6, v7, v8, v9, vt][k]'hk) := fun k hk => AQ (List.getElem?_eq_getElem hk)
  rw [show ix [v5, v6, v7, v8, v9, vt] 0 = some v5 from r6 0 (by decide), Option.bind_some, show ix [v5, v6, v7, v8, v9, vt] 1 = some v6 from r6 1 (by decide), Option.bind_some, show ix [v5, v6, v7, v8, v9, vt] 2 = some v7 from r6 2 (by decide), Option.bind_some, show ix [v5, v6, v7, v8, v9, vt] 3 = some v8 from r6 3 (by decide), Option.bind_some, show ix [v5, v6, v7, v8, v9, vt] 4 = some v9 from r6 4 (by decide), Option.bind_some, show ix [v5, v6, v7, v8, v9, vt] 5 = some vt from r6 5 (by decide), Option.bind_some, w2 b (by omega), w1 b (by omega), hix]
  unfold Dz
  by_cases c : jn (L.drop (b + 1)) = []
  · rw [if_neg (fun h => h c)]
    have hd1 := hj.1 c
    have hlen : L.length = b + 1 + 1 := by
      have := congrArg List.length hd1
      rw [List.length_drop] at this
      simp at this; omega
    have hnil : L[b + 1]'hbl = [] := by
      have : (L.drop (b + 1))[0]? = some [] := by rw [hd1]; rfl
      rw [List.getElem?_drop, Nat.add_zero, hgb] at this
      exact Option.some.inj this
    refine ⟨_, _, _, rfl, ?_, hsz⟩
    rw [if_neg (fun h => h (by omega)), Option.bind_some, Option.bind_some, hnil]
    rfl
  · rw [if_pos c]
    refine ⟨DX, ((b + 1 + 1 : Nat) : Int), 10, rfl, ?_, DR⟩
    by_cases q : (L.length : Int) = ((b + 1 + 1 : Nat) : Int)
    · have hnn : ¬ L[b + 1]'hbl = [] := fun h => c (hj.2 (by
        rw [List.drop_eq_getElem_cons hbl, h, List.drop_eq_nil_of_le (by omega)]))
      rw [if_neg (fun h => h q), Option.bind_some, Option.bind_some, decide_eq_true hnn, if_pos rfl]
    · rw [if_pos q, Option.bind_some, if_pos rfl]
end Go.Proofs.YthmkgdnnocemmaaGreatDoor
