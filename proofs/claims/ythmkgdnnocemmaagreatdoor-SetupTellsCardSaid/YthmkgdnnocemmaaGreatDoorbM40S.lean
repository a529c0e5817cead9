/- Layer 40: the document's parser: lines, words, numbers. Conditions: none. -/
import Derived.Test.YthmkgdnnocemmaaGreatDoorbM40C
namespace Go.Proofs.YthmkgdnnocemmaaGreatDoor
set_option linter.unusedVariables false
set_option linter.unusedSimpArgs false
open Go Go.RowKit
theorem I6 {α : Type} {x u v : List α} {c : α} {a : Nat} (h : u ++ c :: v = x.drop a) : x[a + u.length]? = some c := by
  have : (x.drop a)[u.length]? = some c := by rw [← h]; simp
  rwa [List.getElem?_drop] at this
theorem Hy {α : Type} {x u v : List α} {a : Nat} (h : u ++ v = x.drop a) (ha : a ≤ x.length) : D3 x (a : Int) ((a + u.length : Nat) : Int) = some u := by
  have hl : u.length + v.length = x.length - a := by rw [← List.length_drop, ← h, List.length_append]
  rw [Ix ⟨by omega, by omega, by omega⟩, Int.toNat_natCast, Int.toNat_natCast, List.drop_take, ← h]
  rw [show a + u.length - a = u.length from by omega]
  simp
theorem KK {α : Type} {x u v : List α} {c : α} {a : Nat} (h : u ++ c :: v = x.drop a) : v = x.drop (a + u.length + 1) := by
  have : (x.drop a).drop (u.length + 1) = v := by rw [← h]; simp
  rw [← this, List.drop_drop]; congr 1
theorem MF (x : List UInt8) (hx : x.length ≤ 1000000) : ∀ (v u : List UInt8) (a : Nat) (out : List (List UInt8)), u ++ v = x.drop a → a ≤ x.length → (32 : UInt8) ∉ u → out.length ≤ a →
    Av (Cz x) (out, (a : Int), ((a + u.length : Nat) : Int)) = some (out ++ Lib.split (u ++ v) [32]) := fun v => by
  induction v with
  | nil =>
    intro u a out h ha hu ho
    have hl : u.length = x.length - a := by rw [← List.length_drop, ← h, List.append_nil]
    have hs := Hy h ha
    have e : a + u.length = x.length := by omega
    rw [e] at hs ⊢
    have h1 : Cz x (out, (a : Int), ((x.length : Nat) : Int)) = some (.inl (out ++ [u], ((x.length + 1 : Nat) : Int), ((x.length + 1 : Nat) : Int))) := by
      rw [Cz, if_pos (Int.le_refl _), if_pos rfl, Option.bind_some, if_pos rfl, hs, Option.bind_some, Bo (by simp; omega), Option.bind_some, Option.bind_some, Bx (by omega)]
      rw [show ((x.length : Nat) : Int) + 1 = ((x.length + 1 : Nat) : Int) from by omega]
    rw [BZ h1, AN (by rw [Cz, if_neg (by omega)]), List.append_nil, Hg hu]
  | cons c v ih =>
    intro u a out h ha hu ho
    have hl : u.length + (v.length + 1) = x.length - a := by rw [← List.length_drop, ← h, List.length_append, List.length_cons]
    have hg := I6 h
    have hs := Hy h ha
    have hd := KK h
    have hw : BD (((a + u.length : Nat) : Int) + 1) = ((a + u.length + 1 : Nat) : Int) := by rw [Bx (by omega)]; omega
    by_cases c32 : c = 32
    · subst c32
      have h1 : Cz x (out, (a : Int), ((a + u.length : Nat) : Int)) = some (.inl (out ++ [u], ((a + u.length + 1 : Nat) : Int), ((a + u.length + 1 : Nat) : Int))) := by
        rw [Cz, if_pos (by omega), if_neg (by omega), AQ hg, Option.bind_some, Option.bind_some, if_pos (by decide), hs, Option.bind_some, Bo (by simp; omega), Option.bind_some, Option.bind_some, hw]
      rw [BZ h1, Hn hu]
      have := ih [] (a + u.length + 1) (out ++ [u]) (by rw [List.nil_append]; exact hd) (by omega) (by simp) (by simp; omega)
      rw [List.length_nil, Nat.add_zero, List.nil_append] at this
      rw [this]; simp
    · have h1 : Cz x (out, (a : Int), ((a + u.length : Nat) : Int)) = some (.inl (out, (a : Int), ((a + u.length + 1 : Nat) : Int))) := by
        have cn : ¬ ((c.toNat : Int) = 32) := fun h => c32 (by
          have : c.toNat = 32 := by omega
          exact UInt8.toNat_inj.1 (by simpa using this))
        rw [Cz, if_pos (by omega), if_neg (by omega), AQ hg, Option.bind_some, Option.bind_some, if_neg (by simpa using cn), Option.bind_some, hw]
      rw [BZ h1]
      have := ih (u ++ [c]) a out (by rw [← h]; simp) ha (by simp only [List.mem_append, List.mem_singleton, not_or]; exact ⟨hu, fun e => c32 e.symm⟩) ho
      rw [List.length_append, List.length_singleton, ← Nat.add_assoc] at this
      rw [this]; simp
theorem MI {x : List UInt8} (hx : x.length ≤ 1000000) : E3 x = some (Lib.split x [32]) := by
  unfold E3
  rw [show Av (Cz x) ([], 0, 0) = _ from MF x hx x [] 0 [] (by simp) (Nat.zero_le _) (by simp) (Nat.zero_le _)]; rfl
theorem MQ (s : List UInt8) (hx : s.length ≤ 1000000) : ∀ (v u : List UInt8) (a : Nat) (out : List (List UInt8)), u ++ v = s.drop a → a ≤ s.length → (10 : UInt8) ∉ u → out.length ≤ a →
    ∃ (out' : List (List UInt8)) (b : Nat), Av (C2 s) (out, (a : Int), ((a + u.length : Nat) : Int)) = some (out', (b : Int)) ∧ b ≤ s.length ∧ out'.length ≤ s.length ∧ out' ++ [s.drop b] = out ++ Lib.split (u ++ v) [10] := fun v => by
  induction v with
  | nil =>
    intro u a out h ha hu ho
    have hl : u.length = s.length - a := by rw [← List.length_drop, ← h, List.append_nil]
    refine ⟨out, a, AN (by rw [C2, if_neg (by omega)]), ha, by omega, ?_⟩
    rw [← h, List.append_nil, Hg hu]
  | cons c v ih =>
    intro u a out h ha hu ho
    have hl : u.length + (v.length + 1) = s.length - a := by rw [← List.length_drop, ← h, List.length_append, List.length_cons]
    have hg := I6 h
    have hs := Hy h ha
    have hd := KK h
    have hw : BD (((a + u.length : Nat) : Int) + 1) = ((a + u.length + 1 : Nat) : Int) := by rw [Bx (by omega)]; omega
    by_cases c10 : c = 10
    · subst c10
      have h1 : C2 s (out, (a : Int), ((a + u.length : Nat) : Int)) = some (.inl (out ++ [u], ((a + u.length + 1 : Nat) : Int), ((a + u.length + 1 : Nat) : Int))) := by
        rw [C2, if_pos (by omega), AQ hg, Option.bind_some, if_pos (by decide), hs, Option.bind_some, Bo (by simp; omega), Option.bind_some, Option.bind_some, hw]
      obtain ⟨o, b, g1, g2, g3, g4⟩ := ih [] (a + u.length + 1) (out ++ [u]) (by rw [List.nil_append]; exact hd) (by omega) (by simp) (by simp; omega)
      rw [List.length_nil, Nat.add_zero] at g1
      exact ⟨o, b, (BZ h1).trans g1, g2, g3, by rw [g4, Hn hu]; simp⟩
    · have h1 : C2 s (out, (a : Int), ((a + u.length : Nat) : Int)) = some (.inl (out, (a : Int), ((a + u.length + 1 : Nat) : Int))) := by
        have cn : ¬ ((c.toNat : Int) = 10) := fun h => c10 (by
          have : c.toNat = 10 := by omega
          exact UInt8.toNat_inj.1 (by simpa using this))
        rw [C2, if_pos (by omega), AQ hg, Option.bind_some, if_neg cn, Option.bind_some, hw]
      obtain ⟨o, b, g1, g2, g3, g4⟩ := ih (u ++ [c]) a out (by rw [← h]; simp) ha (by simp only [List.mem_append, List.mem_singleton, not_or]; exact ⟨hu, fun e => c10 e.symm⟩) ho
      rw [List.length_append, List.length_singleton, ← Nat.add_assoc] at g1
      exact ⟨o, b, (BZ h1).trans g1, g2, g3, by rw [g4]; simp⟩
theorem Rb {s : List UInt8} (hx : s.length ≤ 1000000) : GH s = some (Lib.split s [10]) := by
  obtain ⟨o, b, g1, g2, g3, g4⟩ := MQ s hx s [] 0 [] (by simp) (Nat.zero_le _) (by simp) (Nat.zero_le _)
  unfold GH
  rw [show Av (C2 s) ([], 0, 0) = _ from g1, Option.bind_some]
  dsimp only
  rw [Ix ⟨by omega, by omega, by omega⟩, Option.bind_some, Int.toNat_natCast, Int.toNat_natCast, List.take_length, Bo (by simp; omega), Option.bind_some, g4]; rfl
theorem KX {n : Int} (h : i64 n) : FZ n = some (Lib.itoa n) :=
  Of (st := Fg) (run := EN) (fun _ => rfl) (fun _ _ => rfl) (fun _ _ => rfl) n h
theorem Mb (x : List UInt8) (hx : x.length ≤ 17) : ∀ (k i n : Nat), i + k = x.length → n < 10 ^ i →
    ((∀ b ∈ x.drop i, MY b) ∧ Gv n (x.drop i) < 10 ^ x.length ∧ Av (Cj x) ((n : Int), (i : Int)) = some (.inl ((Gv n (x.drop i) : Nat) : Int))) ∨ (¬ (∀ b ∈ x.drop i, MY b) ∧ Av (Cj x) ((n : Int), (i : Int)) = some (.inr (0, false)))
  | 0, i, n, hi, hn => by
    left
    rw [List.drop_eq_nil_of_le (by omega)]
    refine ⟨fun b h => (by cases h), ?_, AN (by rw [Cj, if_neg (by omega)]; rfl)⟩
    rw [show x.length = i from by omega]; exact hn
  | k + 1, i, n, hi, hn => by
    have hil : i < x.length := by omega
    have hp : 10 ^ i ≤ 10 ^ 16 := Nat.pow_le_pow_right (by decide) (by omega)
    rw [List.drop_eq_getElem_cons hil]
    by_cases hd : MY x[i]
    · have hst : Cj x ((n : Int), (i : Int)) = some (.inl (((n * 10 + (x[i].toNat - 48) : Nat) : Int), ((i + 1 : Nat) : Int))) := by
        unfold MY at hd
        rw [Cj, if_pos (by omega), AQ (List.getElem?_eq_getElem hil), Option.bind_some, if_neg (by omega), Option.bind_some, Option.bind_some, if_neg (by simp; omega), Option.bind_some, Bx (x := 10 * (n : Int)) (by omega), Bx (x := (x[i].toNat : Int)) (by omega), Bx (x := 10 * (n : Int) + _) (by omega), Bx (by omega), Bx (by omega)]
        rw [show 10 * (n : Int) + (x[i].toNat : Int) - 48 = ((n * 10 + (x[i].toNat - 48) : Nat) : Int) from by omega, show (i : Int) + 1 = ((i + 1 : Nat) : Int) from by omega]
      rw [BZ hst, GK]
      have hn' : n * 10 + (x[i].toNat - 48) < 10 ^ (i + 1) := by
        unfold MY at hd
        rw [Nat.pow_succ]; omega
      rcases Mb x hx k (i + 1) _ (by omega) hn' with ⟨h1, h2, h3⟩ | ⟨h1, h2⟩
      · refine .inl ⟨fun b hb => ?_, h2, h3⟩
        rcases List.mem_cons.1 hb with rfl | hb
        · exact hd
        · exact h1 b hb
      · exact .inr ⟨fun h => h1 fun b hb => h b (List.mem_cons_of_mem _ hb), h2⟩
    · right
      refine ⟨fun h => hd (h _ (List.mem_cons_self ..)), AN ?_⟩
      unfold MY at hd
      rw [Cj, if_pos (by omega), AQ (List.getElem?_eq_getElem hil), Option.bind_some]
      by_cases c : (x[i].toNat : Int) < 48
      · rw [if_pos c, Option.bind_some, if_pos rfl]
      · rw [if_neg c, Option.bind_some, Option.bind_some, if_pos (by simp; omega)]
theorem Pv {x : List UInt8} {v : Int} (h : Kp x = some v) : ∃ u : Nat, u ≤ 1125899906842624 ∧ ((x = Lib.decDigits u ∧ v = (u : Int)) ∨ (x = 45 :: Lib.decDigits u ∧ v = -(u : Int))) := by
  obtain ⟨h1, h2⟩ := Io h
  by_cases c : 0 ≤ v
  · obtain ⟨u, rfl⟩ : ∃ u : Nat, v = (u : Int) := ⟨v.toNat, by omega⟩
    rw [Lib.itoa_nonneg] at h2
    exact ⟨u, by omega, .inl ⟨h2.symm, rfl⟩⟩
  · obtain ⟨u, rfl⟩ : ∃ u : Nat, v = -(u : Int) := ⟨(-v).toNat, by omega⟩
    rw [Lib.itoa_neg u (by omega)] at h2
    exact ⟨u, by omega, .inr ⟨h2.symm, rfl⟩⟩
theorem Hz {x : List UInt8} {at_ : Nat} {sg : Int} (hx : x.length ≤ 17) (ha : at_ ≤ x.length) (hs : sg = 1 ∨ sg = -1)
    (hok : ∀ v, Kp x = some v → (∀ b ∈ x.drop at_, MY b) ∧ v = sg * (Gv 0 (x.drop at_) : Nat)) :
    ∃ v b, (ES (Av (Cj x) (0, (at_ : Int))) fun x5 => ((FZ (BD (sg * x5))).bind fun x13 => (if x13 = x then (if (-1125899906842624) ≤ (BD (sg * x5)) then some (decide ((BD (sg * x5)) ≤ 1125899906842624)) else some false) else some false)).bind fun x12 => some (BD (sg * x5), x12)) = some (v, b) ∧ Kp x = if b = true then some v else none := by
  have hp : 10 ^ x.length ≤ 10 ^ 17 := Nat.pow_le_pow_right (by decide) hx
  rcases Mb x hx (x.length - at_) at_ 0 (by omega) (Nat.pos_of_ne_zero (by simp)) with ⟨h1, h2, h3⟩ | ⟨h1, h2⟩
  · rw [show Av (Cj x) (0, (at_ : Int)) = _ from h3, C0]
    have e : BD (sg * ((Gv 0 (x.drop at_) : Nat) : Int)) = sg * ((Gv 0 (x.drop at_) : Nat) : Int) := by
      rcases hs with rfl | rfl <;> rw [Bx (by omega)]
    have hi : i64 (sg * ((Gv 0 (x.drop at_) : Nat) : Int)) := by
      unfold i64
      rcases hs with rfl | rfl <;> omega
    rw [e, KX hi, Option.bind_some]
    by_cases c : Lib.itoa (sg * ((Gv 0 (x.drop at_) : Nat) : Int)) = x
    · rw [if_pos c]
      by_cases c2 : Bd (sg * ((Gv 0 (x.drop at_) : Nat) : Int))
      · rw [if_pos c2.1, Option.bind_some, decide_eq_true c2.2]
        refine ⟨_, _, rfl, ?_⟩
        rw [if_pos rfl]
        conv => lhs; rw [← c]
        exact Ra c2
      · have hn : Kp x = none := by
          cases hk : Kp x with
          | none => rfl
          | some v => exact absurd ((hok v hk).2 ▸ (Io hk).1) c2
        by_cases c3 : (-1125899906842624) ≤ sg * ((Gv 0 (x.drop at_) : Nat) : Int)
        · rw [if_pos c3, Option.bind_some, decide_eq_false (fun h => c2 ⟨c3, h⟩)]
          exact ⟨_, _, rfl, by rw [hn]; rfl⟩
        · rw [if_neg c3]
          exact ⟨_, _, rfl, by rw [hn]; rfl⟩
    · rw [if_neg c]
      refine ⟨_, _, rfl, ?_⟩
      cases hk : Kp x with
      | none => rfl
      | some v => exact absurd ((hok v hk).2 ▸ (Io hk).2) c
  · rw [show Av (Cj x) (0, (at_ : Int)) = _ from h2]
    refine ⟨0, false, rfl, ?_⟩
    cases hk : Kp x with
    | none => rfl
    | some v => exact absurd (hok v hk).1 h1
theorem Qi (x : List UInt8) : ∃ v b, Eo x = some (v, b) ∧ Kp x = if b = true then some v else none := by
  have hform := fun v (h : Kp x = some v) => Pv h
  by_cases h17 : x.length ≤ 17
  · cases x with
    | nil =>
      unfold Eo
      rw [if_neg (show ¬ 0 < (([] : List UInt8).length : Int) from by decide), Option.bind_some, if_neg (by decide), Option.bind_some]
      dsimp only
      rw [if_neg (by decide)]
      refine Hz (at_ := 0) (by decide) (Nat.le_refl _) (.inl rfl) fun v hv => ?_
      obtain ⟨u, hu, h | h⟩ := hform v hv
      · exact absurd h.1.symm (D0 15 u (by omega)).2.2.1
      · cases h.1
    | cons c t =>
      unfold Eo
      rw [if_pos (show 0 < ((c :: t).length : Int) from by simp), show ix (c :: t) 0 = some c from AQ (k := 0) rfl, Option.bind_some, Option.bind_some]
      by_cases h45 : c = 45
      · subst h45
        rw [if_pos (by decide), Option.bind_some]
        dsimp only
        rw [if_neg (by omega)]
        refine Hz (at_ := 1) h17 (by simp) (.inr rfl) fun v hv => ?_
        obtain ⟨u, hu, ⟨h1, h2⟩ | ⟨h1, h2⟩⟩ := hform v hv
        · have := (D0 15 u (by omega)).1 45 (by rw [← h1]; exact List.mem_cons_self ..)
          exact absurd this (by unfold MY; decide)
        · have ht : t = Lib.decDigits u := (List.cons.inj h1).2
          obtain ⟨d1, d2, _, _⟩ := D0 15 u (by omega)
          rw [List.drop_one, List.tail_cons, ht, d2]
          exact ⟨d1, by rw [h2]; omega⟩
      · have c45 : ¬ ((c.toNat : Int) = 45) := fun h => h45 (by
          have : c.toNat = 45 := by omega
          exact UInt8.toNat_inj.1 (by simpa using this))
        rw [if_neg (by simpa using c45), Option.bind_some]
        dsimp only
        rw [if_neg (by omega)]
        refine Hz (at_ := 0) h17 (Nat.zero_le _) (.inl rfl) fun v hv => ?_
        obtain ⟨u, hu, ⟨h1, h2⟩ | ⟨h1, h2⟩⟩ := hform v hv
        · obtain ⟨d1, d2, _, _⟩ := D0 15 u (by omega)
          rw [List.drop_zero, h1, d2]
          exact ⟨d1, by rw [h2]; omega⟩
        · exact absurd (List.cons.inj h1).1 h45
  · have hn : Kp x = none := by
      cases hk : Kp x with
      | none => rfl
      | some v =>
        obtain ⟨u, hu, ⟨h1, h2⟩ | ⟨h1, h2⟩⟩ := hform v hk
        · have := (D0 15 u (by omega)).2.2.2
          rw [← h1] at this; omega
        · have := (D0 15 u (by omega)).2.2.2
          rw [h1, List.length_cons] at h17; omega
    obtain ⟨p, hp⟩ : ∃ p : Int × Int, ((if 0 < (x.length : Int) then (ix x 0).bind fun x4 => some (decide ((x4.toNat : Int) = 45)) else some false).bind fun x3 => (if x3 = true then some ((1 : Int), ((-1) : Int)) else some ((0 : Int), (1 : Int)))) = some p := by
      cases x with
      | nil => exact ⟨_, rfl⟩
      | cons c t =>
        rw [if_pos (by simp), show ix (c :: t) 0 = some c from AQ (k := 0) rfl, Option.bind_some, Option.bind_some]
        by_cases q : decide ((c.toNat : Int) = 45) = true
        · rw [if_pos q]; exact ⟨_, rfl⟩
        · rw [if_neg q]; exact ⟨_, rfl⟩
    unfold Eo
    rw [hp, Option.bind_some]
    dsimp only
    rw [if_pos (by omega)]
    exact ⟨_, _, rfl, by rw [hn]; rfl⟩
theorem KF (ws : List (List UInt8)) (hw : ws.length ≤ 1000000) : ∀ (k i : Nat) (xs : List Int), i + k = ws.length → xs.length ≤ i →
    Av (DH ws) (xs, (i : Int)) = some (match IF (ws.drop i) with | some ns => .inl (xs ++ ns) | none => .inr ([], false))
  | 0, i, xs, hi, hl => by
    rw [List.drop_eq_nil_of_le (by omega), AN (by rw [DH, if_neg (by omega)])]
    show _ = some (Sum.inl (xs ++ []))
    rw [List.append_nil]
  | k + 1, i, xs, hi, hl => by
    have hil : i < ws.length := by omega
    obtain ⟨v, b, h1, h2⟩ := Qi ws[i]
    rw [List.drop_eq_getElem_cons hil, IF, h2]
    cases b with
    | false =>
      rw [if_neg (by decide)]
      exact AN (by rw [DH, if_pos (by omega), AQ (List.getElem?_eq_getElem hil), Option.bind_some, h1, Option.bind_some, if_pos (show (!false) = true from rfl)]; rfl)
    | true =>
      rw [if_pos rfl, Option.bind_some]
      have hst : DH ws (xs, (i : Int)) = some (.inl (xs ++ [v], ((i + 1 : Nat) : Int))) := by
        rw [DH, if_pos (by omega), AQ (List.getElem?_eq_getElem hil), Option.bind_some, h1, Option.bind_some, if_neg (by simp), Bo (by simp; omega), Option.bind_some, Bx (by omega)]
        rw [show (i : Int) + 1 = ((i + 1 : Nat) : Int) from by omega]
      rw [BZ hst, KF ws hw k (i + 1) (xs ++ [v]) (by omega) (by simp; omega)]
      cases IF (ws.drop (i + 1)) with
      | none => rfl
      | some l => simp
theorem R1 {x w0 : List UInt8} {ws : List (List UInt8)} (hx : x.length ≤ 1000000) (hs : Lib.split x [32] = w0 :: ws) (hw : ws.length ≤ 100000) (c : Int) :
    Dn x c = some (match IF ws with | some ns => (ns, decide (c < 0) || decide ((ns.length : Int) = c)) | none => ([], false)) := by
  unfold Dn
  rw [MI hx, hs, Option.bind_some, show Av (DH (w0 :: ws)) ([], 1) = _ from KF (w0 :: ws) (by simp; omega) ws.length 1 [] (by simp; omega) (by simp), List.drop_one, List.tail_cons]
  cases IF ws with
  | none => rfl
  | some ns => rfl
def NV : Nat → Nat → List UInt8
  | 0, _ => []
  | k + 1, n => NV k (n / 16) ++ [Gb (n % 16)]
theorem LH : ∀ k : Nat, NV k 0 = List.replicate k 48
  | 0 => rfl
  | k + 1 => by rw [NV, show 0 / 16 = 0 from rfl, LH k, show Gb (0 % 16) = 48 from by decide, ← List.replicate_succ']
theorem Pr : ∀ (k n : Nat), n < 16 ^ k → List.replicate (k - (GI k n).length) 48 ++ GI k n = NV k n
  | 0, n, h => rfl
  | k + 1, n, h => by
    rw [GI, NV]
    by_cases c : n < 16
    · rw [if_pos c, Nat.div_eq_of_lt c, Nat.mod_eq_of_lt c, LH, List.length_singleton, Nat.add_sub_cancel]
    · rw [if_neg c, List.length_append, List.length_singleton, Nat.add_sub_add_right, ← Pr k (n / 16) (by rw [Nat.pow_succ] at h; omega)]
      simp
theorem JY {v : Nat} (h : v < 18446744073709551616) : Fs (v : Int) = NV 16 v := by
  unfold Fs
  rw [Int.toNat_natCast]
  exact Pr 16 v (by simp; omega)
abbrev PG : List UInt8 := [48, 49, 50, 51, 52, 53, 54, 55, 56, 57, 97, 98, 99, 100, 101, 102]
theorem NF : ∀ d : Fin 16, (PG.take (d.val + 1)).drop d.val = [Gb d.val] := by decide +kernel
theorem JW : ∀ (k j n : Nat) (o : List UInt8), j + k = 16 → n < 18446744073709551616 → o.length = j → Av Eb ((n : Int), o, (j : Int)) = some (NV k n ++ o)
  | 0, j, n, o, hj, hn, ho => AN (by rw [Eb, if_neg (by omega)]; rfl)
  | k + 1, j, n, o, hj, hn, ho => by
    have e1 : Int.tmod (n : Int) 16 = ((n % 16 : Nat) : Int) := by rw [Int.tmod_eq_emod_of_nonneg (by omega)]; omega
    have e2 : Int.tdiv (n : Int) 16 = ((n / 16 : Nat) : Int) := by rw [Int.tdiv_eq_ediv_of_nonneg (by omega)]; omega
    have hm : n % 16 < 16 := Nat.mod_lt _ (by decide)
    have hst : Eb ((n : Int), o, (j : Int)) = some (.inl (((n / 16 : Nat) : Int), Gb (n % 16) :: o, ((j + 1 : Nat) : Int))) := by
      rw [Eb, if_pos (by omega), e1, e2, Bx (x := ((n % 16 : Nat) : Int)) (by omega), Bx (x := ((n % 16 : Nat) : Int) + 1) (by omega), Ix ⟨by omega, by omega, by show _ ≤ (16 : Int); omega⟩, Option.bind_some, show (((n % 16 : Nat) : Int) + 1).toNat = n % 16 + 1 from by omega, Int.toNat_natCast]
      rw [show (List.take (n % 16 + 1) PG).drop (n % 16) = [Gb (n % 16)] from NF ⟨n % 16, hm⟩, Bo (by simp; omega), Option.bind_some, GP (by omega) (by omega), Bx (by omega)]
      rw [show (j : Int) + 1 = ((j + 1 : Nat) : Int) from by omega]; rfl
    rw [BZ hst, JW k (j + 1) (n / 16) _ (by omega) (by omega) (by simp; omega), NV]
    simp
theorem QE {v : Int} (h : Bh v) : Gw v = some (Fs v) := by
  obtain ⟨n, rfl⟩ : ∃ n : Nat, v = (n : Int) := ⟨v.toNat, by omega⟩
  have hn : n < 18446744073709551616 := by omega
  unfold Gw
  rw [show Av Eb ((n : Int), [], 0) = _ from JW 16 0 n [] rfl hn rfl, Option.bind_some, List.append_nil, JY hn]
def Oi (b : UInt8) : Nat := if 97 ≤ b.toNat ∧ b.toNat ≤ 102 then b.toNat - 87 else if 48 ≤ b.toNat ∧ b.toNat ≤ 57 then b.toNat - 48 else 0
def Oh (a : Nat) (l : List UInt8) : Nat := l.foldl (fun a b => (16 * a + Oi b) % 18446744073709551616) a
theorem Qj (a : Nat) (l m : List UInt8) : Oh a (l ++ m) = Oh (Oh a l) m := by unfold Oh; rw [List.foldl_append]
theorem Pc : ∀ d : Fin 16, Oi (Gb d.val) = d.val := by decide +kernel
theorem M9 : ∀ (k n : Nat), n < 16 ^ k → Oh 0 (NV k n) = n % 18446744073709551616
  | 0, n, h => by
    obtain rfl : n = 0 := by simpa using h
    rfl
  | k + 1, n, h => by
    rw [NV, Qj, M9 k (n / 16) (by rw [Nat.pow_succ] at h; omega)]
    show (16 * (n / 16 % 18446744073709551616) + Oi (Gb (n % 16))) % 18446744073709551616 = _
    rw [Pc ⟨n % 16, Nat.mod_lt _ (by decide)⟩]
    show (16 * (n / 16 % 18446744073709551616) + n % 16) % 18446744073709551616 = _
    omega
theorem Pl : ∀ (l : List UInt8) (a : Nat), a < 18446744073709551616 → Oh a l < 18446744073709551616
  | [], a, h => h
  | b :: l, a, h => Pl l _ (Nat.mod_lt _ (by decide))
theorem N4 {x : List UInt8} {i n : Nat} (hi : i < x.length) (hx : x.length ≤ 1000000) (hn : n < 18446744073709551616) :
    D2 x ((n : Int), (i : Int)) = some (.inl ((((16 * n + Oi x[i]) % 18446744073709551616 : Nat) : Int), ((i + 1 : Nat) : Int))) := by
  have hg := AQ (List.getElem?_eq_getElem hi)
  have hb : x[i].toNat < 256 := x[i].toNat_lt
  have key : ∀ d : Nat, d < 256 → IntKind.u64.wrap (IntKind.u64.wrap (16 * (n : Int)) + (d : Int)) = (((16 * n + d) % 18446744073709551616 : Nat) : Int) := fun d hd => by
    rw [IntKind.wrap_u64, IntKind.wrap_u64]; omega
  have hw : BD ((i : Int) + 1) = ((i + 1 : Nat) : Int) := by rw [Bx (by omega)]; omega
  rw [D2, if_pos (by omega), hg]
  simp only [Option.bind_some]
  by_cases a1 : 97 ≤ x[i].toNat ∧ x[i].toNat ≤ 102
  · have e : Oi x[i] = x[i].toNat - 87 := by unfold Oi; rw [if_pos a1]
    rw [if_pos (show (48 : Int) ≤ (x[i].toNat : Int) from by omega), Option.bind_some, if_neg (by simp; omega), Option.bind_some, if_pos (show (97 : Int) ≤ (x[i].toNat : Int) from by omega), Option.bind_some, if_pos (by simp; omega), Option.bind_some, GP (x := (x[i].toNat : Int)) (by omega) (by omega), GP (x := (x[i].toNat : Int) - 87) (by omega) (by omega), hw, show (x[i].toNat : Int) - 87 = ((x[i].toNat - 87 : Nat) : Int) from by omega, key _ (by omega), e]
  · by_cases a2 : 48 ≤ x[i].toNat ∧ x[i].toNat ≤ 57
    · have e : Oi x[i] = x[i].toNat - 48 := by unfold Oi; rw [if_neg a1, if_pos a2]
      rw [if_pos (show (48 : Int) ≤ (x[i].toNat : Int) from by omega), Option.bind_some, if_pos (by simp; omega), Option.bind_some, if_neg (show ¬ (97 : Int) ≤ (x[i].toNat : Int) from by omega), Option.bind_some, if_neg (by decide), Option.bind_some, GP (x := (x[i].toNat : Int)) (by omega) (by omega), GP (x := (x[i].toNat : Int) - 48) (by omega) (by omega), hw, show (x[i].toNat : Int) - 48 = ((x[i].toNat - 48 : Nat) : Int) from by omega, key _ (by omega), e]
    · have e : Oi x[i] = 0 := by unfold Oi; rw [if_neg a1, if_neg a2]
      have f1 : (if (48 : Int) ≤ (x[i].toNat : Int) then some (decide ((x[i].toNat : Int) ≤ 57)) else some false) = some false := by
        by_cases q : (48 : Int) ≤ (x[i].toNat : Int)
        · rw [if_pos q, decide_eq_false (by omega)]
        · rw [if_neg q]
      have f2 : (if (97 : Int) ≤ (x[i].toNat : Int) then some (decide ((x[i].toNat : Int) ≤ 102)) else some false) = some false := by
        by_cases q : (97 : Int) ≤ (x[i].toNat : Int)
        · rw [if_pos q, decide_eq_false (by omega)]
        · rw [if_neg q]
      rw [f1, f2, Option.bind_some, if_neg (by decide), Option.bind_some, Option.bind_some, if_neg (by decide), Option.bind_some, hw, e]
      have := key 0 (by decide)
      rw [show ((0 : Nat) : Int) = 0 from rfl] at this
      rw [this]
theorem KH (x : List UInt8) (hx : x.length ≤ 1000000) : ∀ (k i n : Nat), i + k = x.length → n < 18446744073709551616 → Av (D2 x) ((n : Int), (i : Int)) = some ((Oh n (x.drop i) : Nat) : Int)
  | 0, i, n, hi, hn => by
    rw [List.drop_eq_nil_of_le (by omega)]
    exact AN (by rw [D2, if_neg (by omega)]; rfl)
  | k + 1, i, n, hi, hn => by
    have hil : i < x.length := by omega
    rw [BZ (N4 hil hx hn), List.drop_eq_getElem_cons hil, KH x hx k (i + 1) _ (by omega) (Nat.mod_lt _ (by decide))]
    rfl
theorem R0 {x : List UInt8} (hx : x.length ≤ 1000000) : ∃ v b, Hl x = some (v, b) ∧ NM x = if b = true then some v else none := by
  have hl := KH x hx x.length 0 0 (by omega) (by decide)
  have hv : Oh 0 x < 18446744073709551616 := Pl x 0 (by decide)
  have hno : (¬ (Fs ((Oh 0 x : Nat) : Int) = x)) → NM x = none := fun h => by
    cases hk : NM x with
    | none => rfl
    | some v =>
      obtain ⟨h1, h2⟩ := LD hk
      obtain ⟨n, rfl⟩ : ∃ n : Nat, v = (n : Int) := ⟨v.toNat, by omega⟩
      have hn : n < 18446744073709551616 := by omega
      rw [JY hn] at h2
      have h3 : Oh 0 x = n := by rw [← h2, M9 16 n (by simp; omega), Nat.mod_eq_of_lt hn]
      exact absurd (by rw [h3, JY hn]; exact h2) h
  unfold Hl
  rw [show Av (D2 x) (0, 0) = _ from hl, Option.bind_some, List.drop_zero]
  by_cases c : (x.length : Int) = 16
  · rw [if_pos c, QE (v := ((Oh 0 x : Nat) : Int)) ⟨by omega, by omega⟩, Option.bind_some, Option.bind_some]
    refine ⟨_, _, rfl, ?_⟩
    by_cases q : Fs ((Oh 0 x : Nat) : Int) = x
    · rw [decide_eq_true q, if_pos rfl]
      conv => lhs; rw [← q]
      exact Rc ⟨by omega, by omega⟩
    · rw [decide_eq_false q, if_neg (by decide), hno q]
  · rw [if_neg c, Option.bind_some]
    refine ⟨_, _, rfl, ?_⟩
    rw [if_neg (by decide)]
    exact hno fun h => c (by rw [← h, Iq]; rfl)
theorem KO (ws : List (List UInt8)) (hw : ws.length ≤ 1000000) (hx : ∀ x ∈ ws, x.length ≤ 1000000) : ∀ (k i : Nat) (xs : List Int), i + k = ws.length → xs.length ≤ i →
    Av (DG ws) (xs, (i : Int)) = some (match HV (ws.drop i) with | some ns => .inl (xs ++ ns) | none => .inr ([], false))
  | 0, i, xs, hi, hl => by
    rw [List.drop_eq_nil_of_le (by omega), AN (by rw [DG, if_neg (by omega)])]
    show _ = some (Sum.inl (xs ++ []))
    rw [List.append_nil]
  | k + 1, i, xs, hi, hl => by
    have hil : i < ws.length := by omega
    obtain ⟨v, b, h1, h2⟩ := R0 (hx _ (List.getElem_mem hil))
    rw [List.drop_eq_getElem_cons hil, HV, h2]
    cases b with
    | false =>
      rw [if_neg (by decide)]
      exact AN (by rw [DG, if_pos (by omega), AQ (List.getElem?_eq_getElem hil), Option.bind_some, h1, Option.bind_some, if_pos (show (!false) = true from rfl)]; rfl)
    | true =>
      rw [if_pos rfl, Option.bind_some]
      have hst : DG ws (xs, (i : Int)) = some (.inl (xs ++ [v], ((i + 1 : Nat) : Int))) := by
        rw [DG, if_pos (by omega), AQ (List.getElem?_eq_getElem hil), Option.bind_some, h1, Option.bind_some, if_neg (by simp), Bo (by simp; omega), Option.bind_some, Bx (by omega)]
        rw [show (i : Int) + 1 = ((i + 1 : Nat) : Int) from by omega]
      rw [BZ hst, KO ws hw hx k (i + 1) (xs ++ [v]) (by omega) (by simp; omega)]
      cases HV (ws.drop (i + 1)) with
      | none => rfl
      | some l => simp
theorem RL {x w0 : List UInt8} {ws : List (List UInt8)} (hx : x.length ≤ 1000000) (hs : Lib.split x [32] = w0 :: ws) (hw : ws.length ≤ 100000) (hl : ∀ y ∈ ws, y.length ≤ 1000000) :
    GJ x = some (match HV ws with | some ns => (ns, true) | none => ([], false)) := by
  unfold GJ
  rw [MI hx, hs, Option.bind_some, show Av (DG (w0 :: ws)) ([], 1) = _ from KO (w0 :: ws) (by simp; omega) (fun y hy => by
    rcases List.mem_cons.1 hy with rfl | hy
    · exact Nat.le_trans (by
        have hm : y ∈ Lib.split x [32] := by rw [hs]; exact List.mem_cons_self ..
        obtain ⟨a, b, e1, e2⟩ := En (x.length + 1) x (Nat.lt_succ_self _)
        rw [hs] at e1
        obtain ⟨rfl, rfl⟩ := List.cons.inj e1
        have := (HF y ws).2.2
        rw [← e2] at this; exact this) hx
    · exact hl y hy) ws.length 1 [] (by simp; omega) (by simp), List.drop_one, List.tail_cons]
  cases HV ws with
  | none => rfl
  | some ns => rfl
end Go.Proofs.YthmkgdnnocemmaaGreatDoor
