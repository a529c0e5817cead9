/- Layer 40: the two parsers side by side. Conditions: none. -/
import Derived.Test.YthmkgdnnocemmaaGreatDoorbM40S
namespace Go.Proofs.YthmkgdnnocemmaaGreatDoor
set_option linter.unusedVariables false
set_option linter.unusedSimpArgs false
open Go Go.RowKit
def jn : List (List UInt8) → List UInt8
  | [] => []
  | [t] => t
  | x :: y :: r => x ++ 10 :: jn (y :: r)
theorem LV : ∀ (n : Nat) (s : List UInt8), s.length < n → Lib.split s [10] ≠ [] ∧ jn (Lib.split s [10]) = s ∧ (∀ x ∈ Lib.split s [10], (10 : UInt8) ∉ x ∧ x.length ≤ s.length) ∧ (Lib.split s [10]).length ≤ s.length + 1
  | 0, s, h => absurd h (Nat.not_lt_zero _)
  | n + 1, s, h => by
    by_cases c : (10 : UInt8) ∈ s
    · obtain ⟨w, r, rfl, h2⟩ := Is c
      have hl : (w ++ 10 :: r).length = w.length + (r.length + 1) := by simp
      obtain ⟨i1, i2, i3, i4⟩ := LV n r (by omega)
      rw [Hn h2]
      refine ⟨by simp, ?_, fun x hx => ?_, by rw [List.length_cons]; omega⟩
      · cases hL : Lib.split r [10] with
        | nil => exact absurd hL i1
        | cons y l => rw [hL] at i2; rw [jn, i2]
      · rcases List.mem_cons.1 hx with rfl | hx
        · exact ⟨h2, by omega⟩
        · exact ⟨(i3 x hx).1, by have := (i3 x hx).2; omega⟩
    · rw [Hg c]
      refine ⟨by simp, rfl, fun x hx => ?_, by simp⟩
      rw [List.mem_singleton.1 hx]; exact ⟨c, Nat.le_refl _⟩
def hd (x : List UInt8) : List UInt8 := (Lib.split x [32]).headD []
theorem KD {x w0 : List UInt8} {ws : List (List UInt8)} (h : Lib.split x [32] = w0 :: ws) : hd x = w0 := by unfold hd; rw [h]; rfl
theorem Lt {x rest w0 : List UInt8} {ws : List (List UInt8)} (h10 : (10 : UInt8) ∉ x) (hl : (x ++ 10 :: rest).length ≤ 100000) (hs : Lib.split x [32] = w0 :: ws) (n : Int) :
    BE (x ++ 10 :: rest, n) = some (.inl x) ∧ BQ (x ++ 10 :: rest, n) = some (rest, BD (n + 1)) ∧ ∀ w, BW (x ++ 10 :: rest, n) w = if w0 = w then some (.inl ws) else some (.inr n) := by
  have hc : Jl (x ++ 10 :: rest) [10] = some (x, rest, true) := by rw [Li (by omega), PE h10]
  have hpk : BE (x ++ 10 :: rest, n) = some (.inl x) := by
    unfold BE
    rw [show (x ++ 10 :: rest, n).1 = x ++ 10 :: rest from rfl, hc, Option.bind_some]; rfl
  refine ⟨hpk, ?_, fun w => ?_⟩
  · unfold BQ
    rw [show (x ++ 10 :: rest, n).1 = x ++ 10 :: rest from rfl, hc]; rfl
  · unfold BW
    rw [hpk, Option.bind_some]
    have hsp : HW x [32] = some (w0 :: ws) := by
      unfold HW
      rw [if_pos ⟨by simp at hl; omega, by decide⟩, hs]
    show (HW x [32]).bind _ = _
    rw [hsp, Option.bind_some, show ix (w0 :: ws) 0 = some w0 from AQ (k := 0) rfl, Option.bind_some]
    by_cases q : w0 = w
    · rw [if_neg (fun h => h q), if_pos q, Ix (by simp only [List.length_cons]; omega), Option.bind_some]
      simp
    · rw [if_pos q, if_neg q]; rfl
theorem O7 {t : List UInt8} (h10 : (10 : UInt8) ∉ t) (hl : t.length ≤ 100000) (n : Int) : BE (t, n) = some (.inr n) := by
  have hc : Jl t [10] = some (t, [], false) := by rw [Li (by omega), Oq h10]
  unfold BE
  rw [show (t, n).1 = t from rfl, hc, Option.bind_some]; rfl
theorem J0 {t : List UInt8} (h10 : (10 : UInt8) ∉ t) (hl : t.length ≤ 100000) (n : Int) (w : List UInt8) : AF (t, n) w = some (.inr n) := by
  unfold AF
  rw [O7 h10 hl]; rfl
theorem JJ {x rest : List UInt8} (h10 : (10 : UInt8) ∉ x) (hl : (x ++ 10 :: rest).length ≤ 100000) (n : Int) (w : List UInt8) : AF (x ++ 10 :: rest, n) w = some (.inl (decide (hd x = w))) := by
  obtain ⟨w0, ws, hs, e⟩ := En (x.length + 1) x (Nat.lt_succ_self _)
  unfold AF
  rw [(Lt h10 hl hs n).1, Option.bind_some]
  show (Jl x [32]).bind _ = _
  rw [Li (by simp at hl; omega), Option.bind_some, KD hs]
  have : (Lib.cut x [32]).1 = w0 := by
    by_cases c : (32 : UInt8) ∈ x
    · obtain ⟨u, r, rfl, h2⟩ := Is c
      rw [PE h2]
      rw [Hn h2] at hs
      exact (List.cons.inj hs).1
    · rw [Oq c]
      rw [Hg c] at hs
      exact (List.cons.inj hs).1
  rw [this]
noncomputable def My (w : List UInt8) (c : Int) (x : List UInt8) : Option (List Int) := match Lib.split x [32] with
  | w0 :: ws => if w0 = w then (IF ws).bind fun ns => if c = -1 ∨ (ns.length : Int) = c then some ns else none else none
  | [] => none
def Ok (w : List UInt8) (x : List UInt8) : Option (List Int) := match Lib.split x [32] with
  | w0 :: ws => if w0 = w then HV ws else none
  | [] => none
theorem O1 : ∀ {ws : List (List UInt8)} {ns : List Int}, IF ws = some ns → ns.length = ws.length := fun {ws ns} h => by
  rw [(Kr h).1, List.length_map]
theorem Pf {ws : List (List UInt8)} {ns : List Int} (h : HV ws = some ns) : ns.length = ws.length := by
  rw [(KR h).1, List.length_map]
theorem IH {x w0 : List UInt8} {ws : List (List UInt8)} (hs : Lib.split x [32] = w0 :: ws) : ws.length ≤ x.length ∧ ∀ y ∈ ws, y.length ≤ x.length := by
  obtain ⟨a, b, e1, e2⟩ := En (x.length + 1) x (Nat.lt_succ_self _)
  rw [hs] at e1
  obtain ⟨rfl, rfl⟩ := List.cons.inj e1
  obtain ⟨l1, l2, _⟩ := HF w0 ws
  rw [← e2] at l1 l2
  exact ⟨l2, l1⟩
theorem HE {w : List UInt8} {c : Int} {x : List UInt8} {ns : List Int} (h : My w c x = some ns) : ns.length ≤ x.length ∧ (c = -1 ∨ (ns.length : Int) = c) := by
  unfold My at h
  split at h
  · rename_i w0 ws hs
    split at h
    · obtain ⟨l, h1, h2⟩ := Ae h
      split at h2
      · rename_i hc
        cases h2
        exact ⟨by rw [O1 h1]; exact (IH hs).1, hc⟩
      · cases h2
    · cases h
  · cases h
theorem Ql {w : List UInt8} {x : List UInt8} {ns : List Int} (h : Ok w x = some ns) : ns.length ≤ x.length := by
  unfold Ok at h
  split at h
  · rename_i w0 ws hs
    split at h
    · rw [Pf h]; exact (IH hs).1
    · cases h
  · cases h
theorem Oc {t : List UInt8} (h10 : (10 : UInt8) ∉ t) (hl : t.length ≤ 100000) (n : Int) (w : List UInt8) (c : Int) : AG (t, n) w c = some (.inr (n, t, n)) := by
  unfold AG BW
  rw [O7 h10 hl]; rfl
theorem Gz {x rest : List UInt8} (h10 : (10 : UInt8) ∉ x) (hl : (x ++ 10 :: rest).length ≤ 100000) (n : Int) (w : List UInt8) (c : Int) :
    AG (x ++ 10 :: rest, n) w c = match My w c x with | some ns => some (.inl (ns, rest, BD (n + 1))) | none => some (.inr (n, x ++ 10 :: rest, n)) := by
  obtain ⟨w0, ws, hs, e⟩ := En (x.length + 1) x (Nat.lt_succ_self _)
  obtain ⟨_, h2, h3⟩ := Lt h10 hl hs n
  obtain ⟨p1, p2⟩ := IH hs
  have hxl : x.length ≤ 100000 := by simp at hl; omega
  unfold AG My
  rw [h3, hs]
  by_cases q : w0 = w
  · subst q
    rw [if_pos rfl, Option.bind_some]
    show ES (Av (Be (x ++ 10 :: rest, n) ws) ([], 0)) _ = match (if w0 = w0 then _ else none : Option (List Int)) with | some ns => _ | none => _
    rw [if_pos rfl, show Av (Be (x ++ 10 :: rest, n) ws) ([], 0) = _ from Kz (x ++ 10 :: rest, n) ws (by omega) (fun y hy => by have := p2 y hy; omega) ws.length 0 [] (by omega) (by simp), List.drop_zero]
    cases IF ws with
    | none => rfl
    | some ns =>
      rw [Option.bind_some]
      by_cases cc : c = -1 ∨ (ns.length : Int) = c
      · rw [if_pos cc]
        show (if (decide (c ≠ -1) && decide (((([] : List Int) ++ ns).length : Int) ≠ c)) = true then _ else (BQ _).bind _) = _
        rw [List.nil_append, if_neg (by simp only [Bool.and_eq_true, decide_eq_true_iff]; omega), h2]; rfl
      · rw [if_neg cc]
        show (if (decide (c ≠ -1) && decide (((([] : List Int) ++ ns).length : Int) ≠ c)) = true then _ else _) = _
        rw [List.nil_append, if_pos (by simp only [Bool.and_eq_true, decide_eq_true_iff]; omega)]; rfl
  · rw [if_neg q]
    show _ = match (if w0 = w then _ else none : Option (List Int)) with | some ns => _ | none => _
    rw [if_neg q]; rfl
theorem Pz {t : List UInt8} (h10 : (10 : UInt8) ∉ t) (hl : t.length ≤ 100000) (n : Int) (w : List UInt8) : Aq (t, n) w = some (.inr (n, t, n)) := by
  unfold Aq
  rw [Oc h10 hl]; rfl
theorem PF {x rest : List UInt8} (h10 : (10 : UInt8) ∉ x) (hl : (x ++ 10 :: rest).length ≤ 100000) (n : Int) (w : List UInt8) :
    (∃ v, My w 1 x = some [v] ∧ Aq (x ++ 10 :: rest, n) w = some (.inl (v, rest, BD (n + 1)))) ∨ (My w 1 x = none ∧ Aq (x ++ 10 :: rest, n) w = some (.inr (n, x ++ 10 :: rest, n))) := by
  unfold Aq
  rw [Gz h10 hl]
  cases h : My w 1 x with
  | none => exact .inr ⟨rfl, rfl⟩
  | some ns =>
    obtain ⟨v, rfl⟩ : ∃ v, ns = [v] := List.length_eq_one_iff.1 (by have := (HE h).2; omega)
    exact .inl ⟨v, rfl, rfl⟩
theorem Re {x rest : List UInt8} (h10 : (10 : UInt8) ∉ x) (hl : (x ++ 10 :: rest).length ≤ 100000) (n : Int) (w : List UInt8) :
    Ch (x ++ 10 :: rest, n) w = match Ok w x with | some ns => some (.inl (ns, rest, BD (n + 1))) | none => some (.inr (n, x ++ 10 :: rest, n)) := by
  obtain ⟨w0, ws, hs, e⟩ := En (x.length + 1) x (Nat.lt_succ_self _)
  obtain ⟨_, h2, h3⟩ := Lt h10 hl hs n
  obtain ⟨p1, p2⟩ := IH hs
  have hxl : x.length ≤ 100000 := by simp at hl; omega
  unfold Ch Ok
  rw [h3, hs]
  by_cases q : w0 = w
  · subst q
    rw [if_pos rfl, Option.bind_some]
    show ES (Av (Br (x ++ 10 :: rest, n) ws) ([], 0)) _ = match (if w0 = w0 then _ else none : Option (List Int)) with | some ns => _ | none => _
    rw [if_pos rfl, show Av (Br (x ++ 10 :: rest, n) ws) ([], 0) = _ from KN (x ++ 10 :: rest, n) ws (by omega) (fun y hy => by have := p2 y hy; omega) ws.length 0 [] (by omega) (by simp), List.drop_zero]
    cases HV ws with
    | none => rfl
    | some ns =>
      show (BQ _).bind _ = _
      rw [h2]; rfl
  · rw [if_neg q]
    show _ = match (if w0 = w then _ else none : Option (List Int)) with | some ns => _ | none => _
    rw [if_neg q]; rfl
abbrev RS (A : Type) : Type := Int × List A
abbrev RE (A : Type) : Type := RS A ⊕ (Js × Int × Bool)
theorem Pd {L : List (List UInt8)} (hL : L.length ≤ 100000) (hx : ∀ x ∈ L, x.length ≤ 100000) (at_ : Nat) (w : List UInt8) :
    Ba L (at_ : Int) w = some (match L[at_]? with | some x => decide (at_ + 1 < L.length) && decide (hd x = w) | none => false) := by
  unfold Ba
  by_cases c : at_ + 1 < L.length
  · have hg : L[at_]? = some (L[at_]'(by omega)) := List.getElem?_eq_getElem (by omega)
    obtain ⟨w0, ws, hs, e⟩ := En ((L[at_]'(by omega)).length + 1) (L[at_]'(by omega)) (Nat.lt_succ_self _)
    rw [Bx (by omega), if_pos (by omega), AQ hg, Option.bind_some, MI (by have := hx _ (List.getElem_mem (show at_ < L.length by omega)); omega), hs, Option.bind_some, show ix (w0 :: ws) 0 = some w0 from AQ (k := 0) rfl, hg]
    simp only [Option.bind_some]
    rw [decide_eq_true c, KD hs, Bool.true_and]
  · rw [Bx (by omega), if_neg (by omega), Option.bind_some]
    cases L[at_]? with
    | none => rfl
    | some x => simp only; rw [decide_eq_false c, Bool.false_and]
theorem IB {x w : List UInt8} {c : Int} (hx : x.length ≤ 100000) (hc : c < 0 ↔ c = -1) : ∃ ns b, Dn x c = some (ns, b) ∧ (hd x = w → My w c x = if b = true then some ns else none) := by
  obtain ⟨w0, ws, hs, e⟩ := En (x.length + 1) x (Nat.lt_succ_self _)
  have h := R1 (by omega) hs (by have := (IH hs).1; omega) c
  cases ha : IF ws with
  | none =>
    rw [ha] at h
    refine ⟨_, _, h, fun hw => ?_⟩
    rw [KD hs] at hw
    unfold My
    rw [hs]
    show (if w0 = w then _ else none) = _
    rw [if_pos hw, ha]; rfl
  | some ns =>
    rw [ha] at h
    refine ⟨_, _, h, fun hw => ?_⟩
    rw [KD hs] at hw
    unfold My
    rw [hs]
    show (if w0 = w then _ else none) = _
    rw [if_pos hw, ha, Option.bind_some]
    by_cases cc : c = -1 ∨ (ns.length : Int) = c
    · rw [if_pos cc, if_pos (by simp only [Bool.or_eq_true, decide_eq_true_iff]; rcases cc with h | h; exact .inl (hc.2 h); exact .inr h)]
    · rw [if_neg cc, if_neg (by simp only [Bool.or_eq_true, decide_eq_true_iff]; rintro (h | h); exact cc (.inl (hc.1 h)); exact cc (.inr h))]
theorem PP {x w : List UInt8} (hx : x.length ≤ 100000) : ∃ ns b, GJ x = some (ns, b) ∧ (hd x = w → Ok w x = if b = true then some ns else none) := by
  obtain ⟨w0, ws, hs, e⟩ := En (x.length + 1) x (Nat.lt_succ_self _)
  obtain ⟨p1, p2⟩ := IH hs
  have h := RL (by omega) hs (by omega) (fun y hy => by have := p2 y hy; omega)
  have hr : hd x = w → Ok w x = HV ws := fun hw => by
    rw [KD hs] at hw
    unfold Ok
    rw [hs]
    show (if w0 = w then _ else none) = _
    rw [if_pos hw]
  cases ha : HV ws with
  | none => rw [ha] at h hr; exact ⟨_, _, h, fun hw => by rw [hr hw]; rfl⟩
  | some ns => rw [ha] at h hr; exact ⟨_, _, h, fun hw => by rw [hr hw]; rfl⟩
theorem Oo {w : List UInt8} {c : Int} {x : List UInt8} (h : ¬ hd x = w) : My w c x = none := by
  obtain ⟨w0, ws, hs, e⟩ := En (x.length + 1) x (Nat.lt_succ_self _)
  rw [KD hs] at h
  unfold My
  rw [hs]
  show (if w0 = w then _ else none) = _
  rw [if_neg h]
def nx {A : Type} (o : Option A) (rest : List UInt8) (n : Int) (xs : List A) : Option (PS A ⊕ (PS A ⊕ R9)) := match o with
  | some a => some (.inl (rest, BD (n + 1), xs ++ [a]))
  | none => some (.inr (.inr (DX, n, 10)))
structure Ls (L : List (List UInt8)) : Prop where
  n : L.length ≤ 3000
  ok : ∀ x ∈ L, (10 : UInt8) ∉ x ∧ x.length ≤ 3000
  s : ∀ a, (jn (L.drop a)).length ≤ 100000
theorem HY {L : List (List UInt8)} {a : Nat} (h : a < L.length) : (a + 1 = L.length ∧ jn (L.drop a) = L[a]) ∨ (a + 1 < L.length ∧ jn (L.drop a) = L[a] ++ 10 :: jn (L.drop (a + 1))) := by
  rw [List.drop_eq_getElem_cons h]
  by_cases c : a + 1 < L.length
  · right
    refine ⟨c, ?_⟩
    rw [List.drop_eq_getElem_cons c]; rfl
  · left
    refine ⟨by omega, ?_⟩
    rw [List.drop_eq_nil_of_le (by omega)]; rfl
theorem HG {A : Type} {SP : PS A → Option (PS A ⊕ (PS A ⊕ R9))} {SR : RS A → Option (RS A ⊕ RE A)} {L : List (List UInt8)} (hL : Ls L) {w : List UInt8} {rd : List UInt8 → Option A} {okA : A → Prop}
    (hP0 : ∀ t n xs, (10 : UInt8) ∉ t → t.length ≤ 100000 → SP (t, n, xs) = some (.inr (.inr (DX, n, 10))))
    (hP1 : ∀ x rest n xs, (10 : UInt8) ∉ x → (x ++ 10 :: rest).length ≤ 100000 → xs.length ≤ 100000 → SP (x ++ 10 :: rest, n, xs) = if hd x = w then nx (rd x) rest n xs else some (.inr (.inl (x ++ 10 :: rest, n, xs))))
    (hR0 : ∀ (a : Nat) xs, a + 1 = L.length → SR ((a : Int), xs) = some (.inr (.inl ((a : Int), xs))))
    (hR1 : ∀ (a : Nat) (h : a < L.length) xs, a + 1 < L.length → xs.length ≤ 100000 → (hd L[a] = w → (∀ y, rd L[a] = some y → SR ((a : Int), xs) = some (.inl (((a + 1 : Nat) : Int), xs ++ [y]))) ∧ (rd L[a] = none → ∃ cc, SR ((a : Int), xs) = some (.inr (.inr (cc, (a : Int), false))))) ∧ (¬ hd L[a] = w → SR ((a : Int), xs) = some (.inr (.inl ((a : Int), xs)))))
    (hok : ∀ x y, x.length ≤ 3000 → rd x = some y → okA y) :
    ∀ (d a : Nat) (xs : List A), a + d + 1 = L.length → xs.length ≤ a → (∀ y ∈ xs, okA y) →
      (∃ (a' : Nat) (ys : List A), a' + 1 < L.length ∧ ys.length ≤ a' ∧ (∀ y ∈ ys, okA y) ∧ Av SP (jn (L.drop a), ((a + 1 : Nat) : Int), xs) = some (.inl (jn (L.drop a'), ((a' + 1 : Nat) : Int), ys)) ∧ Av SR ((a : Int), xs) = some (.inl ((a' : Int), ys))) ∨
      (∃ (a' : Nat) (cc : Js), a' < L.length ∧ Av SP (jn (L.drop a), ((a + 1 : Nat) : Int), xs) = some (.inr (DX, ((a' + 1 : Nat) : Int), 10)) ∧ Av SR ((a : Int), xs) = some (.inr (cc, (a' : Int), false))) ∨
      (∃ (a' : Nat) (ys : List A), a' + 1 = L.length ∧ Av SP (jn (L.drop a), ((a + 1 : Nat) : Int), xs) = some (.inr (DX, ((a' + 1 : Nat) : Int), 10)) ∧ Av SR ((a : Int), xs) = some (.inl ((a' : Int), ys)))
  | d, a, xs, hd', hx, ho => by
    have ha : a < L.length := by omega
    have hn := hL.n
    have hxa := hL.ok _ (List.getElem_mem ha)
    rcases HY ha with ⟨e1, e2⟩ | ⟨e1, e2⟩
    · right; right
      refine ⟨a, xs, e1, AN ?_, AN (hR0 a xs e1)⟩
      rw [e2]; exact hP0 _ _ _ hxa.1 (by omega)
    · have hs := hL.s a
      rw [e2] at hs ⊢
      have hp := hP1 L[a] (jn (L.drop (a + 1))) ((a + 1 : Nat) : Int) xs hxa.1 hs (by omega)
      have hr := hR1 a ha xs e1 (by omega)
      by_cases c : hd L[a] = w
      · rw [if_pos c] at hp
        cases hy : rd L[a] with
        | none =>
          rw [hy] at hp
          obtain ⟨cc, hcc⟩ := (hr.1 c).2 hy
          exact .inr (.inl ⟨a, cc, ha, AN hp, AN hcc⟩)
        | some y =>
          rw [hy] at hp
          have hg := (hr.1 c).1 y hy
          have hp : SP (L[a] ++ 10 :: jn (L.drop (a + 1)), ((a + 1 : Nat) : Int), xs) = some (.inl (jn (L.drop (a + 1)), ((a + 1 + 1 : Nat) : Int), xs ++ [y])) := by
            rw [hp]
            show some (Sum.inl (jn (L.drop (a + 1)), BD (((a + 1 : Nat) : Int) + 1), xs ++ [y])) = _
            rw [Bx (by omega), show ((a + 1 : Nat) : Int) + 1 = ((a + 1 + 1 : Nat) : Int) from by omega]
          rw [BZ hp, BZ hg]
          match d, hd' with
          | 0, hd' => omega
          | d + 1, hd' =>
            exact HG hL hP0 hP1 hR0 hR1 hok d (a + 1) (xs ++ [y]) (by omega) (by simp; omega) (fun z hz => by
              rcases List.mem_append.1 hz with hz | hz
              · exact ho z hz
              · rw [List.mem_singleton.1 hz]; exact hok _ _ hxa.2 hy)
      · rw [if_neg c] at hp
        exact .inl ⟨a, xs, e1, hx, ho, by rw [AN hp, e2], AN (hr.2 c)⟩
end Go.Proofs.YthmkgdnnocemmaaGreatDoor
