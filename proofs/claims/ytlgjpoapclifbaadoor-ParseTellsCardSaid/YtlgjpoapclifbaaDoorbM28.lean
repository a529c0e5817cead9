/- Layer 29: tokens. Conditions: none. -/
import Derived.Test.YtlgjpoapclifbaaDoorbLP
import Derived.Test.YtlgjpoapclifbaaDoorbA13
namespace Go.Proofs.YtlgjpoapclifbaaDoor
set_option linter.unusedVariables false
set_option linter.unusedSimpArgs false
open Go Go.RowKit
abbrev Fj := Int × Int × List UInt8 × Int
def CG : Bool → List UInt8 → Nat
  | _, [] => 0
  | c, b :: t => if b.toNat = 10 then 1 + CG false t else if b.toNat = 35 then 1 + CG true t else if c = false ∧ b.toNat ≠ 32 ∧ b.toNat ≠ 9 then 0 else 1 + CG c t
theorem KL {s : List UInt8} (hs : s.length ≤ 5000) {at_ : Nat} (ha : at_ ≤ s.length) : Ee s (at_ : Int) = some ((at_ + CG false (s.drop at_) : Nat) : Int) := by
  have key : ∀ (d k : Nat), k + d = s.length → ∀ c : Bool, ∃ e, Bx (DO s) ((k : Int), c) = some e ∧ (e = .inl ((k + CG c (s.drop k) : Nat) : Int) ∨ e = .inr ((k + CG c (s.drop k) : Nat) : Int)) := by
    intro d
    induction d with
    | zero =>
      intro k hk c
      refine ⟨_, Cg (by rw [DO, if_neg (by omega)]), .inl ?_⟩
      rw [List.drop_eq_nil_of_le (by omega)]; simp [CG]
    | succ d ih =>
      intro k hk c
      have hkl : k < s.length := by omega
      rw [List.drop_eq_getElem_cons hkl]
      have step : DO s ((k : Int), c) = J4 ((if (s[k].toNat : Int) = 10 then some (.inl false) else (if (s[k].toNat : Int) = 35 then some (.inl true) else (if (!c && (decide ((s[k].toNat : Int) ≠ 32) && decide ((s[k].toNat : Int) ≠ 9))) = true then some (.inr (.inr (.inr (k : Int)))) else some (.inl c))))) fun x4 => some (.inl (((k + 1 : Nat) : Int), x4)) := by
        rw [DO, if_pos (by omega), CQ (List.getElem?_eq_getElem hkl), Option.bind_some, BU (by omega)]; rfl
      unfold CG
      by_cases c1 : s[k].toNat = 10
      · obtain ⟨e, h1, h2⟩ := ih (k + 1) (by omega) false
        refine ⟨e, ?_, ?_⟩
        · rw [Eh (s' := (((k + 1 : Nat) : Int), false)) (by rw [step, if_pos (by omega)]; rfl), h1]
        · rw [if_pos c1, show k + (1 + CG false (s.drop (k + 1))) = k + 1 + CG false (s.drop (k + 1)) by omega]; exact h2
      · by_cases c2 : s[k].toNat = 35
        · obtain ⟨e, h1, h2⟩ := ih (k + 1) (by omega) true
          refine ⟨e, ?_, ?_⟩
          · rw [Eh (s' := (((k + 1 : Nat) : Int), true)) (by rw [step, if_neg (by omega), if_pos (by omega)]; rfl), h1]
          · rw [if_neg c1, if_pos c2, show k + (1 + CG true (s.drop (k + 1))) = k + 1 + CG true (s.drop (k + 1)) by omega]; exact h2
        · by_cases c3 : c = false ∧ s[k].toNat ≠ 32 ∧ s[k].toNat ≠ 9
          · refine ⟨.inr (k : Int), Cg (by rw [step, if_neg (by omega), if_neg (by omega), if_pos (by obtain ⟨h1, h2, h3⟩ := c3; subst h1; simp; omega)]; rfl), .inr ?_⟩
            rw [if_neg c1, if_neg c2, if_pos c3]; rfl
          · obtain ⟨e, h1, h2⟩ := ih (k + 1) (by omega) c
            refine ⟨e, ?_, ?_⟩
            · rw [Eh (s' := (((k + 1 : Nat) : Int), c)) (by
                rw [step, if_neg (by omega), if_neg (by omega), if_neg (by
                  intro h
                  apply c3
                  simp only [Bool.and_eq_true, Bool.not_eq_true', decide_eq_true_eq] at h
                  exact ⟨h.1, by omega, by omega⟩)]; rfl), h1]
            · rw [if_neg c1, if_neg c2, if_neg c3, show k + (1 + CG c (s.drop (k + 1))) = k + 1 + CG c (s.drop (k + 1)) by omega]; exact h2
  obtain ⟨e, h1, h2⟩ := key (s.length - at_) at_ (by omega) false
  unfold Ee
  rw [h1]
  rcases h2 with rfl | rfl <;> rfl
def Iq (b : UInt8) : Bool := decide (97 ≤ b.toNat ∧ b.toNat ≤ 122)
def GX (b : UInt8) : Bool := decide (48 ≤ b.toNat ∧ b.toNat ≤ 57)
def BN (p : UInt8 → Bool) : List UInt8 → Nat
  | [] => 0
  | b :: t => if p b = true then 1 + BN p t else 0
theorem DF (p : UInt8 → Bool) : ∀ l, BN p l ≤ l.length
  | [] => Nat.le_refl _
  | b :: t => by
    have := DF p t
    unfold BN
    simp only [List.length_cons]
    split <;> omega
theorem JD {s : List UInt8} (hs : s.length ≤ 5000) {p : UInt8 → Bool} {S : Int → Option (Int ⊕ Int)} (h1 : ∀ (k : Nat) (hk : k < s.length), S (k : Int) = if p s[k] = true then some (.inl ((k + 1 : Nat) : Int)) else some (.inr (k : Int))) (h2 : S (s.length : Int) = some (.inr (s.length : Int))) : Bx S 0 = some ((BN p s : Nat) : Int) := by
  have key : ∀ (d k : Nat), k + d = s.length → Bx S (k : Int) = some ((k + BN p (s.drop k) : Nat) : Int) := by
    intro d
    induction d with
    | zero =>
      intro k hk
      obtain rfl : k = s.length := by omega
      rw [Cg h2, List.drop_eq_nil_of_le (by omega)]; rfl
    | succ d ih =>
      intro k hk
      have hkl : k < s.length := by omega
      have := h1 k hkl
      rw [List.drop_eq_getElem_cons hkl]
      unfold BN
      by_cases c : p s[k] = true
      · rw [if_pos c] at this
        rw [Eh this, ih (k + 1) (by omega), if_pos c, show k + 1 + BN p (s.drop (k + 1)) = k + (1 + BN p (s.drop (k + 1))) by omega]
      · rw [if_neg c] at this
        rw [Cg this, if_neg c]; rfl
  have := key s.length 0 (by omega)
  simpa using this
theorem QO {s : List UInt8} (hs : s.length ≤ 5000) : HT s = some ((BN Iq s : Nat) : Int) := by
  unfold HT
  rw [JD (p := Iq) hs (fun k hk => by
    rw [FP, if_pos (by omega), CQ (List.getElem?_eq_getElem hk), Option.bind_some, Option.bind_some, BU (by omega)]
    have e : D4 (s[k].toNat : Int) = Iq s[k] := by
      unfold D4 Iq
      rw [← Bool.decide_and]
      exact decide_eq_decide.2 ⟨fun h => by omega, fun h => by omega⟩
    rw [e]; rfl) (by rw [FP, if_neg (by omega), Option.bind_some, if_neg (by decide)])]; rfl
theorem QM {s : List UInt8} (hs : s.length ≤ 5000) : FO s = some ((BN GX s : Nat) : Int) := by
  unfold FO
  rw [JD (p := GX) hs (fun k hk => by
    rw [EJ, if_pos (by omega), CQ (List.getElem?_eq_getElem hk), Option.bind_some, Option.bind_some, BU (by omega)]
    have e : EH (s[k].toNat : Int) = GX s[k] := by
      unfold EH GX
      rw [← Bool.decide_and]
      exact decide_eq_decide.2 ⟨fun h => by omega, fun h => by omega⟩
    rw [e]; rfl) (by rw [EJ, if_neg (by omega), Option.bind_some, if_neg (by decide)])]; rfl
theorem J8 (d : List UInt8) (hd : d.length ≤ 5000) : ∃ (k n : Int) (z : Nat), Cp d = some ((k, n, [], 0), (z : Int)) ∧ (z = 0 ∨ z = d.length) := by
  unfold Cp
  by_cases c1 : 3 < (d.length : Int)
  · rw [if_pos c1]
    exact ⟨0, 0, 0, rfl, .inl rfl⟩
  · rw [if_neg c1]
    have hb : ∃ b, (if 1 < (d.length : Int) then (ix d 0).bind fun x2 => some (decide ((x2.toNat : Int) = 48)) else some false) = some b := by
      by_cases c2 : 1 < (d.length : Int)
      · rw [if_pos c2, show (0 : Int) = ((0 : Nat) : Int) from rfl, CQ (List.getElem?_eq_getElem (show 0 < d.length by omega))]
        exact ⟨_, rfl⟩
      · rw [if_neg c2]; exact ⟨_, rfl⟩
    obtain ⟨b, hb⟩ := hb
    rw [hb, Option.bind_some]
    cases b
    · obtain ⟨e, h1, _⟩ := PX (step := Cf d) (fun st => ∃ k : Nat, k ≤ d.length ∧ st.2 = (k : Int)) (fun st => d.length - st.2.toNat) (fun _ => True) (by
        rintro ⟨x, y⟩ ⟨k, hk, rfl⟩
        by_cases c : k < d.length
        · left
          exact ⟨_, by rw [Cf, if_pos (by omega), CQ (List.getElem?_eq_getElem c), Option.bind_some, BU (x := (k : Int) + 1) (by omega)], ⟨k + 1, by omega, rfl⟩, by simp only; omega⟩
        · right
          exact ⟨_, by rw [Cf, if_neg (by omega)], trivial⟩) (0, 0) ⟨0, by omega, rfl⟩
      rw [if_neg (by decide), h1]
      exact ⟨2, e, d.length, rfl, .inr rfl⟩
    · rw [if_pos rfl]
      exact ⟨0, 0, 0, rfl, .inl rfl⟩
def FY (l : List UInt8) : Nat := match l with
  | [] => 0
  | a :: t => if a.toNat = 40 ∨ a.toNat = 41 ∨ a.toNat = 59 ∨ a.toNat = 124 ∨ a.toNat = 61 then 1 else if (a :: t).take 2 = [58, 61] then 2 else 0
theorem Gy (a : UInt8) (t : List UInt8) : FY (a :: t) = if a.toNat = 40 ∨ a.toNat = 41 ∨ a.toNat = 59 ∨ a.toNat = 124 ∨ a.toNat = 61 then 1 else if (a :: t).take 2 = [58, 61] then 2 else 0 := rfl
theorem Q0 {l : List UInt8} (h0 : 0 < l.length) : D9 l = some ((FY l : Nat) : Int) := by
  cases l with
  | nil => cases h0
  | cons a t =>
    unfold D9
    rw [Gy, show ix (a :: t) 0 = some a from rfl, Option.bind_some]
    have hb : (if (a.toNat : Int) = 40 then some true else (if (a.toNat : Int) = 41 then some true else (if (a.toNat : Int) = 59 then some true else (if (a.toNat : Int) = 124 then some true else some (decide ((a.toNat : Int) = 61)))))) = some (decide (a.toNat = 40 ∨ a.toNat = 41 ∨ a.toNat = 59 ∨ a.toNat = 124 ∨ a.toNat = 61)) := by
      by_cases c1 : a.toNat = 40
      · rw [if_pos (by omega)]; simp [c1]
      · rw [if_neg (by omega)]
        by_cases c2 : a.toNat = 41
        · rw [if_pos (by omega)]; simp [c2]
        · rw [if_neg (by omega)]
          by_cases c3 : a.toNat = 59
          · rw [if_pos (by omega)]; simp [c3]
          · rw [if_neg (by omega)]
            by_cases c4 : a.toNat = 124
            · rw [if_pos (by omega)]; simp [c4]
            · rw [if_neg (by omega)]
              congr 1
              exact decide_eq_decide.2 ⟨fun h => by omega, fun h => by omega⟩
    rw [hb, Option.bind_some]
    by_cases c : a.toNat = 40 ∨ a.toNat = 41 ∨ a.toNat = 59 ∨ a.toNat = 124 ∨ a.toNat = 61
    · rw [decide_eq_true c, if_pos rfl, if_pos c]; rfl
    · rw [decide_eq_false c, if_neg (by decide), if_neg c]
      have hp : Cv (a :: t) [58, 61] = some (decide ((a :: t).take 2 = [58, 61])) := by
        unfold Cv BK
        by_cases h2 : (2 : Int) ≤ ((a :: t).length : Int)
        · rw [if_pos (show ((([58, 61] : List UInt8).length : Nat) : Int) ≤ ((a :: t).length : Int) from h2), HQ (by simp only [List.length_cons, List.length_nil] at h2 ⊢; omega)]; rfl
        · rw [if_neg (show ¬ ((([58, 61] : List UInt8).length : Nat) : Int) ≤ ((a :: t).length : Int) from h2), decide_eq_false (fun h => by
            have := congrArg List.length h
            rw [List.length_take] at this
            simp only [List.length_cons, List.length_nil] at this h2; omega)]; rfl
      rw [hp, Option.bind_some]
      by_cases c2 : (a :: t).take 2 = [58, 61]
      · rw [decide_eq_true c2, if_pos rfl, if_pos c2]; rfl
      · rw [decide_eq_false c2, if_neg (by decide), if_neg c2]; rfl
theorem Lc (l : List UInt8) : FY l ≤ l.length := by
  cases l with
  | nil => exact Nat.le_refl _
  | cons a t =>
    rw [Gy]
    split
    · simp
    · split
      · rename_i h
        have := congrArg List.length h
        rw [List.length_take] at this
        simp only [List.length_cons, List.length_nil] at this ⊢; omega
      · exact Nat.zero_le _
theorem F9 {l : List UInt8} (h0 : 0 < l.length) (hl : l.length ≤ 5000) : Cq l = if 0 < BN Iq l then some ((1, 0, l.take (BN Iq l), 0), ((BN Iq l : Nat) : Int)) else if 0 < BN GX l then Cp (l.take (BN GX l)) else if FY l = 0 then some ((0, 0, [], 0), 0) else some ((3, 0, l.take (FY l), 0), ((FY l : Nat) : Int)) := by
  have a1 := DF Iq l
  have a2 := DF GX l
  have a3 := Lc l
  unfold Cq
  rw [QO hl, Option.bind_some]
  by_cases c1 : 0 < BN Iq l
  · rw [if_pos (by omega), if_pos c1, HQ (by omega)]; rfl
  · rw [if_neg (by omega), if_neg c1, QM hl, Option.bind_some]
    by_cases c2 : 0 < BN GX l
    · rw [if_pos (by omega), if_pos c2, HQ (by omega), Option.bind_some]
      show (Cp (l.take (BN GX l))).bind _ = _
      cases Cp (l.take (BN GX l)) <;> rfl
    · rw [if_neg (by omega), if_neg c2, Q0 h0, Option.bind_some]
      by_cases c3 : FY l = 0
      · rw [if_pos (by omega), if_pos c3]
      · rw [if_neg (by omega), if_neg c3, HQ (by omega)]; rfl
theorem P8 {l : List UInt8} (h0 : 0 < l.length) (hl : l.length ≤ 5000) : ∃ (k n : Int) (w : List UInt8) (z : Nat), Cq l = some ((k, n, w, 0), (z : Int)) ∧ z ≤ l.length := by
  have a1 := DF Iq l
  have a2 := DF GX l
  have a3 := Lc l
  rw [F9 h0 hl]
  by_cases c1 : 0 < BN Iq l
  · rw [if_pos c1]; exact ⟨1, 0, _, _, rfl, a1⟩
  · rw [if_neg c1]
    by_cases c2 : 0 < BN GX l
    · rw [if_pos c2]
      obtain ⟨k, n, z, h1, h2⟩ := J8 (l.take (BN GX l)) (by rw [List.length_take]; omega)
      refine ⟨k, n, [], z, h1, ?_⟩
      rw [List.length_take] at h2; omega
    · rw [if_neg c2]
      by_cases c3 : FY l = 0
      · rw [if_pos c3]; exact ⟨0, 0, [], 0, rfl, Nat.zero_le _⟩
      · rw [if_neg c3]; exact ⟨3, 0, _, _, rfl, a3⟩
theorem Em (p : UInt8 → Bool) (b : UInt8) (t : List UInt8) : BN p (b :: t) = if p b = true then 1 + BN p t else 0 := rfl
theorem GS (p : UInt8 → Bool) : ∀ w r : List UInt8, BN p (w ++ r) = if BN p w < w.length then BN p w else w.length + BN p r
  | [], r => by simp [BN]
  | b :: t, r => by
    have ih := GS p t r
    have hl := DF p t
    have hn : (b :: t).length = t.length + 1 := rfl
    show BN p (b :: (t ++ r)) = _
    by_cases c : p b = true
    · have e1 : BN p (b :: (t ++ r)) = 1 + BN p (t ++ r) := by rw [Em, if_pos c]
      have e2 : BN p (b :: t) = 1 + BN p t := by rw [Em, if_pos c]
      by_cases c2 : BN p t < t.length
      · rw [if_pos c2] at ih
        rw [if_pos (by omega)]; omega
      · rw [if_neg c2] at ih
        rw [if_neg (by omega)]; omega
    · have e1 : BN p (b :: (t ++ r)) = 0 := by rw [Em, if_neg c]
      have e2 : BN p (b :: t) = 0 := by rw [Em, if_neg c]
      rw [if_pos (by omega)]; omega
theorem PR (p : UInt8 → Bool) (hp : p 9 = false) (w r : List UInt8) : BN p (w ++ 9 :: r) = BN p w := by
  have hl := DF p w
  have h0 : BN p (9 :: r) = 0 := by unfold BN; rw [if_neg (by rw [hp]; decide)]
  by_cases hc : BN p w < w.length
  · rw [GS, if_pos hc]
  · rw [GS, if_neg hc, h0]; omega
theorem IM (p : UInt8 → Bool) (hp : p 9 = false) {w r r' : List UInt8} (h : BN p (w ++ r) ≤ w.length) : BN p (w ++ 9 :: r') = BN p (w ++ r) := by
  have hl := DF p w
  rw [PR p hp]
  by_cases hc : BN p w < w.length
  · rw [GS, if_pos hc]
  · rw [GS, if_neg hc] at h ⊢
    omega
theorem Ns {w r r' : List UInt8} {t : Fj} {z : Nat} (hl : (w ++ r).length ≤ 5000) (hl' : (w ++ 9 :: r').length ≤ 5000) (h : Cq (w ++ r) = some (t, (z : Int))) (hz : 0 < z) (hw : z ≤ w.length) : Cq (w ++ 9 :: r') = some (t, (z : Int)) := by
  have hw0 : 0 < w.length := by omega
  have t1 : ∀ n, n ≤ w.length → (w ++ r).take n = (w ++ 9 :: r').take n := fun n hn => by
    rw [List.take_append_of_le_length hn, List.take_append_of_le_length hn]
  rw [F9 (by simp; omega) hl] at h
  rw [F9 (by simp; omega) hl']
  by_cases c1 : 0 < BN Iq (w ++ r)
  · rw [if_pos c1] at h
    have e := Option.some.inj h
    have ez : BN Iq (w ++ r) = z := by have := congrArg Prod.snd e; simp only at this; omega
    rw [IM Iq (by decide) (r := r) (by omega), if_pos c1, ← t1 _ (by omega)]
    exact h
  · rw [if_neg c1] at h
    rw [IM Iq (by decide) (r := r) (by omega), if_neg c1]
    by_cases c2 : 0 < BN GX (w ++ r)
    · rw [if_pos c2] at h
      have a2 := DF GX (w ++ r)
      obtain ⟨k, n, z', h1, h2⟩ := J8 ((w ++ r).take (BN GX (w ++ r))) (by rw [List.length_take]; omega)
      rw [h1] at h
      have e := Option.some.inj h
      have ez : z' = z := by have := congrArg Prod.snd e; simp only at this; omega
      rw [List.length_take] at h2
      have ez2 : BN GX (w ++ r) = z := by omega
      rw [IM GX (by decide) (r := r) (by omega), if_pos c2, ← t1 _ (by omega), h1]
      exact h
    · rw [if_neg c2] at h
      rw [IM GX (by decide) (r := r) (by omega), if_neg c2]
      by_cases c3 : FY (w ++ r) = 0
      · rw [if_pos c3] at h
        have e := Option.some.inj h
        have := congrArg Prod.snd e
        simp only at this; omega
      · rw [if_neg c3] at h
        have e := Option.some.inj h
        have ez : FY (w ++ r) = z := by have := congrArg Prod.snd e; simp only at this; omega
        have es : FY (w ++ 9 :: r') = FY (w ++ r) := by
          cases w with
          | nil => cases hw0
          | cons a u =>
            have t2 := t1 2
            simp only [List.cons_append, Gy] at ez t2 ⊢
            by_cases d1 : a.toNat = 40 ∨ a.toNat = 41 ∨ a.toNat = 59 ∨ a.toNat = 124 ∨ a.toNat = 61
            · rw [if_pos d1, if_pos d1]
            · rw [if_neg d1] at ez
              rw [if_neg d1, if_neg d1]
              by_cases d2 : (a :: (u ++ r)).take 2 = [58, 61]
              · rw [if_pos d2] at ez
                rw [if_pos d2, if_pos (by rw [← t2 (by omega)]; exact d2)]
              · rw [if_neg d2] at ez; omega
        rw [es, if_neg c3, ← t1 _ (by omega)]
        exact h
theorem FN (c : Bool) (b : UInt8) (t : List UInt8) : CG c (b :: t) = if b.toNat = 10 then 1 + CG false t else if b.toNat = 35 then 1 + CG true t else if c = false ∧ b.toNat ≠ 32 ∧ b.toNat ≠ 9 then 0 else 1 + CG c t := by cases c <;> rfl
inductive Run (s : List UInt8) : Nat → List Fj → Prop
  | nil {a : Nat} : s.length ≤ a → Run s a []
  | cons {a : Nat} {k n : Int} {w : List UInt8} {z : Nat} {ts : List Fj} : a < s.length → Cq (s.drop a) = some ((k, n, w, 0), (z : Int)) → 0 < z → a + z ≤ s.length → Run s (a + z + CG false (s.drop (a + z))) ts → Run s a ((k, n, w, (a : Int)) :: ts)
theorem Pg {s : List UInt8} (hs : s.length ≤ 4000) : ∀ (d a : Nat), s.length - a ≤ d → ∀ out : List Fj, out.length ≤ 500 →
    (∃ ts, Bx (Cb s) (out, (a : Int)) = some (.inl (out ++ ts)) ∧ Run s a ts ∧ (out ++ ts).length ≤ 500) ∨ ∃ (p e : Int), Bx (Cb s) (out, (a : Int)) = some (.inr ([], p, e)) ∧ e ≠ 0 := by
  intro d
  induction d with
  | zero =>
    intro a ha out ho
    exact .inl ⟨[], by rw [Cg (by rw [Cb, if_neg (by omega)]), List.append_nil], .nil (by omega), by simpa using ho⟩
  | succ d ih =>
    intro a ha out ho
    by_cases c : a < s.length
    · obtain ⟨k, n, w, z, h1, h2⟩ := P8 (l := s.drop a) (by rw [List.length_drop]; omega) (by rw [List.length_drop]; omega)
      rw [List.length_drop] at h2
      have hstep : Cb s (out, (a : Int)) = (if (z : Int) = 0 then some (.inr (.inr (([] : List Fj), (a : Int), 10))) else (if (out.length : Int) = 500 then some (.inr (.inr (([] : List Fj), (a : Int), 6))) else (Eo out ([(k, n, w, (a : Int))] : List Fj)).bind fun x7 => (Ee s (Co ((a : Int) + (z : Int)))).bind fun x8 => some (.inl (x7, x8)))) := by
        rw [Cb, if_pos (by omega), HQ (by omega), Option.bind_some, Int.toNat_natCast, Int.toNat_natCast, List.take_length, h1]; rfl
      by_cases cz : z = 0
      · exact .inr ⟨_, _, Cg (by rw [hstep, if_pos (by omega)]), by decide⟩
      · by_cases co : out.length = 500
        · exact .inr ⟨_, _, Cg (by rw [hstep, if_neg (by omega), if_pos (by omega)]), by decide⟩
        · have hgo : Cb s (out, (a : Int)) = some (.inl (out ++ [(k, n, w, (a : Int))], ((a + z + CG false (s.drop (a + z)) : Nat) : Int))) := by
            rw [hstep, if_neg (by omega), if_neg (by omega), Gj (by simp; omega), Option.bind_some, BU (by omega), show (a : Int) + (z : Int) = ((a + z : Nat) : Int) by omega, KL (by omega) (by omega)]; rfl
          rw [Eh hgo]
          rcases ih (a + z + CG false (s.drop (a + z))) (by omega) (out ++ [(k, n, w, (a : Int))]) (by simp; omega) with ⟨ts, g1, g2, g3⟩ | h
          · exact .inl ⟨(k, n, w, (a : Int)) :: ts, by rw [g1]; simp, .cons c h1 (by omega) (by omega) g2, by simpa using g3⟩
          · exact .inr h
    · exact .inl ⟨[], by rw [Cg (by rw [Cb, if_neg (by omega)]), List.append_nil], .nil (by omega), by simpa using ho⟩
abbrev Gg (s : List UInt8) : Fj := (4, 0, [], (s.length : Int))
theorem NL {s : List UInt8} (hs : s.length ≤ 4000) : (∃ ts, FQ s = some (ts ++ [Gg s], 0, 0) ∧ Run s (CG false s) ts ∧ ts.length ≤ 500) ∨ ∃ (p e : Int), FQ s = some ([], p, e) ∧ e ≠ 0 := by
  have hk := KL (s := s) (at_ := 0) (by omega) (by omega)
  have hk' : Ee s 0 = some ((CG false s : Nat) : Int) := by
    have : Ee s ((0 : Nat) : Int) = some ((CG false s : Nat) : Int) := by rw [hk]; simp
    exact this
  unfold FQ
  rw [if_neg (by omega), hk', Option.bind_some]
  rcases Pg hs s.length (CG false s) (by omega) [] (by simp) with ⟨ts, h1, h2, h3⟩ | ⟨p, e, h1, h2⟩
  · left
    rw [List.nil_append] at h1 h3
    refine ⟨ts, ?_, h2, h3⟩
    rw [h1]
    show (Eo ts [Gg s]).bind _ = _
    rw [Gj (by simp; omega)]; rfl
  · right
    exact ⟨p, e, by rw [h1]; rfl, h2⟩
end Go.Proofs.YtlgjpoapclifbaaDoor
