/- Layer 29: tokens. Conditions: none. -/
import Derived.Test.YtlgjpoapclifbaaDoorcLP
import Derived.Test.YtlgjpoapclifbaaDoorcA13
namespace Go.Proofs.YtlgjpoapclifbaaDoor
set_option linter.unusedVariables false
set_option linter.unusedSimpArgs false
open Go Go.RowKit
abbrev Hj := Int × Int × List UInt8 × Int
def DJ : Bool → List UInt8 → Nat
  | _, [] => 0
  | c, b :: t => if b.toNat = 10 then 1 + DJ false t else if b.toNat = 35 then 1 + DJ true t else if c = false ∧ b.toNat ≠ 32 ∧ b.toNat ≠ 9 then 0 else 1 + DJ c t
theorem Q5 {s : List UInt8} (hs : s.length ≤ 5000) {at_ : Nat} (ha : at_ ≤ s.length) : Fq s (at_ : Int) = some ((at_ + DJ false (s.drop at_) : Nat) : Int) := by
  have key : ∀ (d k : Nat), k + d = s.length → ∀ c : Bool, ∃ e, Br (Ep s) ((k : Int), c) = some e ∧ (e = .inl ((k + DJ c (s.drop k) : Nat) : Int) ∨ e = .inr ((k + DJ c (s.drop k) : Nat) : Int)) := by
    intro d
    induction d with
    | zero =>
      intro k hk c
      refine ⟨_, GJ (by rw [Ep, if_neg (by omega)]), .inl ?_⟩
      rw [List.drop_eq_nil_of_le (by omega)]; simp [DJ]
    | succ d ih =>
      intro k hk c
      have hkl : k < s.length := by omega
      rw [List.drop_eq_getElem_cons hkl]
      have step : Ep s ((k : Int), c) = KC ((if (s[k].toNat : Int) = 10 then some (.inl false) else (if (s[k].toNat : Int) = 35 then some (.inl true) else (if (!c && (decide ((s[k].toNat : Int) ≠ 32) && decide ((s[k].toNat : Int) ≠ 9))) = true then some (.inr (.inr (.inr (k : Int)))) else some (.inl c))))) fun x4 => some (.inl (((k + 1 : Nat) : Int), x4)) := by
        rw [Ep, if_pos (by omega), C0 (List.getElem?_eq_getElem hkl), Option.bind_some, BN (by omega)]; rfl
      unfold DJ
      by_cases c1 : s[k].toNat = 10
      · obtain ⟨e, h1, h2⟩ := ih (k + 1) (by omega) false
        refine ⟨e, ?_, ?_⟩
        · rw [H1 (s' := (((k + 1 : Nat) : Int), false)) (by rw [step, if_pos (by omega)]; rfl), h1]
        · rw [if_pos c1, show k + (1 + DJ false (s.drop (k + 1))) = k + 1 + DJ false (s.drop (k + 1)) by omega]; exact h2
      · by_cases c2 : s[k].toNat = 35
        · obtain ⟨e, h1, h2⟩ := ih (k + 1) (by omega) true
          refine ⟨e, ?_, ?_⟩
          · rw [H1 (s' := (((k + 1 : Nat) : Int), true)) (by rw [step, if_neg (by omega), if_pos (by omega)]; rfl), h1]
          · rw [if_neg c1, if_pos c2, show k + (1 + DJ true (s.drop (k + 1))) = k + 1 + DJ true (s.drop (k + 1)) by omega]; exact h2
        · by_cases c3 : c = false ∧ s[k].toNat ≠ 32 ∧ s[k].toNat ≠ 9
          · refine ⟨.inr (k : Int), GJ (by rw [step, if_neg (by omega), if_neg (by omega), if_pos (by obtain ⟨h1, h2, h3⟩ := c3; subst h1; simp; omega)]; rfl), .inr ?_⟩
            rw [if_neg c1, if_neg c2, if_pos c3]; rfl
          · obtain ⟨e, h1, h2⟩ := ih (k + 1) (by omega) c
            refine ⟨e, ?_, ?_⟩
            · rw [H1 (s' := (((k + 1 : Nat) : Int), c)) (by
                rw [step, if_neg (by omega), if_neg (by omega), if_neg (by
                  intro h
                  apply c3
                  simp only [Bool.and_eq_true, Bool.not_eq_true', decide_eq_true_eq] at h
                  exact ⟨h.1, by omega, by omega⟩)]; rfl), h1]
            · rw [if_neg c1, if_neg c2, if_neg c3, show k + (1 + DJ c (s.drop (k + 1))) = k + 1 + DJ c (s.drop (k + 1)) by omega]; exact h2
  obtain ⟨e, h1, h2⟩ := key (s.length - at_) at_ (by omega) false
  unfold Fq
  rw [h1]
  rcases h2 with rfl | rfl <;> rfl
def Kq (b : UInt8) : Bool := decide (97 ≤ b.toNat ∧ b.toNat ≤ 122)
def JT (b : UInt8) : Bool := decide (48 ≤ b.toNat ∧ b.toNat ≤ 57)
def Cf (p : UInt8 → Bool) : List UInt8 → Nat
  | [] => 0
  | b :: t => if p b = true then 1 + Cf p t else 0
theorem FT (p : UInt8 → Bool) : ∀ l, Cf p l ≤ l.length
  | [] => Nat.le_refl _
  | b :: t => by
    have := FT p t
    unfold Cf
    simp only [List.length_cons]
    split <;> omega
theorem Pb {s : List UInt8} (hs : s.length ≤ 5000) {p : UInt8 → Bool} {S : Int → Option (Int ⊕ Int)} (h1 : ∀ (k : Nat) (hk : k < s.length), S (k : Int) = if p s[k] = true then some (.inl ((k + 1 : Nat) : Int)) else some (.inr (k : Int))) (h2 : S (s.length : Int) = some (.inr (s.length : Int))) : Br S 0 = some ((Cf p s : Nat) : Int) := by
  have key : ∀ (d k : Nat), k + d = s.length → Br S (k : Int) = some ((k + Cf p (s.drop k) : Nat) : Int) := by
    intro d
    induction d with
    | zero =>
      intro k hk
      obtain rfl : k = s.length := by omega
      rw [GJ h2, List.drop_eq_nil_of_le (by omega)]; rfl
    | succ d ih =>
      intro k hk
      have hkl : k < s.length := by omega
      have := h1 k hkl
      rw [List.drop_eq_getElem_cons hkl]
      unfold Cf
      by_cases c : p s[k] = true
      · rw [if_pos c] at this
        rw [H1 this, ih (k + 1) (by omega), if_pos c, show k + 1 + Cf p (s.drop (k + 1)) = k + (1 + Cf p (s.drop (k + 1))) by omega]
      · rw [if_neg c] at this
        rw [GJ this, if_neg c]; rfl
  have := key s.length 0 (by omega)
  simpa using this
theorem SR {s : List UInt8} (hs : s.length ≤ 5000) : Ia s = some ((Cf Kq s : Nat) : Int) := by
  unfold Ia
  rw [Pb (p := Kq) hs (fun k hk => by
    rw [Gd, if_pos (by omega), C0 (List.getElem?_eq_getElem hk), Option.bind_some, Option.bind_some, BN (by omega)]
    have e : ED (s[k].toNat : Int) = Kq s[k] := by
      unfold ED Kq
      rw [← Bool.decide_and]
      exact decide_eq_decide.2 ⟨fun h => by omega, fun h => by omega⟩
    rw [e]; rfl) (by rw [Gd, if_neg (by omega), Option.bind_some, if_neg (by decide)])]; rfl
theorem SW {s : List UInt8} (hs : s.length ≤ 5000) : F7 s = some ((Cf JT s : Nat) : Int) := by
  unfold F7
  rw [Pb (p := JT) hs (fun k hk => by
    rw [E9, if_pos (by omega), C0 (List.getElem?_eq_getElem hk), Option.bind_some, Option.bind_some, BN (by omega)]
    have e : E7 (s[k].toNat : Int) = JT s[k] := by
      unfold E7 JT
      rw [← Bool.decide_and]
      exact decide_eq_decide.2 ⟨fun h => by omega, fun h => by omega⟩
    rw [e]; rfl) (by rw [E9, if_neg (by omega), Option.bind_some, if_neg (by decide)])]; rfl
theorem NH (d : List UInt8) (hd : d.length ≤ 5000) : ∃ (k n : Int) (z : Nat), Cu d = some ((k, n, [], 0), (z : Int)) ∧ (z = 0 ∨ z = d.length) := by
  unfold Cu
  by_cases c1 : 3 < (d.length : Int)
  · rw [if_pos c1]
    exact ⟨0, 0, 0, rfl, .inl rfl⟩
  · rw [if_neg c1]
    have hb : ∃ b, (if 1 < (d.length : Int) then (ix d 0).bind fun x2 => some (decide ((x2.toNat : Int) = 48)) else some false) = some b := by
      by_cases c2 : 1 < (d.length : Int)
      · rw [if_pos c2, show (0 : Int) = ((0 : Nat) : Int) from rfl, C0 (List.getElem?_eq_getElem (show 0 < d.length by omega))]
        exact ⟨_, rfl⟩
      · rw [if_neg c2]; exact ⟨_, rfl⟩
    obtain ⟨b, hb⟩ := hb
    rw [hb, Option.bind_some]
    cases b
    · obtain ⟨e, h1, _⟩ := SL (step := Cm d) (fun st => ∃ k : Nat, k ≤ d.length ∧ st.2 = (k : Int)) (fun st => d.length - st.2.toNat) (fun _ => True) (by
        rintro ⟨x, y⟩ ⟨k, hk, rfl⟩
        by_cases c : k < d.length
        · left
          exact ⟨_, by rw [Cm, if_pos (by omega), C0 (List.getElem?_eq_getElem c), Option.bind_some, BN (x := (k : Int) + 1) (by omega)], ⟨k + 1, by omega, rfl⟩, by simp only; omega⟩
        · right
          exact ⟨_, by rw [Cm, if_neg (by omega)], trivial⟩) (0, 0) ⟨0, by omega, rfl⟩
      rw [if_neg (by decide), h1]
      exact ⟨2, e, d.length, rfl, .inr rfl⟩
    · rw [if_pos rfl]
      exact ⟨0, 0, 0, rfl, .inl rfl⟩
def FD (l : List UInt8) : Nat := match l with
  | [] => 0
  | a :: t => if a.toNat = 40 ∨ a.toNat = 41 ∨ a.toNat = 59 ∨ a.toNat = 124 ∨ a.toNat = 61 then 1 else if (a :: t).take 2 = [58, 61] then 2 else 0
theorem Gb (a : UInt8) (t : List UInt8) : FD (a :: t) = if a.toNat = 40 ∨ a.toNat = 41 ∨ a.toNat = 59 ∨ a.toNat = 124 ∨ a.toNat = 61 then 1 else if (a :: t).take 2 = [58, 61] then 2 else 0 := rfl
theorem S7 {l : List UInt8} (h0 : 0 < l.length) : EI l = some ((FD l : Nat) : Int) := by
  cases l with
  | nil => cases h0
  | cons a t =>
    unfold EI
    rw [Gb, show ix (a :: t) 0 = some a from rfl, Option.bind_some]
    have hb : (if (a.toNat : Int) = 40 then some true else (if (a.toNat : Int) = 41 then some true else (if (a.toNat : Int) = 59 then some true else (if (a.toNat : Int) = 124 then some true else some (decide ((a.toNat : Int) = 61)))))) = some (decide (a.toNat = 40 ∨ a.toNat = 41 ∨ a.toNat = 59 ∨ a.toNat = 124 ∨ a.toNat = 61)) := by
      by_cases c1 : a.toNat = 40
      · rw [if_pos (by omega)]; simp [c1]
      · rw [if_neg (by omega)]
        by_cases c2 : a.toNat = 41
        · rw [if_pos (by omega)]; simp [c2]
        · rw [if_neg (by omega)]
          by_cases c3 : a.toNat = 59
          · rw [if_pos (by omega)]; simp [c3]
          · rw [if_neg (by omega)]
            by_cases c4 : a.toNat = 124
            · rw [if_pos (by omega)]; simp [c4]
            · rw [if_neg (by omega)]
              congr 1
              exact decide_eq_decide.2 ⟨fun h => by omega, fun h => by omega⟩
    rw [hb, Option.bind_some]
    by_cases c : a.toNat = 40 ∨ a.toNat = 41 ∨ a.toNat = 59 ∨ a.toNat = 124 ∨ a.toNat = 61
    · rw [decide_eq_true c, if_pos rfl, if_pos c]; rfl
    · rw [decide_eq_false c, if_neg (by decide), if_neg c]
      have hp : CP (a :: t) [58, 61] = some (decide ((a :: t).take 2 = [58, 61])) := by
        unfold CP BI
        by_cases h2 : (2 : Int) ≤ ((a :: t).length : Int)
        · rw [if_pos (show ((([58, 61] : List UInt8).length : Nat) : Int) ≤ ((a :: t).length : Int) from h2), Kh (by simp only [List.length_cons, List.length_nil] at h2 ⊢; omega)]; rfl
        · rw [if_neg (show ¬ ((([58, 61] : List UInt8).length : Nat) : Int) ≤ ((a :: t).length : Int) from h2), decide_eq_false (fun h => by
            have := congrArg List.length h
            rw [List.length_take] at this
            simp only [List.length_cons, List.length_nil] at this h2; omega)]; rfl
      rw [hp, Option.bind_some]
      by_cases c2 : (a :: t).take 2 = [58, 61]
      · rw [decide_eq_true c2, if_pos rfl, if_pos c2]; rfl
      · rw [decide_eq_false c2, if_neg (by decide), if_neg c2]; rfl
theorem OJ (l : List UInt8) : FD l ≤ l.length := by
  cases l with
  | nil => exact Nat.le_refl _
  | cons a t =>
    rw [Gb]
    split
    · simp
    · split
      · rename_i h
        have := congrArg List.length h
        rw [List.length_take] at this
        simp only [List.length_cons, List.length_nil] at this ⊢; omega
      · exact Nat.zero_le _
theorem E2 {l : List UInt8} (h0 : 0 < l.length) (hl : l.length ≤ 5000) : CC l = if 0 < Cf Kq l then some ((1, 0, l.take (Cf Kq l), 0), ((Cf Kq l : Nat) : Int)) else if 0 < Cf JT l then Cu (l.take (Cf JT l)) else if FD l = 0 then some ((0, 0, [], 0), 0) else some ((3, 0, l.take (FD l), 0), ((FD l : Nat) : Int)) := by
  have a1 := FT Kq l
  have a2 := FT JT l
  have a3 := OJ l
  unfold CC
  rw [SR hl, Option.bind_some]
  by_cases c1 : 0 < Cf Kq l
  · rw [if_pos (by omega), if_pos c1, Kh (by omega)]; rfl
  · rw [if_neg (by omega), if_neg c1, SW hl, Option.bind_some]
    by_cases c2 : 0 < Cf JT l
    · rw [if_pos (by omega), if_pos c2, Kh (by omega), Option.bind_some]
      show (Cu (l.take (Cf JT l))).bind _ = _
      cases Cu (l.take (Cf JT l)) <;> rfl
    · rw [if_neg (by omega), if_neg c2, S7 h0, Option.bind_some]
      by_cases c3 : FD l = 0
      · rw [if_pos (by omega), if_pos c3]
      · rw [if_neg (by omega), if_neg c3, Kh (by omega)]; rfl
theorem ER (p : UInt8 → Bool) (b : UInt8) (t : List UInt8) : Cf p (b :: t) = if p b = true then 1 + Cf p t else 0 := rfl
theorem G7 (p : UInt8 → Bool) : ∀ w r : List UInt8, Cf p (w ++ r) = if Cf p w < w.length then Cf p w else w.length + Cf p r
  | [], r => by simp [Cf]
  | b :: t, r => by
    have ih := G7 p t r
    have hl := FT p t
    have hn : (b :: t).length = t.length + 1 := rfl
    show Cf p (b :: (t ++ r)) = _
    by_cases c : p b = true
    · have e1 : Cf p (b :: (t ++ r)) = 1 + Cf p (t ++ r) := by rw [ER, if_pos c]
      have e2 : Cf p (b :: t) = 1 + Cf p t := by rw [ER, if_pos c]
      by_cases c2 : Cf p t < t.length
      · rw [if_pos c2] at ih
        rw [if_pos (by omega)]; omega
      · rw [if_neg c2] at ih
        rw [if_neg (by omega)]; omega
    · have e1 : Cf p (b :: (t ++ r)) = 0 := by rw [ER, if_neg c]
      have e2 : Cf p (b :: t) = 0 := by rw [ER, if_neg c]
      rw [if_pos (by omega)]; omega
theorem R6 (p : UInt8 → Bool) (hp : p 9 = false) (w r : List UInt8) : Cf p (w ++ 9 :: r) = Cf p w := by
  have hl := FT p w
  have h0 : Cf p (9 :: r) = 0 := by unfold Cf; rw [if_neg (by rw [hp]; decide)]
  by_cases hc : Cf p w < w.length
  · rw [G7, if_pos hc]
  · rw [G7, if_neg hc, h0]; omega
theorem Ji (p : UInt8 → Bool) (hp : p 9 = false) {w r r' : List UInt8} (h : Cf p (w ++ r) ≤ w.length) : Cf p (w ++ 9 :: r') = Cf p (w ++ r) := by
  have hl := FT p w
  rw [R6 p hp]
  by_cases hc : Cf p w < w.length
  · rw [G7, if_pos hc]
  · rw [G7, if_neg hc] at h ⊢
    omega
theorem OZ {w r r' : List UInt8} {t : Hj} {z : Nat} (hl : (w ++ r).length ≤ 5000) (hl' : (w ++ 9 :: r').length ≤ 5000) (h : CC (w ++ r) = some (t, (z : Int))) (hz : 0 < z) (hw : z ≤ w.length) : CC (w ++ 9 :: r') = some (t, (z : Int)) := by
  have hw0 : 0 < w.length := by omega
  have t1 : ∀ n, n ≤ w.length → (w ++ r).take n = (w ++ 9 :: r').take n := fun n hn => by
    rw [List.take_append_of_le_length hn, List.take_append_of_le_length hn]
  rw [E2 (by simp; omega) hl] at h
  rw [E2 (by simp; omega) hl']
  by_cases c1 : 0 < Cf Kq (w ++ r)
  · rw [if_pos c1] at h
    have e := Option.some.inj h
    have ez : Cf Kq (w ++ r) = z := by have := congrArg Prod.snd e; simp only at this; omega
    rw [Ji Kq (by decide) (r := r) (by omega), if_pos c1, ← t1 _ (by omega)]
    exact h
  · rw [if_neg c1] at h
    rw [Ji Kq (by decide) (r := r) (by omega), if_neg c1]
    by_cases c2 : 0 < Cf JT (w ++ r)
    · rw [if_pos c2] at h
      have a2 := FT JT (w ++ r)
      obtain ⟨k, n, z', h1, h2⟩ := NH ((w ++ r).take (Cf JT (w ++ r))) (by rw [List.length_take]; omega)
      rw [h1] at h
      have e := Option.some.inj h
      have ez : z' = z := by have := congrArg Prod.snd e; simp only at this; omega
      rw [List.length_take] at h2
      have ez2 : Cf JT (w ++ r) = z := by omega
      rw [Ji JT (by decide) (r := r) (by omega), if_pos c2, ← t1 _ (by omega), h1]
      exact h
    · rw [if_neg c2] at h
      rw [Ji JT (by decide) (r := r) (by omega), if_neg c2]
      by_cases c3 : FD (w ++ r) = 0
      · rw [if_pos c3] at h
        have e := Option.some.inj h
        have := congrArg Prod.snd e
        simp only at this; omega
      · rw [if_neg c3] at h
        have e := Option.some.inj h
        have ez : FD (w ++ r) = z := by have := congrArg Prod.snd e; simp only at this; omega
        have es : FD (w ++ 9 :: r') = FD (w ++ r) := by
          cases w with
          | nil => cases hw0
          | cons a u =>
            have t2 := t1 2
            simp only [List.cons_append, Gb] at ez t2 ⊢
            by_cases d1 : a.toNat = 40 ∨ a.toNat = 41 ∨ a.toNat = 59 ∨ a.toNat = 124 ∨ a.toNat = 61
            · rw [if_pos d1, if_pos d1]
            · rw [if_neg d1] at ez
              rw [if_neg d1, if_neg d1]
              by_cases d2 : (a :: (u ++ r)).take 2 = [58, 61]
              · rw [if_pos d2] at ez
                rw [if_pos d2, if_pos (by rw [← t2 (by omega)]; exact d2)]
              · rw [if_neg d2] at ez; omega
        rw [es, if_neg c3, ← t1 _ (by omega)]
        exact h
theorem JX (c : Bool) (b : UInt8) (t : List UInt8) : DJ c (b :: t) = if b.toNat = 10 then 1 + DJ false t else if b.toNat = 35 then 1 + DJ true t else if c = false ∧ b.toNat ≠ 32 ∧ b.toNat ≠ 9 then 0 else 1 + DJ c t := by cases c <;> rfl
inductive Run (s : List UInt8) : Nat → List Hj → Prop
  | nil {a : Nat} : s.length ≤ a → Run s a []
  | cons {a : Nat} {k n : Int} {w : List UInt8} {z : Nat} {ts : List Hj} : a < s.length → CC (s.drop a) = some ((k, n, w, 0), (z : Int)) → 0 < z → a + z ≤ s.length → Run s (a + z + DJ false (s.drop (a + z))) ts → Run s a ((k, n, w, (a : Int)) :: ts)
theorem Ri {s : List UInt8} (hs : s.length ≤ 4000) {a : Nat} {ts : List Hj} (h : Run s a ts) : ∀ out : List Hj, out.length + ts.length ≤ 500 → Br (E6 s) (out, (a : Int)) = some (.inl (out ++ ts)) := by
  induction h with
  | nil ha => intro out ho; rw [GJ (by rw [E6, if_neg (by omega)]), List.append_nil]
  | cons h0 h1 hz hle _ ih =>
    rename_i a k n w z ts hrun
    intro out ho
    simp only [List.length_cons] at ho
    have hgo : E6 s (out, (a : Int)) = some (.inl (out ++ [(k, n, w, (a : Int))], ((a + z + DJ false (s.drop (a + z)) : Nat) : Int))) := by
      rw [E6, if_pos (by omega), Kh (by omega), Option.bind_some, Int.toNat_natCast, Int.toNat_natCast, List.take_length, h1, Option.bind_some]
      simp only
      rw [if_neg (by omega), if_neg (by omega), BS (by simp; omega), Option.bind_some, BN (by omega), show (a : Int) + (z : Int) = ((a + z : Nat) : Int) by omega, Q5 (by omega) (by omega)]; rfl
    rw [H1 hgo, ih _ (by simp; omega)]; simp
abbrev Lv (s : List UInt8) : Hj := (4, 0, [], (s.length : Int))
theorem lex_run' {s : List UInt8} (hs : s.length ≤ 4000) {ts : List Hj} (h : Run s (DJ false s) ts) (hl : ts.length ≤ 500) : Hu s = some (ts ++ [Lv s], 0, 0) := by
  have hk := Q5 (s := s) (at_ := 0) (by omega) (by omega)
  have hk' : Fq s 0 = some ((DJ false s : Nat) : Int) := by
    have : Fq s ((0 : Nat) : Int) = some ((DJ false s : Nat) : Int) := by rw [hk]; simp
    exact this
  unfold Hu
  rw [if_neg (by omega), hk', Option.bind_some, Ri hs h [] (by simpa using hl), List.nil_append]
  show (DQ ts [Lv s]).bind _ = _
  rw [BS (by simp; omega)]; rfl
abbrev bare (t : Hj) : Int × Int × List UInt8 := (t.1, t.2.1, t.2.2.1)
end Go.Proofs.YtlgjpoapclifbaaDoor
