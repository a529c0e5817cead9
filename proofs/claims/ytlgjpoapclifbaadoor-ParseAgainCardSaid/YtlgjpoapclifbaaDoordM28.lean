/- Layer 29: tokens. Conditions: none. -/
import Derived.Test.YtlgjpoapclifbaaDoordLP
import Derived.Test.YtlgjpoapclifbaaDoordA13
namespace Go.Proofs.YtlgjpoapclifbaaDoor
set_option linter.unusedVariables false
set_option linter.unusedSimpArgs false
open Go Go.RowKit
abbrev C2 := Int × Int × List UInt8 × Int
def BP : Bool → List UInt8 → Nat
  | _, [] => 0
  | c, b :: t => if b.toNat = 10 then 1 + BP false t else if b.toNat = 35 then 1 + BP true t else if c = false ∧ b.toNat ≠ 32 ∧ b.toNat ≠ 9 then 0 else 1 + BP c t
theorem JX : ∀ (c : Bool) (l : List UInt8), BP c l ≤ l.length
  | _, [] => Nat.le_refl _
  | c, b :: t => by
    have h1 := JX false t
    have h2 := JX true t
    have h3 := JX c t
    unfold BP
    simp only [List.length_cons]
    split
    · omega
    · split
      · omega
      · split <;> omega
theorem Je {s : List UInt8} (hs : s.length ≤ 5000) {at_ : Nat} (ha : at_ ≤ s.length) : Dh s (at_ : Int) = some ((at_ + BP false (s.drop at_) : Nat) : Int) := by
  have key : ∀ (d k : Nat), k + d = s.length → ∀ c : Bool, ∃ e, Bo (Eb s) ((k : Int), c) = some e ∧ (e = .inl ((k + BP c (s.drop k) : Nat) : Int) ∨ e = .inr ((k + BP c (s.drop k) : Nat) : Int)) := by
    intro d
    induction d with
    | zero =>
      intro k hk c
      refine ⟨_, B5 (by rw [Eb, if_neg (by omega)]), .inl ?_⟩
      rw [List.drop_eq_nil_of_le (by omega)]; simp [BP]
    | succ d ih =>
      intro k hk c
      have hkl : k < s.length := by omega
      rw [List.drop_eq_getElem_cons hkl]
      have step : Eb s ((k : Int), c) = HX ((if (s[k].toNat : Int) = 10 then some (.inl false) else (if (s[k].toNat : Int) = 35 then some (.inl true) else (if (!c && (decide ((s[k].toNat : Int) ≠ 32) && decide ((s[k].toNat : Int) ≠ 9))) = true then some (.inr (.inr (.inr (k : Int)))) else some (.inl c))))) fun x4 => some (.inl (((k + 1 : Nat) : Int), x4)) := by
        rw [Eb, if_pos (by omega), Dx (List.getElem?_eq_getElem hkl), Option.bind_some, B3 (by omega)]; rfl
      unfold BP
      by_cases c1 : s[k].toNat = 10
      · obtain ⟨e, h1, h2⟩ := ih (k + 1) (by omega) false
        refine ⟨e, ?_, ?_⟩
        · rw [Dr (s' := (((k + 1 : Nat) : Int), false)) (by rw [step, if_pos (by omega)]; rfl), h1]
        · rw [if_pos c1, show k + (1 + BP false (s.drop (k + 1))) = k + 1 + BP false (s.drop (k + 1)) by omega]; exact h2
      · by_cases c2 : s[k].toNat = 35
        · obtain ⟨e, h1, h2⟩ := ih (k + 1) (by omega) true
          refine ⟨e, ?_, ?_⟩
          · rw [Dr (s' := (((k + 1 : Nat) : Int), true)) (by rw [step, if_neg (by omega), if_pos (by omega)]; rfl), h1]
          · rw [if_neg c1, if_pos c2, show k + (1 + BP true (s.drop (k + 1))) = k + 1 + BP true (s.drop (k + 1)) by omega]; exact h2
        · by_cases c3 : c = false ∧ s[k].toNat ≠ 32 ∧ s[k].toNat ≠ 9
          · refine ⟨.inr (k : Int), B5 (by rw [step, if_neg (by omega), if_neg (by omega), if_pos (by obtain ⟨h1, h2, h3⟩ := c3; subst h1; simp; omega)]; rfl), .inr ?_⟩
            rw [if_neg c1, if_neg c2, if_pos c3]; rfl
          · obtain ⟨e, h1, h2⟩ := ih (k + 1) (by omega) c
            refine ⟨e, ?_, ?_⟩
            · rw [Dr (s' := (((k + 1 : Nat) : Int), c)) (by
                rw [step, if_neg (by omega), if_neg (by omega), if_neg (by
                  intro h
                  apply c3
                  simp only [Bool.and_eq_true, Bool.not_eq_true', decide_eq_true_eq] at h
                  exact ⟨h.1, by omega, by omega⟩)]; rfl), h1]
            · rw [if_neg c1, if_neg c2, if_neg c3, show k + (1 + BP c (s.drop (k + 1))) = k + 1 + BP c (s.drop (k + 1)) by omega]; exact h2
  obtain ⟨e, h1, h2⟩ := key (s.length - at_) at_ (by omega) false
  unfold Dh
  rw [h1]
  rcases h2 with rfl | rfl <;> rfl
def Jt (b : UInt8) : Bool := decide (97 ≤ b.toNat ∧ b.toNat ≤ 122)
def IA (b : UInt8) : Bool := decide (48 ≤ b.toNat ∧ b.toNat ≤ 57)
def Cc (p : UInt8 → Bool) : List UInt8 → Nat
  | [] => 0
  | b :: t => if p b = true then 1 + Cc p t else 0
theorem EO (p : UInt8 → Bool) : ∀ l, Cc p l ≤ l.length
  | [] => Nat.le_refl _
  | b :: t => by
    have := EO p t
    unfold Cc
    simp only [List.length_cons]
    split <;> omega
theorem Oz {s : List UInt8} (hs : s.length ≤ 5000) {p : UInt8 → Bool} {S : Int → Option (Int ⊕ Int)} (h1 : ∀ (k : Nat) (hk : k < s.length), S (k : Int) = if p s[k] = true then some (.inl ((k + 1 : Nat) : Int)) else some (.inr (k : Int))) (h2 : S (s.length : Int) = some (.inr (s.length : Int))) : Bo S 0 = some ((Cc p s : Nat) : Int) := by
  have key : ∀ (d k : Nat), k + d = s.length → Bo S (k : Int) = some ((k + Cc p (s.drop k) : Nat) : Int) := by
    intro d
    induction d with
    | zero =>
      intro k hk
      obtain rfl : k = s.length := by omega
      rw [B5 h2, List.drop_eq_nil_of_le (by omega)]; rfl
    | succ d ih =>
      intro k hk
      have hkl : k < s.length := by omega
      have := h1 k hkl
      rw [List.drop_eq_getElem_cons hkl]
      unfold Cc
      by_cases c : p s[k] = true
      · rw [if_pos c] at this
        rw [Dr this, ih (k + 1) (by omega), if_pos c, show k + 1 + Cc p (s.drop (k + 1)) = k + (1 + Cc p (s.drop (k + 1))) by omega]
      · rw [if_neg c] at this
        rw [B5 this, if_neg c]; rfl
  have := key s.length 0 (by omega)
  simpa using this
theorem R0 {s : List UInt8} (hs : s.length ≤ 5000) : Io s = some ((Cc Jt s : Nat) : Int) := by
  unfold Io
  rw [Oz (p := Jt) hs (fun k hk => by
    rw [FT, if_pos (by omega), Dx (List.getElem?_eq_getElem hk), Option.bind_some, Option.bind_some, B3 (by omega)]
    have e : Ek (s[k].toNat : Int) = Jt s[k] := by
      unfold Ek Jt
      rw [← Bool.decide_and]
      exact decide_eq_decide.2 ⟨fun h => by omega, fun h => by omega⟩
    rw [e]; rfl) (by rw [FT, if_neg (by omega), Option.bind_some, if_neg (by decide)])]; rfl
theorem RB {s : List UInt8} (hs : s.length ≤ 5000) : FV s = some ((Cc IA s : Nat) : Int) := by
  unfold FV
  rw [Oz (p := IA) hs (fun k hk => by
    rw [EL, if_pos (by omega), Dx (List.getElem?_eq_getElem hk), Option.bind_some, Option.bind_some, B3 (by omega)]
    have e : EI (s[k].toNat : Int) = IA s[k] := by
      unfold EI IA
      rw [← Bool.decide_and]
      exact decide_eq_decide.2 ⟨fun h => by omega, fun h => by omega⟩
    rw [e]; rfl) (by rw [EL, if_neg (by omega), Option.bind_some, if_neg (by decide)])]; rfl
theorem Kl (d : List UInt8) (hd : d.length ≤ 5000) : ∃ (k n : Int) (z : Nat), Cw d = some ((k, n, [], 0), (z : Int)) ∧ (z = 0 ∨ z = d.length) := by
  unfold Cw
  by_cases c1 : 3 < (d.length : Int)
  · rw [if_pos c1]
    exact ⟨0, 0, 0, rfl, .inl rfl⟩
  · rw [if_neg c1]
    have hb : ∃ b, (if 1 < (d.length : Int) then (ix d 0).bind fun x2 => some (decide ((x2.toNat : Int) = 48)) else some false) = some b := by
      by_cases c2 : 1 < (d.length : Int)
      · rw [if_pos c2, show (0 : Int) = ((0 : Nat) : Int) from rfl, Dx (List.getElem?_eq_getElem (show 0 < d.length by omega))]
        exact ⟨_, rfl⟩
      · rw [if_neg c2]; exact ⟨_, rfl⟩
    obtain ⟨b, hb⟩ := hb
    rw [hb, Option.bind_some]
    cases b
    · obtain ⟨e, h1, _⟩ := QG (step := Ct d) (fun st => ∃ k : Nat, k ≤ d.length ∧ st.2 = (k : Int)) (fun st => d.length - st.2.toNat) (fun _ => True) (by
        rintro ⟨x, y⟩ ⟨k, hk, rfl⟩
        by_cases c : k < d.length
        · left
          exact ⟨_, by rw [Ct, if_pos (by omega), Dx (List.getElem?_eq_getElem c), Option.bind_some, B3 (x := (k : Int) + 1) (by omega)], ⟨k + 1, by omega, rfl⟩, by simp only; omega⟩
        · right
          exact ⟨_, by rw [Ct, if_neg (by omega)], trivial⟩) (0, 0) ⟨0, by omega, rfl⟩
      rw [if_neg (by decide), h1]
      exact ⟨2, e, d.length, rfl, .inr rfl⟩
    · rw [if_pos rfl]
      exact ⟨0, 0, 0, rfl, .inl rfl⟩
def ES (l : List UInt8) : Nat := match l with
  | [] => 0
  | a :: t => if a.toNat = 40 ∨ a.toNat = 41 ∨ a.toNat = 59 ∨ a.toNat = 124 ∨ a.toNat = 61 then 1 else if (a :: t).take 2 = [58, 61] then 2 else 0
theorem Fg (a : UInt8) (t : List UInt8) : ES (a :: t) = if a.toNat = 40 ∨ a.toNat = 41 ∨ a.toNat = 59 ∨ a.toNat = 124 ∨ a.toNat = 61 then 1 else if (a :: t).take 2 = [58, 61] then 2 else 0 := rfl
theorem RJ {l : List UInt8} (h0 : 0 < l.length) : Eh l = some ((ES l : Nat) : Int) := by
  cases l with
  | nil => cases h0
  | cons a t =>
    unfold Eh
    rw [Fg, show ix (a :: t) 0 = some a from rfl, Option.bind_some]
    have hb : (if (a.toNat : Int) = 40 then some true else (if (a.toNat : Int) = 41 then some true else (if (a.toNat : Int) = 59 then some true else (if (a.toNat : Int) = 124 then some true else some (decide ((a.toNat : Int) = 61)))))) = some (decide (a.toNat = 40 ∨ a.toNat = 41 ∨ a.toNat = 59 ∨ a.toNat = 124 ∨ a.toNat = 61)) := by
      by_cases c1 : a.toNat = 40
      · rw [if_pos (by omega)]; simp [c1]
      · rw [if_neg (by omega)]
        by_cases c2 : a.toNat = 41
        · rw [if_pos (by omega)]; simp [c2]
        · rw [if_neg (by omega)]
          by_cases c3 : a.toNat = 59
          · rw [if_pos (by omega)]; simp [c3]
          · rw [if_neg (by omega)]
            by_cases c4 : a.toNat = 124
            · rw [if_pos (by omega)]; simp [c4]
            · rw [if_neg (by omega)]
              congr 1
              exact decide_eq_decide.2 ⟨fun h => by omega, fun h => by omega⟩
    rw [hb, Option.bind_some]
    by_cases c : a.toNat = 40 ∨ a.toNat = 41 ∨ a.toNat = 59 ∨ a.toNat = 124 ∨ a.toNat = 61
    · rw [decide_eq_true c, if_pos rfl, if_pos c]; rfl
    · rw [decide_eq_false c, if_neg (by decide), if_neg c]
      have hp : CL (a :: t) [58, 61] = some (decide ((a :: t).take 2 = [58, 61])) := by
        unfold CL BR
        by_cases h2 : (2 : Int) ≤ ((a :: t).length : Int)
        · rw [if_pos (show ((([58, 61] : List UInt8).length : Nat) : Int) ≤ ((a :: t).length : Int) from h2), Ig (by simp only [List.length_cons, List.length_nil] at h2 ⊢; omega)]; rfl
        · rw [if_neg (show ¬ ((([58, 61] : List UInt8).length : Nat) : Int) ≤ ((a :: t).length : Int) from h2), decide_eq_false (fun h => by
            have := congrArg List.length h
            rw [List.length_take] at this
            simp only [List.length_cons, List.length_nil] at this h2; omega)]; rfl
      rw [hp, Option.bind_some]
      by_cases c2 : (a :: t).take 2 = [58, 61]
      · rw [decide_eq_true c2, if_pos rfl, if_pos c2]; rfl
      · rw [decide_eq_false c2, if_neg (by decide), if_neg c2]; rfl
theorem L6 (l : List UInt8) : ES l ≤ l.length := by
  cases l with
  | nil => exact Nat.le_refl _
  | cons a t =>
    rw [Fg]
    split
    · simp
    · split
      · rename_i h
        have := congrArg List.length h
        rw [List.length_take] at this
        simp only [List.length_cons, List.length_nil] at this ⊢; omega
      · exact Nat.zero_le _
theorem DQ {l : List UInt8} (h0 : 0 < l.length) (hl : l.length ≤ 5000) : Cl l = if 0 < Cc Jt l then some ((1, 0, l.take (Cc Jt l), 0), ((Cc Jt l : Nat) : Int)) else if 0 < Cc IA l then Cw (l.take (Cc IA l)) else if ES l = 0 then some ((0, 0, [], 0), 0) else some ((3, 0, l.take (ES l), 0), ((ES l : Nat) : Int)) := by
  have a1 := EO Jt l
  have a2 := EO IA l
  have a3 := L6 l
  unfold Cl
  rw [R0 hl, Option.bind_some]
  by_cases c1 : 0 < Cc Jt l
  · rw [if_pos (by omega), if_pos c1, Ig (by omega)]; rfl
  · rw [if_neg (by omega), if_neg c1, RB hl, Option.bind_some]
    by_cases c2 : 0 < Cc IA l
    · rw [if_pos (by omega), if_pos c2, Ig (by omega), Option.bind_some]
      show (Cw (l.take (Cc IA l))).bind _ = _
      cases Cw (l.take (Cc IA l)) <;> rfl
    · rw [if_neg (by omega), if_neg c2, RJ h0, Option.bind_some]
      by_cases c3 : ES l = 0
      · rw [if_pos (by omega), if_pos c3]
      · rw [if_neg (by omega), if_neg c3, Ig (by omega)]; rfl
theorem Rb {l : List UInt8} (h0 : 0 < l.length) (hl : l.length ≤ 5000) : ∃ (k n : Int) (w : List UInt8) (z : Nat), Cl l = some ((k, n, w, 0), (z : Int)) ∧ z ≤ l.length := by
  have a1 := EO Jt l
  have a2 := EO IA l
  have a3 := L6 l
  rw [DQ h0 hl]
  by_cases c1 : 0 < Cc Jt l
  · rw [if_pos c1]; exact ⟨1, 0, _, _, rfl, a1⟩
  · rw [if_neg c1]
    by_cases c2 : 0 < Cc IA l
    · rw [if_pos c2]
      obtain ⟨k, n, z, h1, h2⟩ := Kl (l.take (Cc IA l)) (by rw [List.length_take]; omega)
      refine ⟨k, n, [], z, h1, ?_⟩
      rw [List.length_take] at h2; omega
    · rw [if_neg c2]
      by_cases c3 : ES l = 0
      · rw [if_pos c3]; exact ⟨0, 0, [], 0, rfl, Nat.zero_le _⟩
      · rw [if_neg c3]; exact ⟨3, 0, _, _, rfl, a3⟩
theorem DH (p : UInt8 → Bool) (b : UInt8) (t : List UInt8) : Cc p (b :: t) = if p b = true then 1 + Cc p t else 0 := rfl
theorem GZ (p : UInt8 → Bool) : ∀ w r : List UInt8, Cc p (w ++ r) = if Cc p w < w.length then Cc p w else w.length + Cc p r
  | [], r => by simp [Cc]
  | b :: t, r => by
    have ih := GZ p t r
    have hl := EO p t
    have hn : (b :: t).length = t.length + 1 := rfl
    show Cc p (b :: (t ++ r)) = _
    by_cases c : p b = true
    · have e1 : Cc p (b :: (t ++ r)) = 1 + Cc p (t ++ r) := by rw [DH, if_pos c]
      have e2 : Cc p (b :: t) = 1 + Cc p t := by rw [DH, if_pos c]
      by_cases c2 : Cc p t < t.length
      · rw [if_pos c2] at ih
        rw [if_pos (by omega)]; omega
      · rw [if_neg c2] at ih
        rw [if_neg (by omega)]; omega
    · have e1 : Cc p (b :: (t ++ r)) = 0 := by rw [DH, if_neg c]
      have e2 : Cc p (b :: t) = 0 := by rw [DH, if_neg c]
      rw [if_pos (by omega)]; omega
theorem QR (p : UInt8 → Bool) (hp : p 9 = false) (w r : List UInt8) : Cc p (w ++ 9 :: r) = Cc p w := by
  have hl := EO p w
  have h0 : Cc p (9 :: r) = 0 := by unfold Cc; rw [if_neg (by rw [hp]; decide)]
  by_cases hc : Cc p w < w.length
  · rw [GZ, if_pos hc]
  · rw [GZ, if_neg hc, h0]; omega
theorem Jc (p : UInt8 → Bool) (hp : p 9 = false) {w r r' : List UInt8} (h : Cc p (w ++ r) ≤ w.length) : Cc p (w ++ 9 :: r') = Cc p (w ++ r) := by
  have hl := EO p w
  rw [QR p hp]
  by_cases hc : Cc p w < w.length
  · rw [GZ, if_pos hc]
  · rw [GZ, if_neg hc] at h ⊢
    omega
theorem OH {w r r' : List UInt8} {t : C2} {z : Nat} (hl : (w ++ r).length ≤ 5000) (hl' : (w ++ 9 :: r').length ≤ 5000) (h : Cl (w ++ r) = some (t, (z : Int))) (hz : 0 < z) (hw : z ≤ w.length) : Cl (w ++ 9 :: r') = some (t, (z : Int)) := by
  have hw0 : 0 < w.length := by omega
  have t1 : ∀ n, n ≤ w.length → (w ++ r).take n = (w ++ 9 :: r').take n := fun n hn => by
    rw [List.take_append_of_le_length hn, List.take_append_of_le_length hn]
  rw [DQ (by simp; omega) hl] at h
  rw [DQ (by simp; omega) hl']
  by_cases c1 : 0 < Cc Jt (w ++ r)
  · rw [if_pos c1] at h
    have e := Option.some.inj h
    have ez : Cc Jt (w ++ r) = z := by have := congrArg Prod.snd e; simp only at this; omega
    rw [Jc Jt (by decide) (r := r) (by omega), if_pos c1, ← t1 _ (by omega)]
    exact h
  · rw [if_neg c1] at h
    rw [Jc Jt (by decide) (r := r) (by omega), if_neg c1]
    by_cases c2 : 0 < Cc IA (w ++ r)
    · rw [if_pos c2] at h
      have a2 := EO IA (w ++ r)
      obtain ⟨k, n, z', h1, h2⟩ := Kl ((w ++ r).take (Cc IA (w ++ r))) (by rw [List.length_take]; omega)
      rw [h1] at h
      have e := Option.some.inj h
      have ez : z' = z := by have := congrArg Prod.snd e; simp only at this; omega
      rw [List.length_take] at h2
      have ez2 : Cc IA (w ++ r) = z := by omega
      rw [Jc IA (by decide) (r := r) (by omega), if_pos c2, ← t1 _ (by omega), h1]
      exact h
    · rw [if_neg c2] at h
      rw [Jc IA (by decide) (r := r) (by omega), if_neg c2]
      by_cases c3 : ES (w ++ r) = 0
      · rw [if_pos c3] at h
        have e := Option.some.inj h
        have := congrArg Prod.snd e
        simp only at this; omega
      · rw [if_neg c3] at h
        have e := Option.some.inj h
        have ez : ES (w ++ r) = z := by have := congrArg Prod.snd e; simp only at this; omega
        have es : ES (w ++ 9 :: r') = ES (w ++ r) := by
          cases w with
          | nil => cases hw0
          | cons a u =>
            have t2 := t1 2
            simp only [List.cons_append, Fg] at ez t2 ⊢
            by_cases d1 : a.toNat = 40 ∨ a.toNat = 41 ∨ a.toNat = 59 ∨ a.toNat = 124 ∨ a.toNat = 61
            · rw [if_pos d1, if_pos d1]
            · rw [if_neg d1] at ez
              rw [if_neg d1, if_neg d1]
              by_cases d2 : (a :: (u ++ r)).take 2 = [58, 61]
              · rw [if_pos d2] at ez
                rw [if_pos d2, if_pos (by rw [← t2 (by omega)]; exact d2)]
              · rw [if_neg d2] at ez; omega
        rw [es, if_neg c3, ← t1 _ (by omega)]
        exact h
theorem DW (c : Bool) (b : UInt8) (t : List UInt8) : BP c (b :: t) = if b.toNat = 10 then 1 + BP false t else if b.toNat = 35 then 1 + BP true t else if c = false ∧ b.toNat ≠ 32 ∧ b.toNat ≠ 9 then 0 else 1 + BP c t := by cases c <;> rfl
theorem I8 : ∀ (w : List UInt8) (c : Bool) (r r' : List UInt8), BP c (w ++ r) < w.length → BP c (w ++ r') = BP c (w ++ r)
  | [], c, r, r', h => by simp at h
  | b :: w, c, r, r', h => by
    have hn : (b :: w).length = w.length + 1 := rfl
    rw [List.cons_append] at h ⊢
    rw [List.cons_append, DW, DW]
    rw [DW] at h
    by_cases c1 : b.toNat = 10
    · rw [if_pos c1] at h ⊢
      rw [if_pos c1, I8 w false r r' (by omega)]
    · rw [if_neg c1] at h ⊢
      rw [if_neg c1]
      by_cases c2 : b.toNat = 35
      · rw [if_pos c2] at h ⊢
        rw [if_pos c2, I8 w true r r' (by omega)]
      · rw [if_neg c2] at h ⊢
        rw [if_neg c2]
        by_cases c3 : c = false ∧ b.toNat ≠ 32 ∧ b.toNat ≠ 9
        · rw [if_pos c3, if_pos c3]
        · rw [if_neg c3] at h ⊢
          rw [if_neg c3, I8 w c r r' (by omega)]
inductive Run (s : List UInt8) : Nat → List C2 → Prop
  | nil {a : Nat} : s.length ≤ a → Run s a []
  | cons {a : Nat} {k n : Int} {w : List UInt8} {z : Nat} {ts : List C2} : a < s.length → Cl (s.drop a) = some ((k, n, w, 0), (z : Int)) → 0 < z → a + z ≤ s.length → Run s (a + z + BP false (s.drop (a + z))) ts → Run s a ((k, n, w, (a : Int)) :: ts)
theorem P4 {s : List UInt8} (hs : s.length ≤ 4000) : ∀ (d a : Nat), s.length - a ≤ d → ∀ out : List C2, out.length ≤ 500 →
    (∃ ts, Bo (Ci s) (out, (a : Int)) = some (.inl (out ++ ts)) ∧ Run s a ts ∧ (out ++ ts).length ≤ 500) ∨ ∃ (p e : Int), Bo (Ci s) (out, (a : Int)) = some (.inr ([], p, e)) ∧ e ≠ 0 := by
  intro d
  induction d with
  | zero =>
    intro a ha out ho
    exact .inl ⟨[], by rw [B5 (by rw [Ci, if_neg (by omega)]), List.append_nil], .nil (by omega), by simpa using ho⟩
  | succ d ih =>
    intro a ha out ho
    by_cases c : a < s.length
    · obtain ⟨k, n, w, z, h1, h2⟩ := Rb (l := s.drop a) (by rw [List.length_drop]; omega) (by rw [List.length_drop]; omega)
      rw [List.length_drop] at h2
      have hstep : Ci s (out, (a : Int)) = (if (z : Int) = 0 then some (.inr (.inr (([] : List C2), (a : Int), 10))) else (if (out.length : Int) = 500 then some (.inr (.inr (([] : List C2), (a : Int), 6))) else (D0 out ([(k, n, w, (a : Int))] : List C2)).bind fun x7 => (Dh s (CI ((a : Int) + (z : Int)))).bind fun x8 => some (.inl (x7, x8)))) := by
        rw [Ci, if_pos (by omega), Ig (by omega), Option.bind_some, Int.toNat_natCast, Int.toNat_natCast, List.take_length, h1]; rfl
      by_cases cz : z = 0
      · exact .inr ⟨_, _, B5 (by rw [hstep, if_pos (by omega)]), by decide⟩
      · by_cases co : out.length = 500
        · exact .inr ⟨_, _, B5 (by rw [hstep, if_neg (by omega), if_pos (by omega)]), by decide⟩
        · have hgo : Ci s (out, (a : Int)) = some (.inl (out ++ [(k, n, w, (a : Int))], ((a + z + BP false (s.drop (a + z)) : Nat) : Int))) := by
            rw [hstep, if_neg (by omega), if_neg (by omega), CD (by simp; omega), Option.bind_some, B3 (by omega), show (a : Int) + (z : Int) = ((a + z : Nat) : Int) by omega, Je (by omega) (by omega)]; rfl
          rw [Dr hgo]
          rcases ih (a + z + BP false (s.drop (a + z))) (by omega) (out ++ [(k, n, w, (a : Int))]) (by simp; omega) with ⟨ts, g1, g2, g3⟩ | h
          · exact .inl ⟨(k, n, w, (a : Int)) :: ts, by rw [g1]; simp, .cons c h1 (by omega) (by omega) g2, by simpa using g3⟩
          · exact .inr h
    · exact .inl ⟨[], by rw [B5 (by rw [Ci, if_neg (by omega)]), List.append_nil], .nil (by omega), by simpa using ho⟩
theorem PR {s : List UInt8} (hs : s.length ≤ 4000) {a : Nat} {ts : List C2} (h : Run s a ts) : ∀ out : List C2, out.length + ts.length ≤ 500 → Bo (Ci s) (out, (a : Int)) = some (.inl (out ++ ts)) := by
  induction h with
  | nil ha => intro out ho; rw [B5 (by rw [Ci, if_neg (by omega)]), List.append_nil]
  | cons h0 h1 hz hle _ ih =>
    rename_i a k n w z ts hrun
    intro out ho
    simp only [List.length_cons] at ho
    have hgo : Ci s (out, (a : Int)) = some (.inl (out ++ [(k, n, w, (a : Int))], ((a + z + BP false (s.drop (a + z)) : Nat) : Int))) := by
      rw [Ci, if_pos (by omega), Ig (by omega), Option.bind_some, Int.toNat_natCast, Int.toNat_natCast, List.take_length, h1, Option.bind_some]
      simp only
      rw [if_neg (by omega), if_neg (by omega), CD (by simp; omega), Option.bind_some, B3 (by omega), show (a : Int) + (z : Int) = ((a + z : Nat) : Int) by omega, Je (by omega) (by omega)]; rfl
    rw [Dr hgo, ih _ (by simp; omega)]; simp
abbrev Fh (s : List UInt8) : C2 := (4, 0, [], (s.length : Int))
theorem Qe {s : List UInt8} (hs : s.length ≤ 4000) : (∃ ts, EM s = some (ts ++ [Fh s], 0, 0) ∧ Run s (BP false s) ts ∧ ts.length ≤ 500) ∨ ∃ (p e : Int), EM s = some ([], p, e) ∧ e ≠ 0 := by
  have hk := Je (s := s) (at_ := 0) (by omega) (by omega)
  have hk' : Dh s 0 = some ((BP false s : Nat) : Int) := by
    have : Dh s ((0 : Nat) : Int) = some ((BP false s : Nat) : Int) := by rw [hk]; simp
    exact this
  unfold EM
  rw [if_neg (by omega), hk', Option.bind_some]
  rcases P4 hs s.length (BP false s) (by omega) [] (by simp) with ⟨ts, h1, h2, h3⟩ | ⟨p, e, h1, h2⟩
  · left
    rw [List.nil_append] at h1 h3
    refine ⟨ts, ?_, h2, h3⟩
    rw [h1]
    show (D0 ts [Fh s]).bind _ = _
    rw [CD (by simp; omega)]; rfl
  · right
    exact ⟨p, e, by rw [h1]; rfl, h2⟩
theorem lex_run' {s : List UInt8} (hs : s.length ≤ 4000) {ts : List C2} (h : Run s (BP false s) ts) (hl : ts.length ≤ 500) : EM s = some (ts ++ [Fh s], 0, 0) := by
  have hk := Je (s := s) (at_ := 0) (by omega) (by omega)
  have hk' : Dh s 0 = some ((BP false s : Nat) : Int) := by
    have : Dh s ((0 : Nat) : Int) = some ((BP false s : Nat) : Int) := by rw [hk]; simp
    exact this
  unfold EM
  rw [if_neg (by omega), hk', Option.bind_some, PR hs h [] (by simpa using hl), List.nil_append]
  show (D0 ts [Fh s]).bind _ = _
  rw [CD (by simp; omega)]; rfl
abbrev bare (t : C2) : Int × Int × List UInt8 := (t.1, t.2.1, t.2.2.1)
end Go.Proofs.YtlgjpoapclifbaaDoor
