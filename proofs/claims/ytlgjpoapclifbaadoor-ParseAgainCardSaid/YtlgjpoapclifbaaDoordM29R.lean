/- Layer 29: ParseAgain: the same in brackets. Conditions: none. -/
import Derived.Test.YtlgjpoapclifbaaDoordM29B
namespace Go.Proofs.YtlgjpoapclifbaaDoor
set_option linter.unusedVariables false
set_option linter.unusedSimpArgs false
open Go Go.RowKit
set_option maxRecDepth 20000
set_option maxHeartbeats 1600000
set_option linter.unusedVariables false
set_option linter.unusedSimpArgs false
set_option maxRecDepth 20000
set_option maxHeartbeats 1600000
theorem CQ {fRec_pred_Same fRec_pred_Same' : Tr25 → Tr25 → Option Bool} (hfRec_pred_Same : ∀ a0 a1, Le (fRec_pred_Same a0 a1) (fRec_pred_Same' a0 a1)) (p0 : List Tr25) (p1 : List Tr25) : ∀ s, Le (Az fRec_pred_Same p0 p1 s) (Az fRec_pred_Same' p0 p1 s) := by
  intro x1
  unfold Az
  repeat' with_reducible (first | refine Le.orR' ?_ ?_ | refine Le.bind' ?_ ?_ | refine Le.ite' ?_ ?_ | refine Le.loopM ?_ | refine Le.altS' ?_ ?_ | exact hfRec_pred_Same | exact hfRec_pred_Same _ _ | exact Le.rfl' _ | (refine Le.pi2 ?_; intro _) | intro _)
theorem CV {fRec_pred_Same fRec_pred_Same' : Tr25 → Tr25 → Option Bool} (hfRec_pred_Same : ∀ a0 a1, Le (fRec_pred_Same a0 a1) (fRec_pred_Same' a0 a1)) (p0 : List Tr25) (p1 : List Tr25) : Le (AL fRec_pred_Same p0 p1) (AL fRec_pred_Same' p0 p1) := by
  unfold AL
  repeat' with_reducible (first | refine Le.orR' ?_ ?_ | refine Le.bind' ?_ ?_ | refine Le.ite' ?_ ?_ | refine Le.loopM ?_ | refine Le.altS' ?_ ?_ | exact hfRec_pred_Same | exact hfRec_pred_Same _ _ | apply CQ | exact Le.rfl' _ | (refine Le.pi2 ?_; intro _) | intro _)
theorem La {fRec fRec' : Tr25 → Tr25 → Option Bool} (hfRec : ∀ a0 a1, Le (fRec a0 a1) (fRec' a0 a1)) (p0 : Tr25) (p1 : Tr25) : Le (DL fRec p0 p1) (DL fRec' p0 p1) := by
  unfold DL
  repeat' with_reducible (first | refine Le.orR' ?_ ?_ | refine Le.bind' ?_ ?_ | refine Le.ite' ?_ ?_ | refine Le.loopM ?_ | refine Le.altS' ?_ ?_ | exact hfRec | exact hfRec _ _ | apply CV | exact Le.rfl' _ | (refine Le.pi2 ?_; intro _) | intro _)
theorem IM : ∀ (m : Nat) a0 a1, Le (Dq m a0 a1) (Dq (m + 1) a0 a1)
  | 0, a0, a1 => fun _ h => nomatch h
  | m + 1, a0, a1 => La (IM m) a0 a1
theorem CE {fRec_policy_Same fRec_policy_Same' : Tr28 → Tr28 → Option Bool} (hfRec_policy_Same : ∀ a0 a1, Le (fRec_policy_Same a0 a1) (fRec_policy_Same' a0 a1)) (p0 : List Tr28) (p1 : List Tr28) : ∀ s, Le (Av fRec_policy_Same p0 p1 s) (Av fRec_policy_Same' p0 p1 s) := by
  intro x1
  unfold Av
  repeat' with_reducible (first | refine Le.orR' ?_ ?_ | refine Le.bind' ?_ ?_ | refine Le.ite' ?_ ?_ | refine Le.loopM ?_ | refine Le.altS' ?_ ?_ | exact hfRec_policy_Same | exact hfRec_policy_Same _ _ | exact Le.rfl' _ | (refine Le.pi2 ?_; intro _) | intro _)
theorem CJ {fRec_policy_Same fRec_policy_Same' : Tr28 → Tr28 → Option Bool} (hfRec_policy_Same : ∀ a0 a1, Le (fRec_policy_Same a0 a1) (fRec_policy_Same' a0 a1)) (p0 : List Tr28) (p1 : List Tr28) : Le (AF fRec_policy_Same p0 p1) (AF fRec_policy_Same' p0 p1) := by
  unfold AF
  repeat' with_reducible (first | refine Le.orR' ?_ ?_ | refine Le.bind' ?_ ?_ | refine Le.ite' ?_ ?_ | refine Le.loopM ?_ | refine Le.altS' ?_ ?_ | exact hfRec_policy_Same | exact hfRec_policy_Same _ _ | apply CE | exact Le.rfl' _ | (refine Le.pi2 ?_; intro _) | intro _)
theorem J5 {fRec fRec' : Tr28 → Tr28 → Option Bool} (hfRec : ∀ a0 a1, Le (fRec a0 a1) (fRec' a0 a1)) (p0 : Tr28) (p1 : Tr28) : Le (C7 fRec p0 p1) (C7 fRec' p0 p1) := by
  unfold C7
  repeat' with_reducible (first | refine Le.orR' ?_ ?_ | refine Le.bind' ?_ ?_ | refine Le.ite' ?_ ?_ | refine Le.loopM ?_ | refine Le.altS' ?_ ?_ | exact hfRec | exact hfRec _ _ | apply CJ | exact Le.rfl' _ | (refine Le.pi2 ?_; intro _) | intro _)
theorem HU : ∀ (m : Nat) a0 a1, Le (CK m a0 a1) (CK (m + 1) a0 a1)
  | 0, a0, a1 => fun _ h => nomatch h
  | m + 1, a0, a1 => J5 (HU m) a0 a1
theorem Hx {fRec fRec' : Int → Tr25 → Int → Option (Bool × Int)} (hfRec : ∀ a0 a1 a2, Le (fRec a0 a1 a2) (fRec' a0 a1 a2)) (p1 : Tr25) (p2 : Int) : ∀ s, Le (Bm fRec p1 p2 s) (Bm fRec' p1 p2 s) := by
  rintro ⟨x4, x5⟩
  show Le (Bm fRec p1 p2 (x4, x5)) (Bm fRec' p1 p2 (x4, x5))
  unfold Bm
  repeat' with_reducible (first | refine Le.orR' ?_ ?_ | refine Le.bind' ?_ ?_ | refine Le.ite' ?_ ?_ | refine Le.loopM ?_ | refine Le.altS' ?_ ?_ | exact hfRec | exact hfRec _ _ _ | exact Le.rfl' _ | (refine Le.pi2 ?_; intro _) | intro _)
theorem HB {fRec fRec' : Int → Tr25 → Int → Option (Bool × Int)} (hfRec : ∀ a0 a1 a2, Le (fRec a0 a1 a2) (fRec' a0 a1 a2)) (p0 : Int) (p1 : Tr25) (p2 : Int) : Le (B7 fRec p0 p1 p2) (B7 fRec' p0 p1 p2) := by
  unfold B7
  repeat' with_reducible (first | refine Le.orR' ?_ ?_ | refine Le.bind' ?_ ?_ | refine Le.ite' ?_ ?_ | refine Le.loopM ?_ | refine Le.altS' ?_ ?_ | exact hfRec | exact hfRec _ _ _ | apply Hx | exact Le.rfl' _ | (refine Le.pi2 ?_; intro _) | intro _)
theorem D7 : ∀ (m : Nat) a0 a1 a2, Le (Bf m a0 a1 a2) (Bf (m + 1) a0 a1 a2)
  | 0, a0, a1, a2 => fun _ h => nomatch h
  | m + 1, a0, a1, a2 => HB (D7 m) a0 a1 a2
theorem K6 {fRec fRec' : Tr25 → Option Int} (hfRec : ∀ a0, Le (fRec a0) (fRec' a0)) (p0 : Tr25) : ∀ s, Le (CR fRec p0 s) (CR fRec' p0 s) := by
  rintro ⟨x2, x3⟩
  show Le (CR fRec p0 (x2, x3)) (CR fRec' p0 (x2, x3))
  unfold CR
  repeat' with_reducible (first | refine Le.orR' ?_ ?_ | refine Le.bind' ?_ ?_ | refine Le.ite' ?_ ?_ | refine Le.loopM ?_ | refine Le.altS' ?_ ?_ | exact hfRec | exact hfRec _ | exact Le.rfl' _ | (refine Le.pi2 ?_; intro _) | intro _)
theorem KZ {fRec fRec' : Tr25 → Option Int} (hfRec : ∀ a0, Le (fRec a0) (fRec' a0)) (p0 : Tr25) : Le (DU fRec p0) (DU fRec' p0) := by
  unfold DU
  repeat' with_reducible (first | refine Le.orR' ?_ ?_ | refine Le.bind' ?_ ?_ | refine Le.ite' ?_ ?_ | refine Le.loopM ?_ | refine Le.altS' ?_ ?_ | exact hfRec | exact hfRec _ | apply K6 | exact Le.rfl' _ | (refine Le.pi2 ?_; intro _) | intro _)
theorem IZ : ∀ (m : Nat) a0, Le (C6 m a0) (C6 (m + 1) a0)
  | 0, a0 => fun _ h => nomatch h
  | m + 1, a0 => KZ (IZ m) a0
theorem GW {fRec fRec' : Int → Tr28 → Int → Option (Bool × Int)} (hfRec : ∀ a0 a1 a2, Le (fRec a0 a1 a2) (fRec' a0 a1 a2)) (p1 : Tr28) (p2 : Int) : ∀ s, Le (A5 fRec p1 p2 s) (A5 fRec' p1 p2 s) := by
  rintro ⟨x7, x8⟩
  show Le (A5 fRec p1 p2 (x7, x8)) (A5 fRec' p1 p2 (x7, x8))
  unfold A5
  repeat' with_reducible (first | refine Le.orR' ?_ ?_ | refine Le.bind' ?_ ?_ | refine Le.ite' ?_ ?_ | refine Le.loopM ?_ | refine Le.altS' ?_ ?_ | exact hfRec | exact hfRec _ _ _ | exact Le.rfl' _ | (refine Le.pi2 ?_; intro _) | intro _)
theorem GU {fRec fRec' : Int → Tr28 → Int → Option (Bool × Int)} (hfRec : ∀ a0 a1 a2, Le (fRec a0 a1 a2) (fRec' a0 a1 a2)) (p0 : Int) (p1 : Tr28) (p2 : Int) : Le (BX fRec p0 p1 p2) (BX fRec' p0 p1 p2) := by
  unfold BX
  repeat' with_reducible (first | refine Le.orR' ?_ ?_ | refine Le.bind' ?_ ?_ | refine Le.ite' ?_ ?_ | refine Le.loopM ?_ | refine Le.altS' ?_ ?_ | exact hfRec | exact hfRec _ _ _ | apply GW | exact Le.rfl' _ | (refine Le.pi2 ?_; intro _) | intro _)
theorem DF : ∀ (m : Nat) a0 a1 a2, Le (AX m a0 a1 a2) (AX (m + 1) a0 a1 a2)
  | 0, a0, a1, a2 => fun _ h => nomatch h
  | m + 1, a0, a1, a2 => GU (DF m) a0 a1 a2
theorem JO {fRec fRec' : Tr28 → Option Int} (hfRec : ∀ a0, Le (fRec a0) (fRec' a0)) (p0 : Tr28) : ∀ s, Le (Cp fRec p0 s) (Cp fRec' p0 s) := by
  rintro ⟨x2, x3⟩
  show Le (Cp fRec p0 (x2, x3)) (Cp fRec' p0 (x2, x3))
  unfold Cp
  repeat' with_reducible (first | refine Le.orR' ?_ ?_ | refine Le.bind' ?_ ?_ | refine Le.ite' ?_ ?_ | refine Le.loopM ?_ | refine Le.altS' ?_ ?_ | exact hfRec | exact hfRec _ | exact Le.rfl' _ | (refine Le.pi2 ?_; intro _) | intro _)
theorem Kd {fRec fRec' : Tr28 → Option Int} (hfRec : ∀ a0, Le (fRec a0) (fRec' a0)) (p0 : Tr28) : ∀ s, Le (Cn fRec p0 s) (Cn fRec' p0 s) := by
  rintro ⟨x6, x7⟩
  show Le (Cn fRec p0 (x6, x7)) (Cn fRec' p0 (x6, x7))
  unfold Cn
  repeat' with_reducible (first | refine Le.orR' ?_ ?_ | refine Le.bind' ?_ ?_ | refine Le.ite' ?_ ?_ | refine Le.loopM ?_ | refine Le.altS' ?_ ?_ | exact hfRec | exact hfRec _ | exact Le.rfl' _ | (refine Le.pi2 ?_; intro _) | intro _)
theorem J3 {fRec fRec' : Tr28 → Option Int} (hfRec : ∀ a0, Le (fRec a0) (fRec' a0)) (p0 : Tr28) : ∀ s, Le (Cm fRec p0 s) (Cm fRec' p0 s) := by
  rintro ⟨x10, x11⟩
  show Le (Cm fRec p0 (x10, x11)) (Cm fRec' p0 (x10, x11))
  unfold Cm
  repeat' with_reducible (first | refine Le.orR' ?_ ?_ | refine Le.bind' ?_ ?_ | refine Le.ite' ?_ ?_ | refine Le.loopM ?_ | refine Le.altS' ?_ ?_ | exact hfRec | exact hfRec _ | exact Le.rfl' _ | (refine Le.pi2 ?_; intro _) | intro _)
theorem J0 {fRec fRec' : Tr28 → Option Int} (hfRec : ∀ a0, Le (fRec a0) (fRec' a0)) (p0 : Tr28) : Le (C4 fRec p0) (C4 fRec' p0) := by
  unfold C4
  repeat' with_reducible (first | refine Le.orR' ?_ ?_ | refine Le.bind' ?_ ?_ | refine Le.ite' ?_ ?_ | refine Le.loopM ?_ | refine Le.altS' ?_ ?_ | exact hfRec | exact hfRec _ | apply JO | apply Kd | apply J3 | exact Le.rfl' _ | (refine Le.pi2 ?_; intro _) | intro _)
theorem HS : ∀ (m : Nat) a0, Le (BZ m a0) (BZ (m + 1) a0)
  | 0, a0 => fun _ h => nomatch h
  | m + 1, a0 => J0 (HS m) a0
structure Sh (l l' : List C2) (n : Nat) : Prop where
  t : Tks l
  t' : Tks l'
  len : l.length = n + 1
  len' : l'.length = n + 3
  tok : ∀ i, i < n → ∃ (h1 : i < l.length) (h2 : i + 1 < l'.length), bare l'[i + 1] = bare l[i]
  fin : ∃ h : n < l.length, l[n].1 = 4
  cl : ∃ h : n + 1 < l'.length, bare l'[n + 1] = (3, 0, [41])
def My {A : Type} (l l' : List C2) (n : Nat) (P : Ps → Option ((A × Ps) ⊕ Pn)) : Prop := ∀ i : Nat, i ≤ n → ∀ x q, P (l, (i : Int)) = some (.inl (x, q)) → ∃ j : Nat, i ≤ j ∧ j ≤ n ∧ q = (l, (j : Int)) ∧ P (l', ((i + 1 : Nat) : Int)) = some (.inl (x, (l', ((j + 1 : Nat) : Int))))
theorem Da {A B E : Type} {a x : A} {b q : B} (h : (some (.inl (a, b)) : Option ((A × B) ⊕ E)) = some (.inl (x, q))) : a = x ∧ b = q := by
  have := Sum.inl.inj (Option.some.inj h)
  exact ⟨congrArg Prod.fst this, congrArg Prod.snd this⟩
theorem Ds {A B R E : Type} {o : Option (A ⊕ B)} {f : A → Option (R ⊕ E)} {g : B → Option (R ⊕ E)} {r : R} (H : (o.bind fun x => B1 x f g) = some (.inl r)) (hg : ∀ b, ∃ e, g b = some (.inr e)) : ∃ a, o = some (.inl a) ∧ f a = some (.inl r) := by
  obtain ⟨y, h1, h2⟩ := Aq H
  cases y with
  | inl a => exact ⟨a, h1, h2⟩
  | inr b =>
    obtain ⟨e, he⟩ := hg b
    have h2' : g b = some (.inl r) := h2
    rw [he] at h2'
    cases Option.some.inj h2'
theorem Qs {a b : C2} (h : bare a = bare b) (s : List UInt8) : F3 a s = F3 b s := by
  have h1 : a.1 = b.1 := congrArg (fun q : Int × Int × List UInt8 => q.1) h
  have h2 : a.2.2.1 = b.2.2.1 := congrArg (fun q : Int × Int × List UInt8 => q.2.2) h
  unfold F3; rw [h1, h2]
theorem RR {a b : C2} (h : bare a = bare b) : A3 a = A3 b := by
  have h1 : a.1 = b.1 := congrArg (fun q : Int × Int × List UInt8 => q.1) h
  have h2 : a.2.2.1 = b.2.2.1 := congrArg (fun q : Int × Int × List UInt8 => q.2.2) h
  unfold A3; rw [h1, h2]
section sh
variable {l l' : List C2} {n : Nat} (hs : Sh l l' n)
include hs
theorem Pc {i : Nat} (hi : i ≤ n) (s : List UInt8) : ∃ (h1 : i < l.length) (h2 : i + 1 < l'.length), (F3 l[i] s = true → i < n) ∧ ((i < n ∨ s ≠ [41]) → F3 l'[i + 1] s = F3 l[i] s) := by
  by_cases c : i < n
  · obtain ⟨h1, h2, h3⟩ := hs.tok i c
    exact ⟨h1, h2, fun _ => c, fun _ => Qs h3 s⟩
  · obtain rfl : i = n := by omega
    obtain ⟨h1, h3⟩ := hs.fin
    obtain ⟨h2, h4⟩ := hs.cl
    have e : F3 l[i] s = false := by unfold F3; exact decide_eq_false (fun h => by omega)
    refine ⟨h1, h2, fun h => (by rw [e] at h; cases h), fun h => ?_⟩
    rw [e]
    have h5 : l'[i + 1].2.2.1 = [41] := congrArg (fun q : Int × Int × List UInt8 => q.2.2) h4
    unfold F3
    refine decide_eq_false (fun hh => ?_)
    rcases h with h | h
    · omega
    · exact h (by rw [← hh.2, h5])
theorem HA {i : Nat} (hi : i ≤ n) {s : List UInt8} (h41 : s ≠ [41]) : (i < n ∧ As (l, (i : Int)) s = some (true, (l, ((i + 1 : Nat) : Int))) ∧ As (l', ((i + 1 : Nat) : Int)) s = some (true, (l', ((i + 1 + 1 : Nat) : Int)))) ∨
    (As (l, (i : Int)) s = some (false, (l, (i : Int))) ∧ As (l', ((i + 1 : Nat) : Int)) s = some (false, (l', ((i + 1 : Nat) : Int)))) := by
  obtain ⟨h1, h2, h3, h4⟩ := Pc hs hi s
  have h4 := h4 (.inr h41)
  by_cases c : F3 l[i] s = true
  · exact .inl ⟨h3 c, DJ hs.t h1 c, DJ hs.t' h2 (by rw [h4]; exact c)⟩
  · exact .inr ⟨Dg h1 c, Dg h2 (by rw [h4]; exact c)⟩
theorem Kg {i : Nat} (hi : i ≤ n) {s : List UInt8} {q : Ps} (H : Ao (l, (i : Int)) s = some (.inl q)) : i < n ∧ q = (l, ((i + 1 : Nat) : Int)) ∧ Ao (l', ((i + 1 : Nat) : Int)) s = some (.inl (l', ((i + 1 + 1 : Nat) : Int))) := by
  obtain ⟨h1, h2, h3, h4⟩ := Pc hs hi s
  by_cases c : F3 l[i] s = true
  · have hn := h3 c
    rw [EG hs.t h1 c] at H
    exact ⟨hn, (Sum.inl.inj (Option.some.inj H)).symm, EG hs.t' h2 (by rw [h4 (.inl hn)]; exact c)⟩
  · rw [GH h1 c] at H
    cases Option.some.inj H
theorem QN {i : Nat} (hi : i ≤ n) {v : Int} {q : Ps} (H : AQ (l, (i : Int)) = some (.inl (v, q))) : i < n ∧ q = (l, ((i + 1 : Nat) : Int)) ∧ AQ (l', ((i + 1 : Nat) : Int)) = some (.inl (v, (l', ((i + 1 + 1 : Nat) : Int)))) := by
  obtain ⟨h1, h2, _⟩ := Pc hs hi []
  by_cases c : l[i].1 = 2
  · have hn : i < n := by
      obtain ⟨f1, f2⟩ := hs.fin
      rcases Nat.lt_or_ge i n with h | h
      · exact h
      · obtain rfl : i = n := by omega
        omega
    obtain ⟨_, _, hb⟩ := hs.tok i hn
    have e1 : l'[i + 1].1 = l[i].1 := congrArg (fun q : Int × Int × List UInt8 => q.1) hb
    have e2 : l'[i + 1].2.1 = l[i].2.1 := congrArg (fun q : Int × Int × List UInt8 => q.2.1) hb
    rw [Ja hs.t h1 c] at H
    obtain ⟨rfl, rfl⟩ := Da H
    exact ⟨hn, rfl, by rw [Ja hs.t' h2 (by omega), e2]⟩
  · rw [Mt h1 c] at H
    cases Option.some.inj H
theorem QL {i : Nat} (hi : i ≤ n) {m f : Int} {q : Ps} (H : BE (l, (i : Int)) m = some (.inl (f, q))) : i < n ∧ q = (l, ((i + 1 : Nat) : Int)) ∧ BE (l', ((i + 1 : Nat) : Int)) m = some (.inl (f, (l', ((i + 1 + 1 : Nat) : Int)))) := by
  obtain ⟨h1, h2, _⟩ := Pc hs hi []
  unfold BE at H ⊢
  rw [GX h1, Option.bind_some] at H
  rw [GX h2, Option.bind_some]
  by_cases c : (decide (A3 l[i] < 0) || decide (m < A3 l[i])) = true
  · rw [if_pos c, JY h1] at H
    cases Option.some.inj H
  · have hn : i < n := by
      obtain ⟨f1, f2⟩ := hs.fin
      rcases Nat.lt_or_ge i n with h | h
      · exact h
      · obtain rfl : i = n := by omega
        exfalso; apply c
        have : A3 l[i] = -1 := by unfold A3; rw [if_pos (by omega)]
        rw [this]; rfl
    obtain ⟨_, _, hb⟩ := hs.tok i hn
    rw [if_neg c, Fw hs.t h1] at H
    obtain ⟨rfl, rfl⟩ := Da H
    rw [RR hb, if_neg c, Fw hs.t' h2]
    exact ⟨hn, rfl, rfl⟩
theorem Pp {A : Type} {sep : List UInt8} (h41 : sep ≠ [41]) {pf : Ps → Option ((A × Ps) ⊕ Pn)} (hpf : My l l' n pf)
    {S : (List A × List C2 × Int) → Option ((List A × List C2 × Int) ⊕ ((List A × List C2 × Int) ⊕ ((A × Ps) ⊕ Pn)))}
    (hS : ∀ (L : List C2) xs (j : Nat), S (xs, L, (j : Int)) = (As (L, (j : Int)) sep).bind fun x10 => if x10.1 = true then (pf x10.2).bind fun x11 => B1 x11 (fun x12 => (D0 xs [x12.1]).bind fun x14 => some (.inl (x14, x12.2.1, x12.2.2))) (fun x13 => some (.inr (.inr (.inr (x13.1, x13.2))))) else some (.inr (.inl (xs, x10.2.1, x10.2.2)))) :
    ∀ (d j : Nat) (xs : List A) z, n - j < d → j ≤ n → Bo S (xs, l, (j : Int)) = some z → (∃ ps, ∃ j2 : Nat, j ≤ j2 ∧ j2 ≤ n ∧ z = .inl (ps, l, (j2 : Int)) ∧ Bo S (xs, l', ((j + 1 : Nat) : Int)) = some (.inl (ps, l', ((j2 + 1 : Nat) : Int)))) ∨ ∃ e, z = .inr (.inr e)
  | 0, j, xs, z, hd, _, _ => absurd hd (Nat.not_lt_zero _)
  | d + 1, j, xs, z, hd, hj, H => by
    have h1 := hS l xs j
    have h2 := hS l' xs (j + 1)
    rcases HA hs hj h41 with ⟨hn, a1, a2⟩ | ⟨a1, a2⟩
    · rw [a1, Option.bind_some, if_pos rfl] at h1
      rw [a2, Option.bind_some, if_pos rfl] at h2
      cases hp : pf (l, ((j + 1 : Nat) : Int)) with
      | none =>
        have h1' : S (xs, l, (j : Int)) = (pf (l, ((j + 1 : Nat) : Int))).bind _ := h1
        rw [hp] at h1'
        rw [FJ, h1'] at H; cases H
      | some o =>
        have h1' : S (xs, l, (j : Int)) = (pf (l, ((j + 1 : Nat) : Int))).bind _ := h1
        rw [hp, Option.bind_some] at h1'
        cases o with
        | inr e =>
          rw [B5 (e := .inr (.inr (e.1, e.2))) h1'] at H
          exact .inr ⟨_, (Option.some.inj H).symm⟩
        | inl y =>
          obtain ⟨y, q⟩ := y
          obtain ⟨j2, g1, g2, rfl, g4⟩ := hpf (j + 1) (by omega) y q hp
          have h2' : S (xs, l', ((j + 1 : Nat) : Int)) = (pf (l', ((j + 1 + 1 : Nat) : Int))).bind _ := h2
          rw [g4, Option.bind_some] at h2'
          have k1 : S (xs, l, (j : Int)) = (D0 xs [y]).bind fun x14 => some (.inl (x14, l, (j2 : Int))) := h1'
          have k2 : S (xs, l', ((j + 1 : Nat) : Int)) = (D0 xs [y]).bind fun x14 => some (.inl (x14, l', ((j2 + 1 : Nat) : Int))) := h2'
          cases ha : D0 xs [y] with
          | none => rw [FJ, k1, ha] at H; cases H
          | some ys =>
            rw [ha, Option.bind_some] at k1 k2
            rw [Dr k1] at H
            rw [Dr k2]
            rcases Pp h41 hpf hS d j2 ys z (by omega) g2 H with ⟨ps, j3, r1, r2, r3, r4⟩ | r
            · exact .inl ⟨ps, j3, by omega, r2, r3, r4⟩
            · exact .inr r
    · rw [a1, Option.bind_some, if_neg (show ¬ ((false, (l, (j : Int))) : Bool × Ps).1 = true from Bool.false_ne_true)] at h1
      rw [a2, Option.bind_some, if_neg (show ¬ ((false, (l', ((j + 1 : Nat) : Int))) : Bool × Ps).1 = true from Bool.false_ne_true)] at h2
      rw [B5 h1] at H
      exact .inl ⟨xs, j, Nat.le_refl _, hj, (Option.some.inj H).symm, B5 h2⟩
theorem J6 {A : Type} {sep : List UInt8} (h41 : sep ≠ [41]) {pf : Ps → Option ((A × Ps) ⊕ Pn)} (hpf : My l l' n pf) {node : List A → A}
    {S : (List A × List C2 × Int) → Option ((List A × List C2 × Int) ⊕ ((List A × List C2 × Int) ⊕ ((A × Ps) ⊕ Pn)))}
    (hS : ∀ (L : List C2) xs (j : Nat), S (xs, L, (j : Int)) = (As (L, (j : Int)) sep).bind fun x10 => if x10.1 = true then (pf x10.2).bind fun x11 => B1 x11 (fun x12 => (D0 xs [x12.1]).bind fun x14 => some (.inl (x14, x12.2.1, x12.2.2))) (fun x13 => some (.inr (.inr (.inr (x13.1, x13.2))))) else some (.inr (.inl (xs, x10.2.1, x10.2.2))))
    {P : Ps → Option ((A × Ps) ⊕ Pn)} (hP : ∀ (L : List C2) (i : Nat), P (L, (i : Int)) = (pf (L, (i : Int))).bind fun x1 => B1 x1 (fun x2 => HX (Bo S ([x2.1], x2.2.1, x2.2.2)) fun z => if (z.1.length : Int) = 1 then (ix z.1 0).bind fun x15 => some (.inl (x15, (z.2.1, z.2.2))) else some (.inl (node z.1, (z.2.1, z.2.2)))) (fun x3 => some (.inr (x3.1, x3.2)))) : My l l' n P := by
  intro i hi x q H
  rw [hP] at H
  obtain ⟨⟨y, q1⟩, h1, h2⟩ := Ds H (fun b => ⟨_, rfl⟩)
  obtain ⟨j, g1, g2, rfl, g4⟩ := hpf i hi y q1 h1
  have h2' : HX (Bo S ([y], l, (j : Int))) _ = _ := h2
  have hG : P (l', ((i + 1 : Nat) : Int)) = HX (Bo S ([y], l', ((j + 1 : Nat) : Int))) fun z => if (z.1.length : Int) = 1 then (ix z.1 0).bind fun x15 => some (.inl (x15, (z.2.1, z.2.2))) else some (.inl (node z.1, (z.2.1, z.2.2))) := by rw [hP, g4]; rfl
  cases hz : Bo S ([y], l, (j : Int)) with
  | none => rw [hz] at h2'; cases h2'
  | some z =>
    rw [hz] at h2'
    rcases Pp hs h41 hpf hS (n - j + 1) j [y] z (by omega) g2 hz with ⟨ps, j2, r1, r2, rfl, r4⟩ | ⟨e, rfl⟩
    · rw [hG, r4]
      have h3 : (if (ps.length : Int) = 1 then (ix ps 0).bind fun x15 => some (.inl (x15, (l, (j2 : Int)))) else some (.inl (node ps, (l, (j2 : Int)))) : Option ((A × Ps) ⊕ Pn)) = some (.inl (x, q)) := h2'
      show ∃ j : Nat, _ ∧ _ ∧ _ ∧ (if (ps.length : Int) = 1 then (ix ps 0).bind fun x15 => some (.inl (x15, (l', ((j2 + 1 : Nat) : Int)))) else some (.inl (node ps, (l', ((j2 + 1 : Nat) : Int)))) : Option ((A × Ps) ⊕ Pn)) = _
      by_cases c : (ps.length : Int) = 1
      · rw [if_pos c] at h3 ⊢
        obtain ⟨w, k1, k2⟩ := Aq h3
        obtain ⟨rfl, rfl⟩ := Da k2
        exact ⟨j2, by omega, r2, rfl, by rw [k1]; rfl⟩
      · rw [if_neg c] at h3 ⊢
        obtain ⟨rfl, rfl⟩ := Da h3
        exact ⟨j2, by omega, r2, rfl, rfl⟩
    · have h3 : (some (.inr e) : Option ((A × Ps) ⊕ Pn)) = some (.inl (x, q)) := h2'
      cases Option.some.inj h3
theorem Nc {C : Ps → PC} (hC : My l l' n C) : ∀ m : Nat, My l l' n (AN C m)
  | 0 => fun i hi x q H => by cases H
  | m + 1 => fun i hi x q H => by
    obtain ⟨R, hR⟩ : ∃ R, AN C (m + 1) (l', ((i + 1 : Nat) : Int)) = R := ⟨_, rfl⟩
    rw [hR]
    have H : A9 C (AN C m) (l, (i : Int)) = _ := H
    have hR : A9 C (AN C m) (l', ((i + 1 : Nat) : Int)) = R := hR
    unfold A9 at H hR
    rcases HA hs hi (s := [116, 114, 117, 101]) (by decide) with ⟨hn, a1, a2⟩ | ⟨a1, a2⟩
    · rw [a1, Option.bind_some, if_pos rfl] at H
      rw [a2, Option.bind_some, if_pos rfl] at hR
      obtain ⟨rfl, rfl⟩ := Da H
      exact ⟨i + 1, by omega, by omega, rfl, hR.symm⟩
    rw [a1] at H
    rw [a2] at hR
    simp only [Option.bind_some, Bool.false_eq_true, if_false] at H hR
    rcases HA hs hi (s := [102, 97, 108, 115, 101]) (by decide) with ⟨hn, a1, a2⟩ | ⟨a1, a2⟩
    · rw [a1, Option.bind_some, if_pos rfl] at H
      rw [a2, Option.bind_some, if_pos rfl] at hR
      obtain ⟨rfl, rfl⟩ := Da H
      exact ⟨i + 1, by omega, by omega, rfl, hR.symm⟩
    rw [a1] at H
    rw [a2] at hR
    simp only [Option.bind_some, Bool.false_eq_true, if_false] at H hR
    rcases HA hs hi (s := [110, 111, 116]) (by decide) with ⟨hn, a1, a2⟩ | ⟨a1, a2⟩
    · rw [a1] at H
      rw [a2] at hR
      simp only [Option.bind_some, if_true] at H hR
      obtain ⟨⟨y, q1⟩, h1, h2⟩ := Ds H (fun b => ⟨_, rfl⟩)
      obtain ⟨j, g1, g2, rfl, g4⟩ := Nc hC m (i + 1) (by omega) y q1 h1
      rw [g4] at hR
      obtain ⟨rfl, rfl⟩ := Da h2
      exact ⟨j, by omega, g2, rfl, hR.symm⟩
    rw [a1] at H
    rw [a2] at hR
    simp only [Option.bind_some, Bool.false_eq_true, if_false] at H hR
    rcases HA hs hi (s := [40]) (by decide) with ⟨hn, a1, a2⟩ | ⟨a1, a2⟩
    · rw [a1] at H
      rw [a2] at hR
      simp only [Option.bind_some, if_true] at H hR
      obtain ⟨⟨y, q1⟩, h1, h2⟩ := Ds H (fun b => ⟨_, rfl⟩)
      obtain ⟨j, g1, g2, rfl, g4⟩ := hC (i + 1) (by omega) y q1 h1
      obtain ⟨q2, h3, h4⟩ := Ds h2 (fun b => ⟨_, rfl⟩)
      obtain ⟨k1, rfl, k3⟩ := Kg hs g2 h3
      rw [g4] at hR
      have hR : (Ao (l', ((j + 1 : Nat) : Int)) [41]).bind _ = R := hR
      rw [k3] at hR
      obtain ⟨rfl, rfl⟩ := Da h4
      exact ⟨j + 1, by omega, by omega, rfl, hR.symm⟩
    rw [a1] at H
    rw [a2] at hR
    simp only [Option.bind_some, Bool.false_eq_true, if_false] at H hR
    obtain ⟨⟨f, q1⟩, h1, h2⟩ := Ds H (fun b => ⟨_, rfl⟩)
    obtain ⟨k1, rfl, k3⟩ := QL hs hi h1
    obtain ⟨q2, h3, h4⟩ := Ds h2 (fun b => ⟨_, rfl⟩)
    obtain ⟨k4, rfl, k6⟩ := Kg hs (by omega) h3
    obtain ⟨⟨v, q3⟩, h5, h6⟩ := Ds h4 (fun b => ⟨_, rfl⟩)
    obtain ⟨k7, rfl, k9⟩ := QN hs (by omega) h5
    rw [k3] at hR
    have hR : (Ao (l', ((i + 1 + 1 : Nat) : Int)) [61]).bind _ = R := hR
    rw [k6] at hR
    have hR : (AQ (l', ((i + 1 + 1 + 1 : Nat) : Int))).bind _ = R := hR
    rw [k9] at hR
    obtain ⟨rfl, rfl⟩ := Da h6
    exact ⟨i + 1 + 1 + 1, by omega, by omega, rfl, hR.symm⟩
omit hs in
theorem NO {A : Type} {g : Nat → Ps → Option ((A × Ps) ⊕ Pn)} (hup : ∀ p n r, g n p = some r → g (n + 1) p = some r) (h : ∀ m, My l l' n (g m)) : My l l' n fun p => Ge fun m => g m p := fun i hi x q H => by
  obtain ⟨m, hm⟩ := Cy H
  obtain ⟨j, g1, g2, g3, g4⟩ := h m i hi x q hm
  exact ⟨j, g1, g2, g3, Ca (g := fun m => g m (l', ((i + 1 : Nat) : Int))) (fun n r => hup _ n r) g4⟩
theorem RT {C : Ps → PC} (hC : My l l' n C) : My l l' n (Bg C) := by
  have hf : My l l' n (BN C) := NO (g := fun m => AN C m) (fun p k r h => B4 (fun _ => Le.rfl' _) k p r h) (Nc hs hC)
  have hg := J6 hs (sep := [97, 110, 100]) (by decide) hf (node := fun xs => Tr25.of (5, 0, 0, xs)) (S := Bh C [97, 110, 100]) (fun L xs k => rfl) (P := fun p => BF C p [97, 110, 100]) (fun L i => rfl)
  intro i hi x q H
  unfold Bg at H ⊢
  obtain ⟨⟨y, q1⟩, h1, h2⟩ := Ds H (fun b => ⟨_, rfl⟩)
  obtain ⟨j, g1, g2, rfl, g4⟩ := hg i hi y q1 h1
  obtain ⟨rfl, rfl⟩ := Da h2
  exact ⟨j, g1, g2, rfl, by dsimp only at g4; rw [g4]; rfl⟩
theorem Nb : ∀ m : Nat, My l l' n (Ap m)
  | 0 => fun i hi x q H => by cases H
  | m + 1 => by
    have hg := J6 hs (sep := [111, 114]) (by decide) (RT hs (Nb m)) (node := fun xs => Tr25.of (6, 0, 0, xs)) (S := Bj (Ap m) [111, 114]) (fun L xs k => rfl) (P := fun p => BH (Ap m) p [111, 114]) (fun L i => rfl)
    intro i hi x q H
    have H : AU (Ap m) (l, (i : Int)) = _ := H
    show ∃ j : Nat, _ ∧ _ ∧ _ ∧ AU (Ap m) (l', ((i + 1 : Nat) : Int)) = _
    unfold AU at H ⊢
    obtain ⟨⟨y, q1⟩, h1, h2⟩ := Ds H (fun b => ⟨_, rfl⟩)
    obtain ⟨j, g1, g2, rfl, g4⟩ := hg i hi y q1 h1
    obtain ⟨rfl, rfl⟩ := Da h2
    exact ⟨j, g1, g2, rfl, by dsimp only at g4; rw [g4]; rfl⟩
theorem O9 : My l l' n Ce := NO (g := fun m => Ap m) (fun p k r h => Ck k p r h) (Nb hs)
theorem PX {C : Ps → PD} (hC : My l l' n C) : My l l' n (Bq C) := by
  intro i hi x q H
  obtain ⟨R, hR⟩ : ∃ R, Bq C (l', ((i + 1 : Nat) : Int)) = R := ⟨_, rfl⟩
  rw [hR]
  unfold Bq at H hR
  simp only [Gw, GE] at H hR
  obtain ⟨⟨y, q1⟩, h1, h2⟩ := Ds H (fun b => ⟨_, rfl⟩)
  obtain ⟨j, g1, g2, rfl, g4⟩ := O9 hs i hi y q1 h1
  rw [g4] at hR
  have hR : (Ao (l', ((j + 1 : Nat) : Int)) [116, 104, 101, 110]).bind _ = R := hR
  obtain ⟨q2, h3, h4⟩ := Ds h2 (fun b => ⟨_, rfl⟩)
  obtain ⟨k1, rfl, k3⟩ := Kg hs g2 h3
  rw [k3] at hR
  have hR : (C (l', ((j + 1 + 1 : Nat) : Int))).bind _ = R := hR
  obtain ⟨⟨a, q3⟩, h5, h6⟩ := Ds h4 (fun b => ⟨_, rfl⟩)
  obtain ⟨j2, r1, r2, rfl, r4⟩ := hC (j + 1) (by omega) a q3 h5
  rw [r4] at hR
  have hR : (Ao (l', ((j2 + 1 : Nat) : Int)) [101, 108, 115, 101]).bind _ = R := hR
  obtain ⟨q4, h7, h8⟩ := Ds h6 (fun b => ⟨_, rfl⟩)
  obtain ⟨k4, rfl, k6⟩ := Kg hs r2 h7
  rw [k6] at hR
  have hR : (C (l', ((j2 + 1 + 1 : Nat) : Int))).bind _ = R := hR
  obtain ⟨⟨b, q5⟩, h9, h10⟩ := Ds h8 (fun b => ⟨_, rfl⟩)
  obtain ⟨j3, s1, s2, rfl, s4⟩ := hC (j2 + 1) (by omega) b q5 h9
  rw [s4] at hR
  obtain ⟨rfl, rfl⟩ := Da h10
  exact ⟨j3, by omega, s2, rfl, hR.symm⟩
theorem PL {C : Ps → PD} (hC : My l l' n C) : ∀ m : Nat, My l l' n (AB C m)
  | 0 => fun i hi x q H => by cases H
  | m + 1 => fun i hi x q H => by
    obtain ⟨R, hR⟩ : ∃ R, AB C (m + 1) (l', ((i + 1 : Nat) : Int)) = R := ⟨_, rfl⟩
    rw [hR]
    have H : A0 C (AB C m) (l, (i : Int)) = _ := H
    have hR : A0 C (AB C m) (l', ((i + 1 : Nat) : Int)) = R := hR
    unfold A0 at H hR
    simp only [Gw, GE] at H hR
    rcases HA hs hi (s := [100, 114, 111, 112]) (by decide) with ⟨hn, a1, a2⟩ | ⟨a1, a2⟩
    · rw [a1, Option.bind_some, if_pos rfl] at H
      rw [a2, Option.bind_some, if_pos rfl] at hR
      obtain ⟨rfl, rfl⟩ := Da H
      exact ⟨i + 1, by omega, by omega, rfl, hR.symm⟩
    rw [a1] at H
    rw [a2] at hR
    simp only [Option.bind_some, Bool.false_eq_true, if_false] at H hR
    rcases HA hs hi (s := [105, 100]) (by decide) with ⟨hn, a1, a2⟩ | ⟨a1, a2⟩
    · rw [a1, Option.bind_some, if_pos rfl] at H
      rw [a2, Option.bind_some, if_pos rfl] at hR
      obtain ⟨rfl, rfl⟩ := Da H
      exact ⟨i + 1, by omega, by omega, rfl, hR.symm⟩
    rw [a1] at H
    rw [a2] at hR
    simp only [Option.bind_some, Bool.false_eq_true, if_false] at H hR
    rcases HA hs hi (s := [119, 104, 101, 110]) (by decide) with ⟨hn, a1, a2⟩ | ⟨a1, a2⟩
    · rw [a1] at H
      rw [a2] at hR
      simp only [Option.bind_some, if_true] at H hR
      obtain ⟨⟨y, q1⟩, h1, h2⟩ := Ds H (fun b => ⟨_, rfl⟩)
      obtain ⟨j, g1, g2, rfl, g4⟩ := O9 hs (i + 1) (by omega) y q1 h1
      rw [g4] at hR
      obtain ⟨rfl, rfl⟩ := Da h2
      exact ⟨j, by omega, g2, rfl, hR.symm⟩
    rw [a1] at H
    rw [a2] at hR
    simp only [Option.bind_some, Bool.false_eq_true, if_false] at H hR
    rcases HA hs hi (s := [105, 102]) (by decide) with ⟨hn, a1, a2⟩ | ⟨a1, a2⟩
    · rw [a1] at H
      rw [a2] at hR
      simp only [Option.bind_some, if_true] at H hR
      obtain ⟨⟨y, q1⟩, h1, h2⟩ := Ds H (fun b => ⟨_, rfl⟩)
      obtain ⟨j, g1, g2, rfl, g4⟩ := PX hs (PL hC m) (i + 1) (by omega) y q1 h1
      rw [g4] at hR
      obtain ⟨rfl, rfl⟩ := Da h2
      exact ⟨j, by omega, g2, rfl, hR.symm⟩
    rw [a1] at H
    rw [a2] at hR
    simp only [Option.bind_some, Bool.false_eq_true, if_false] at H hR
    rcases HA hs hi (s := [40]) (by decide) with ⟨hn, a1, a2⟩ | ⟨a1, a2⟩
    · rw [a1] at H
      rw [a2] at hR
      simp only [Option.bind_some, if_true] at H hR
      obtain ⟨⟨y, q1⟩, h1, h2⟩ := Ds H (fun b => ⟨_, rfl⟩)
      obtain ⟨j, g1, g2, rfl, g4⟩ := hC (i + 1) (by omega) y q1 h1
      obtain ⟨q2, h3, h4⟩ := Ds h2 (fun b => ⟨_, rfl⟩)
      obtain ⟨k1, rfl, k3⟩ := Kg hs g2 h3
      rw [g4] at hR
      have hR : (Ao (l', ((j + 1 : Nat) : Int)) [41]).bind _ = R := hR
      rw [k3] at hR
      obtain ⟨rfl, rfl⟩ := Da h4
      exact ⟨j + 1, by omega, by omega, rfl, hR.symm⟩
    rw [a1] at H
    rw [a2] at hR
    simp only [Option.bind_some, Bool.false_eq_true, if_false] at H hR
    obtain ⟨⟨f, q1⟩, h1, h2⟩ := Ds H (fun b => ⟨_, rfl⟩)
    obtain ⟨k1, rfl, k3⟩ := QL hs hi h1
    obtain ⟨q2, h3, h4⟩ := Ds h2 (fun b => ⟨_, rfl⟩)
    obtain ⟨k4, rfl, k6⟩ := Kg hs (by omega) h3
    obtain ⟨⟨v, q3⟩, h5, h6⟩ := Ds h4 (fun b => ⟨_, rfl⟩)
    obtain ⟨k7, rfl, k9⟩ := QN hs (by omega) h5
    rw [k3] at hR
    have hR : (Ao (l', ((i + 1 + 1 : Nat) : Int)) [58, 61]).bind _ = R := hR
    rw [k6] at hR
    have hR : (AQ (l', ((i + 1 + 1 + 1 : Nat) : Int))).bind _ = R := hR
    rw [k9] at hR
    obtain ⟨rfl, rfl⟩ := Da h6
    exact ⟨i + 1 + 1 + 1, by omega, by omega, rfl, hR.symm⟩
theorem SC {C : Ps → PD} (hC : My l l' n C) : My l l' n (AJ C) := by
  have hf : My l l' n (Bu C) := NO (g := fun m => AB C m) (fun p k r h => BO (fun _ => Le.rfl' _) k p r h) (PL hs hC)
  have hg := J6 hs (sep := [59]) (by decide) hf (node := fun xs => Tr28.of (3, Tr25.of (0, 0, 0, []), 0, 0, xs)) (S := AK C [59]) (fun L xs k => by rw [AK]; simp only [Gw, GE]) (P := fun p => A1 C p [59]) (fun L i => by unfold A1; simp only [Gw, GE] <;> rfl)
  intro i hi x q H
  unfold AJ at H ⊢
  simp only [Gw, GE] at H ⊢
  obtain ⟨⟨y, q1⟩, h1, h2⟩ := Ds H (fun b => ⟨_, rfl⟩)
  obtain ⟨j, g1, g2, rfl, g4⟩ := hg i hi y q1 h1
  obtain ⟨rfl, rfl⟩ := Da h2
  exact ⟨j, g1, g2, rfl, by dsimp only at g4; rw [g4]; rfl⟩
theorem N6 : ∀ m : Nat, My l l' n (An m)
  | 0 => fun i hi x q H => by cases H
  | m + 1 => by
    have hg := J6 hs (sep := [124]) (by decide) (SC hs (N6 m)) (node := fun xs => Tr28.of (4, Tr25.of (0, 0, 0, []), 0, 0, xs)) (S := AH (An m) [124]) (fun L xs k => by rw [AH]; simp only [Gw, GE]) (P := fun p => AW (An m) p [124]) (fun L i => by unfold AW; simp only [Gw, GE] <;> rfl)
    intro i hi x q H
    have H : AZ (An m) (l, (i : Int)) = _ := H
    show ∃ j : Nat, _ ∧ _ ∧ _ ∧ AZ (An m) (l', ((i + 1 : Nat) : Int)) = _
    unfold AZ at H ⊢
    simp only [Gw, GE] at H ⊢
    obtain ⟨⟨y, q1⟩, h1, h2⟩ := Ds H (fun b => ⟨_, rfl⟩)
    obtain ⟨j, g1, g2, rfl, g4⟩ := hg i hi y q1 h1
    obtain ⟨rfl, rfl⟩ := Da h2
    exact ⟨j, g1, g2, rfl, by dsimp only at g4; rw [g4]; rfl⟩
theorem SJ : My l l' n Bv := NO (g := fun m => An m) (fun p k r h => Cg k p r h) (N6 hs)
end sh
theorem PM : ∀ (n : Nat) (t : Tr25), SizeOf.sizeOf t < n → t.cnt ≤ 1048576 → C6 n t = some (t.cnt : Int)
  | 0, t, h, _ => absurd h (Nat.not_lt_zero _)
  | n + 1, t, h, hc => by
    have hl := TI t
    have hcc := II t
    show DU (C6 n) t = _
    unfold DU
    obtain ⟨o, h1, h2⟩ := HI t.un.2.2.2.length (fun (o : Int) (i : Nat) => (o, (i : Int))) (CR (C6 n) t) id (fun o i => o = 1 + (((t.un.2.2.2.take i).map Tr25.cnt).sum : Nat))
      (fun o i hi ho => by
        have hm := List.getElem_mem hi
        have hx := PM n t.un.2.2.2[i] (by have := OD hm; omega) (Nat.le_trans (Tr hm) hc)
        have hs : ((t.un.2.2.2.take (i + 1)).map Tr25.cnt).sum = ((t.un.2.2.2.take i).map Tr25.cnt).sum + t.un.2.2.2[i].cnt := by
          rw [List.take_succ_eq_append_getElem hi, List.map_append, List.sum_append]; simp
        have hle := LU (g := Tr25.cnt) t.un.2.2.2 (i + 1)
        refine ⟨o + (t.un.2.2.2[i].cnt : Int), ?_, by rw [ho, hs]; omega⟩
        rw [CR, if_pos (by omega), Dx (List.getElem?_eq_getElem hi), Option.bind_some, hx, Option.bind_some, B3 (by rw [ho]; omega), B3 (by omega)]; rfl)
      (fun o _ => by rw [CR, if_neg (by omega)]; rfl) 1 (by simp)
    rw [List.take_length] at h1
    have h2' : Bo (CR (C6 n) t) (1, 0) = some o := h2
    rw [h2', h1, Option.bind_some, hcc]
    congr 1
theorem QP {t : Tr25} (hc : t.cnt ≤ 1048576) : Jh t = some (t.cnt : Int) := Ca (g := fun n => C6 n t) (fun n r h => IZ n t r h) (PM (SizeOf.sizeOf t + 1) t (by omega) hc)
theorem Tz {a b : Tr25} (h1 : a.un.1 = b.un.1) (h2 : a.un.2.1 = b.un.2.1) (h3 : a.un.2.2.1 = b.un.2.2.1) (h4 : a.un.2.2.2 = b.un.2.2.2) : a = b := by
  rw [← Ts a, ← Ts b]
  show Tr25.mk _ _ _ _ = Tr25.mk _ _ _ _
  rw [h1, h2, h3, h4]
open Classical in
theorem PA : ∀ (n : Nat) (a b : Tr25), SizeOf.sizeOf a < n → a.cnt ≤ 1048576 → Dq n a b = some (decide (a = b))
  | 0, a, b, h, _ => absurd h (Nat.not_lt_zero _)
  | n + 1, a, b, h, hc => by
    have hl := TI a
    show DL (Dq n) a b = _
    unfold DL
    by_cases c1 : a.un.1 = b.un.1
    · rw [if_pos c1]
      by_cases c2 : a.un.2.1 = b.un.2.1
      · rw [if_pos c2]
        by_cases c3 : a.un.2.2.1 = b.un.2.2.1
        · rw [if_pos c3]
          unfold AL
          by_cases c4 : a.un.2.2.2.length = b.un.2.2.2.length
          · rw [if_neg (by omega)]
            rw [L5 a.un.2.2.2.length (Az (Dq n) a.un.2.2.2 b.un.2.2.2) (fun k => a.un.2.2.2[k]? ≠ b.un.2.2.2[k]?) false (fun k hk => by
              have hm := List.getElem_mem hk
              have hkb : k < b.un.2.2.2.length := by omega
              have hx := PA n a.un.2.2.2[k] b.un.2.2.2[k] (by have := OD hm; omega) (Nat.le_trans (Tr hm) hc)
              rw [Az, if_pos (by omega), Dx (List.getElem?_eq_getElem hk), Option.bind_some, Dx (List.getElem?_eq_getElem hkb), Option.bind_some, hx, Option.bind_some, B3 (by omega)]
              by_cases e : a.un.2.2.2[k] = b.un.2.2.2[k]
              · rw [decide_eq_true e, if_neg (by decide), if_neg (by rw [List.getElem?_eq_getElem hk, List.getElem?_eq_getElem hkb, e]; simp)]; rfl
              · rw [decide_eq_false e, if_pos (by decide), if_pos (by rw [List.getElem?_eq_getElem hk, List.getElem?_eq_getElem hkb]; simpa using e)]) (by rw [Az, if_neg (by omega)])]
            by_cases e : a.un.2.2.2 = b.un.2.2.2
            · rw [if_neg (fun hh => (Pg c4).1 hh e), decide_eq_true (Tz c1 c2 c3 e)]; rfl
            · rw [if_pos ((Pg c4).2 e), decide_eq_false (fun hh => e (by rw [hh]))]; rfl
          · rw [if_pos (by omega), decide_eq_false (fun hh => c4 (by rw [hh]))]; rfl
        · rw [if_neg c3, decide_eq_false (fun hh => c3 (by rw [hh]))]; rfl
      · rw [if_neg c2, decide_eq_false (fun hh => c2 (by rw [hh]))]; rfl
    · rw [if_neg c1, decide_eq_false (fun hh => c1 (by rw [hh]))]; rfl
open Classical in
theorem Oa {a b : Tr25} (hc : a.cnt ≤ 1048576) : Jj a b = some (decide (a = b)) := Ca (g := fun n => Dq n a b) (fun n r h => IM n a b r h) (PA (SizeOf.sizeOf a + 1) a b (by omega) hc)
theorem Qv (t : Tr25) : HJ t = some (decide (Gi t.un.1 t.un.2.1 t.un.2.2.1 t.un.2.2.2.length)) := by
  unfold HJ
  by_cases c3 : t.un.1 = 3
  · rw [if_pos c3]
    unfold FX
    rw [← Bool.decide_and]
    by_cases k : 0 ≤ t.un.2.1 ∧ t.un.2.1 ≤ 5
    · rw [if_pos (decide_eq_true k)]
      by_cases v0 : 0 ≤ t.un.2.2.1
      · rw [if_pos v0, Q5, Option.bind_some]
        by_cases v1 : t.un.2.2.1 ≤ Hl t.un.2.1
        · rw [if_pos v1, Option.bind_some]
          exact congrArg some (decide_eq_decide.2 ⟨fun h => by unfold Gi; omega, fun h => by unfold Gi at h; omega⟩)
        · rw [if_neg v1, Option.bind_some, decide_eq_false (fun h => by unfold Gi at h; omega)]
      · rw [if_neg v0, Option.bind_some, decide_eq_false (fun h => by unfold Gi at h; omega)]
    · rw [if_neg (by simpa using k), Option.bind_some, decide_eq_false (fun h => by unfold Gi at h; omega)]
  · rw [if_neg c3]
    by_cases z : t.un.2.1 = 0 ∧ t.un.2.2.1 = 0
    · rw [if_neg (by simp [z.1, z.2])]
      by_cases c1 : t.un.1 = 1
      · rw [if_pos c1, Option.bind_some, if_pos rfl]
        exact congrArg some (decide_eq_decide.2 ⟨fun h => by unfold Gi; omega, fun h => by unfold Gi at h; omega⟩)
      · rw [if_neg c1, Option.bind_some]
        by_cases c2 : t.un.1 = 2
        · rw [if_pos (decide_eq_true c2)]
          exact congrArg some (decide_eq_decide.2 ⟨fun h => by unfold Gi; omega, fun h => by unfold Gi at h; omega⟩)
        · rw [if_neg (by simpa using c2)]
          by_cases c4 : t.un.1 = 4
          · rw [if_pos c4]
            exact congrArg some (decide_eq_decide.2 ⟨fun h => by unfold Gi; omega, fun h => by unfold Gi at h; omega⟩)
          · rw [if_neg c4]
            by_cases c5 : t.un.1 = 5
            · rw [if_pos c5, Option.bind_some, if_pos rfl, ← Bool.decide_and]
              exact congrArg some (decide_eq_decide.2 ⟨fun h => by unfold Gi; omega, fun h => by unfold Gi at h; omega⟩)
            · rw [if_neg c5, Option.bind_some]
              by_cases c6 : t.un.1 = 6
              · rw [if_pos (decide_eq_true c6), ← Bool.decide_and]
                exact congrArg some (decide_eq_decide.2 ⟨fun h => by unfold Gi; omega, fun h => by unfold Gi at h; omega⟩)
              · rw [if_neg (by simpa using c6), decide_eq_false (fun h => by unfold Gi at h; omega)]
    · rw [if_pos (by simp only [Bool.or_eq_true, decide_eq_true_eq]; omega), decide_eq_false (fun h => by unfold Gi at h; omega)]
theorem NW : ∀ (n : Nat) (t : Tr25), SizeOf.sizeOf t < n → t.cnt ≤ 1048576 → ∀ b d : Int, 0 ≤ b → b ≤ 1000 → 0 ≤ d → d ≤ 1000 →
    (LM t b d → Bf n b t d = some (true, b - t.cnt)) ∧ (¬ LM t b d → ∃ b', Bf n b t d = some (false, b'))
  | 0, t, h, _ => absurd h (Nat.not_lt_zero _)
  | n + 1, t, h, hc => by
    intro b d b0 b1 d0 d1
    have hl := TI t
    have hcc := II t
    have hde := Tn t
    have hst : Bf (n + 1) b t d = B7 (Bf n) b t d := rfl
    rw [hst]
    unfold B7
    rw [B3 (by omega)]
    by_cases g1 : b - 1 < 0
    · rw [if_pos g1, Option.bind_some, if_pos rfl]
      exact ⟨fun hk => by have := hk.2.2; omega, fun _ => ⟨_, rfl⟩⟩
    rw [if_neg g1]
    by_cases g2 : d < 1
    · rw [if_pos g2, Option.bind_some, if_pos rfl]
      exact ⟨fun hk => by have := hk.2.1; omega, fun _ => ⟨_, rfl⟩⟩
    rw [if_neg g2, Qv, Option.bind_some, Option.bind_some]
    by_cases g3 : Gi t.un.1 t.un.2.1 t.un.2.2.1 t.un.2.2.2.length
    · rw [decide_eq_true g3, if_neg (by decide)]
      have key : ∀ (m i : Nat), i + m = t.un.2.2.2.length → (∀ x ∈ t.un.2.2.2.take i, Ij x = true ∧ (dp x : Int) ≤ d - 1) → (((t.un.2.2.2.take i).map Tr25.cnt).sum : Int) ≤ b - 1 →
          (LM t b d → HX (Bo (Bm (Bf n) t d) ((i : Int), b - 1 - (((t.un.2.2.2.take i).map Tr25.cnt).sum : Nat))) (fun x3 => some (true, x3)) = some (true, b - t.cnt)) ∧ (¬ LM t b d → ∃ b', HX (Bo (Bm (Bf n) t d) ((i : Int), b - 1 - (((t.un.2.2.2.take i).map Tr25.cnt).sum : Nat))) (fun x3 => some (true, x3)) = some (false, b')) := by
        intro m
        induction m with
        | zero =>
          intro i hi hx hs
          have e0 : t.un.2.2.2.take i = t.un.2.2.2 := List.take_of_length_le (by omega)
          rw [e0] at hx hs ⊢
          have hend : Bo (Bm (Bf n) t d) ((i : Int), b - 1 - ((t.un.2.2.2.map Tr25.cnt).sum : Nat)) = some (.inl (b - 1 - ((t.un.2.2.2.map Tr25.cnt).sum : Nat))) := B5 (by rw [Bm, if_neg (by omega)])
          have hok : LM t b d := ⟨(E9 t).2 ⟨g3, fun x hm => (hx x hm).1⟩, by
            have : mx (t.un.2.2.2.map dp) ≤ (d - 1).toNat := Sv fun a ha => by
              obtain ⟨x, hm, rfl⟩ := List.mem_map.1 ha
              have := (hx x hm).2
              omega
            omega, by omega⟩
          refine ⟨fun _ => ?_, fun hn => absurd hok hn⟩
          rw [hend]
          show some (true, b - 1 - ((t.un.2.2.2.map Tr25.cnt).sum : Nat)) = _
          rw [hcc]
          congr 2; omega
        | succ m ih =>
          intro i hi hx hs
          have hil : i < t.un.2.2.2.length := by omega
          have hm := List.getElem_mem hil
          have hsum : ((t.un.2.2.2.take (i + 1)).map Tr25.cnt).sum = ((t.un.2.2.2.take i).map Tr25.cnt).sum + t.un.2.2.2[i].cnt := by
            rw [List.take_succ_eq_append_getElem hil, List.map_append, List.sum_append]; simp
          have hle := LU (g := Tr25.cnt) t.un.2.2.2 (i + 1)
          obtain ⟨r1, r2⟩ := NW n t.un.2.2.2[i] (by have := OD hm; omega) (Nat.le_trans (Tr hm) hc) (b - 1 - (((t.un.2.2.2.take i).map Tr25.cnt).sum : Nat)) (d - 1) (by omega) (by omega) (by omega) (by omega)
          by_cases g : LM t.un.2.2.2[i] (b - 1 - (((t.un.2.2.2.take i).map Tr25.cnt).sum : Nat)) (d - 1)
          · have hstep : Bm (Bf n) t d ((i : Int), b - 1 - (((t.un.2.2.2.take i).map Tr25.cnt).sum : Nat)) = some (.inl (((i + 1 : Nat) : Int), b - 1 - (((t.un.2.2.2.take (i + 1)).map Tr25.cnt).sum : Nat))) := by
              rw [Bm, if_pos (by omega), Dx (List.getElem?_eq_getElem hil), Option.bind_some, B3 (by omega), r1 g, Option.bind_some, if_neg (show ¬ (!true) = true by decide), B3 (by omega), hsum]
              show some (Sum.inl (_, _)) = _
              congr 3; omega
            rw [Dr hstep]
            refine ih (i + 1) (by omega) (fun x hxm => ?_) (by have := g.2.2; omega)
            rw [List.take_succ_eq_append_getElem hil] at hxm
            rcases List.mem_append.1 hxm with hh | hh
            · exact hx x hh
            · rw [List.mem_singleton.1 hh]; exact ⟨g.1, g.2.1⟩
          · obtain ⟨b', hb'⟩ := r2 g
            have hno : ¬ LM t b d := fun hk => g ⟨((E9 t).1 hk.1).2 _ hm, by
              have h1 := Sg (List.mem_map.2 ⟨_, hm, rfl⟩ : dp t.un.2.2.2[i] ∈ t.un.2.2.2.map dp)
              have := hk.2.1
              omega, by have := hk.2.2; omega⟩
            refine ⟨fun hk => absurd hk hno, fun _ => ⟨b', ?_⟩⟩
            rw [B5 (e := .inr (false, b')) (by
              rw [Bm, if_pos (by omega), Dx (List.getElem?_eq_getElem hil), Option.bind_some, B3 (by omega), hb', Option.bind_some, if_pos (by rfl)])]
            rfl
      have := key t.un.2.2.2.length 0 (by omega) (by simp) (by simp; omega)
      simpa using this
    · rw [decide_eq_false g3, if_pos (by decide)]
      exact ⟨fun hk => absurd ((E9 t).1 hk.1).1 g3, fun _ => ⟨_, rfl⟩⟩
theorem MX {t : Tr25} (hc : t.cnt ≤ 1048576) : F2 t = some (decide (LM t 64 8)) := by
  obtain ⟨h1, h2⟩ := NW (SizeOf.sizeOf t + 1) t (by omega) hc 64 8 (by omega) (by omega) (by omega) (by omega)
  unfold F2
  by_cases g : LM t 64 8
  · rw [show Ee 64 t 8 = some (true, (64 - t.cnt : Int)) from Ca (g := fun n => Bf n 64 t 8) (fun n r h => D7 n 64 t 8 r h) (h1 g), decide_eq_true g]; rfl
  · obtain ⟨b', hb⟩ := h2 g
    rw [show Ee 64 t 8 = some (false, b') from Ca (g := fun n => Bf n 64 t 8) (fun n r h => D7 n 64 t 8 r h) hb, decide_eq_false g]; rfl
theorem PG : ∀ (n : Nat) (t : Tr28), SizeOf.sizeOf t < n → t.cnt ≤ 1048576 → BZ n t = some (wd t)
  | 0, t, h, _ => absurd h (Nat.not_lt_zero _)
  | n + 1, t, h, hc => by
    have hl := lP t
    have hx : ∀ x ∈ t.un.2.2.2.2, BZ n x = some (wd x) := fun x hm => PG n x (by have := Se hm; omega) (Nat.le_trans (cP hm) hc)
    have bd : ∀ i, ∀ w ∈ ((t.un.2.2.2.2.take i).map wd), 0 ≤ w ∧ w ≤ 1000 := fun i w hw => by
      obtain ⟨x, _, rfl⟩ := List.mem_map.1 hw
      exact Uj x
    show C4 (BZ n) t = _
    rw [R5]
    unfold C4
    by_cases c3 : t.un.1 = 3
    · rw [if_pos c3, if_pos (by omega)]
      obtain ⟨o, h1, h2⟩ := HI t.un.2.2.2.2.length (fun (o : Int) (i : Nat) => (o, (i : Int))) (Cp (BZ n) t) id (fun o i => o = ((t.un.2.2.2.2.take i).map wd).foldl (wf t.un.1) (w0 t.un.1))
        (fun o i hi ho => by
          have hb := Ll (k := t.un.1) _ (w0 t.un.1) (Rc _) (bd i)
          rw [← ho] at hb
          have hm := SV hb (Uj t.un.2.2.2.2[i])
          refine ⟨_, ?_, rfl⟩
          rw [Cp, if_pos (by omega), Dx (List.getElem?_eq_getElem hi), Option.bind_some, Gw, GE, hx _ (List.getElem_mem hi), Option.bind_some, B3 (by omega), B3 (by omega), List.take_succ_eq_append_getElem hi, List.map_append, List.map_cons, List.map_nil, KA, ← ho]
          unfold wf
          rw [if_pos c3]; rfl)
        (fun o _ => by rw [Cp, if_neg (by omega)]; rfl) 1 (by unfold w0; rw [if_pos c3]; rfl)
      rw [List.take_length] at h1
      have h2' : Bo (Cp (BZ n) t) (1, 0) = some o := h2
      rw [h2', h1]; rfl
    rw [if_neg c3]
    by_cases c4 : t.un.1 = 4
    · rw [if_pos c4, if_pos (by omega)]
      obtain ⟨o, h1, h2⟩ := HI t.un.2.2.2.2.length (fun (o : Int) (i : Nat) => (o, (i : Int))) (Cn (BZ n) t) id (fun o i => o = ((t.un.2.2.2.2.take i).map wd).foldl (wf t.un.1) (w0 t.un.1))
        (fun o i hi ho => by
          have hb := Ll (k := t.un.1) _ (w0 t.un.1) (Rc _) (bd i)
          rw [← ho] at hb
          have hm := Uj t.un.2.2.2.2[i]
          refine ⟨_, ?_, rfl⟩
          rw [Cn, if_pos (by omega), Dx (List.getElem?_eq_getElem hi), Option.bind_some, Gw, GE, hx _ (List.getElem_mem hi), Option.bind_some, B3 (by omega), B3 (by omega), List.take_succ_eq_append_getElem hi, List.map_append, List.map_cons, List.map_nil, KA, ← ho]
          unfold wf
          rw [if_neg c3, if_pos c4]; rfl)
        (fun o _ => by rw [Cn, if_neg (by omega)]; rfl) 0 (by unfold w0; rw [if_neg c3]; rfl)
      rw [List.take_length] at h1
      have h2' : Bo (Cn (BZ n) t) (0, 0) = some o := h2
      rw [h2', h1]; rfl
    rw [if_neg c4]
    by_cases c5 : t.un.1 = 5
    · rw [if_pos c5, if_pos (by omega)]
      obtain ⟨o, h1, h2⟩ := HI t.un.2.2.2.2.length (fun (o : Int) (i : Nat) => (o, (i : Int))) (Cm (BZ n) t) id (fun o i => o = ((t.un.2.2.2.2.take i).map wd).foldl (wf t.un.1) (w0 t.un.1))
        (fun o i hi ho => by
          refine ⟨_, ?_, rfl⟩
          rw [Cm, if_pos (by omega), Dx (List.getElem?_eq_getElem hi), Option.bind_some, Gw, GE, hx _ (List.getElem_mem hi), Option.bind_some, B3 (by omega), List.take_succ_eq_append_getElem hi, List.map_append, List.map_cons, List.map_nil, KA, ← ho]
          unfold wf
          rw [if_neg c3, if_neg c4]; rfl)
        (fun o _ => by rw [Cm, if_neg (by omega)]; rfl) 0 (by unfold w0; rw [if_neg c3]; rfl)
      rw [List.take_length] at h1
      have h2' : Bo (Cm (BZ n) t) (0, 0) = some o := h2
      rw [h2', h1]; rfl
    rw [if_neg c5, if_neg (by omega)]; rfl
theorem Q9 {t : Tr28} (hc : t.cnt ≤ 1048576) : IJ t = some (wd t) := Ca (g := fun n => BZ n t) (fun n r h => HS n t r h) (PG (SizeOf.sizeOf t + 1) t (by omega) hc)
open Classical in
theorem RC {t : Tr28} (hc : t.cnt ≤ 1048576) : Ga t = some (decide (N4 t.un.1 t.un.2.1 t.un.2.2.1 t.un.2.2.2.1 t.un.2.2.2.2.length)) := by
  have hq := qP t
  unfold Ga E5
  rw [Gw, Oa (by omega)]
  simp only [Option.bind_some]
  by_cases hz : t.un.2.1 = ZP
  · rw [decide_eq_true hz, show decide (N4 t.un.1 t.un.2.1 t.un.2.2.1 t.un.2.2.2.1 t.un.2.2.2.2.length) = decide (Fd t.un.1 t.un.2.2.1 t.un.2.2.2.1 t.un.2.2.2.2.length) from decide_eq_decide.2 ⟨fun h => h.1, fun h => ⟨h, fun _ => hz⟩⟩]
    have no : ¬ Fd t.un.1 t.un.2.2.1 t.un.2.2.2.1 t.un.2.2.2.2.length → some false = some (decide (Fd t.un.1 t.un.2.2.1 t.un.2.2.2.1 t.un.2.2.2.2.length)) := fun h => by rw [decide_eq_false h]
    have yes : ∀ {P : Prop} [Decidable P], (P ↔ Fd t.un.1 t.un.2.2.1 t.un.2.2.2.1 t.un.2.2.2.2.length) → some (decide P) = some (decide (Fd t.un.1 t.un.2.2.1 t.un.2.2.2.1 t.un.2.2.2.2.length)) := fun h => congrArg some (decide_eq_decide.2 h)
    by_cases c2 : t.un.1 = 2
    · rw [if_pos c2, if_pos rfl]
      by_cases a1 : (t.un.2.2.2.2.length : Int) = 0
      · rw [if_pos a1]
        by_cases a2 : 0 ≤ t.un.2.2.1
        · rw [if_pos a2]
          by_cases a3 : t.un.2.2.1 ≤ 4
          · rw [if_pos a3]
            by_cases a4 : 0 ≤ t.un.2.2.2.1
            · rw [if_pos a4, Q5, Option.bind_some, Option.bind_some]
              exact yes ⟨fun h => by unfold Fd; omega, fun h => by unfold Fd at h; omega⟩
            · rw [if_neg a4]; exact no (fun h => by unfold Fd at h; omega)
          · rw [if_neg a3]; exact no (fun h => by unfold Fd at h; omega)
        · rw [if_neg a2]; exact no (fun h => by unfold Fd at h; omega)
      · rw [if_neg a1]; exact no (fun h => by unfold Fd at h; omega)
    · rw [if_neg c2]
      by_cases z : t.un.2.2.1 = 0 ∧ t.un.2.2.2.1 = 0
      · rw [if_neg (by simp [z.1, z.2])]
        by_cases c1 : t.un.1 = 1
        · rw [if_pos c1]
          exact yes ⟨fun h => by unfold Fd; omega, fun h => by unfold Fd at h; omega⟩
        · rw [if_neg c1]
          by_cases c34 : t.un.1 = 3 ∨ t.un.1 = 4
          · have e : (if t.un.1 = 3 then some true else some (decide (t.un.1 = 4)) : Option Bool) = some true := by
              rcases c34 with h | h
              · rw [if_pos h]
              · rw [if_neg (by omega), decide_eq_true h]
            rw [e, Option.bind_some, if_pos rfl, if_pos rfl]
            by_cases a : 2 ≤ (t.un.2.2.2.2.length : Int)
            · rw [if_pos a, Option.bind_some]
              exact yes ⟨fun h => by unfold Fd; omega, fun h => by unfold Fd at h; omega⟩
            · rw [if_neg a]; exact no (fun h => by unfold Fd at h; omega)
          · rw [if_neg (by omega), decide_eq_false (by omega), Option.bind_some, if_neg (by decide)]
            by_cases c5 : t.un.1 = 5
            · rw [if_pos c5]
              exact yes ⟨fun h => by unfold Fd; omega, fun h => by unfold Fd at h; omega⟩
            · rw [if_neg c5]; exact no (fun h => by unfold Fd at h; omega)
      · rw [if_pos (by simp only [Bool.or_eq_true, decide_eq_true_eq]; omega)]
        exact no (fun h => by unfold Fd at h; omega)
  · rw [decide_eq_false hz]
    have no : ¬ N4 t.un.1 t.un.2.1 t.un.2.2.1 t.un.2.2.2.1 t.un.2.2.2.2.length → some false = some (decide (N4 t.un.1 t.un.2.1 t.un.2.2.1 t.un.2.2.2.1 t.un.2.2.2.2.length)) := fun h => by rw [decide_eq_false h]
    have yes : ∀ {P : Prop} [Decidable P], (P ↔ N4 t.un.1 t.un.2.1 t.un.2.2.1 t.un.2.2.2.1 t.un.2.2.2.2.length) → some (decide P) = some (decide (N4 t.un.1 t.un.2.1 t.un.2.2.1 t.un.2.2.2.1 t.un.2.2.2.2.length)) := fun h => congrArg some (decide_eq_decide.2 h)
    by_cases c2 : t.un.1 = 2
    · rw [if_pos c2, if_neg (by decide)]; exact no (fun h => hz (h.2 (.inl c2)))
    · rw [if_neg c2]
      by_cases z : t.un.2.2.1 = 0 ∧ t.un.2.2.2.1 = 0
      · rw [if_neg (by simp [z.1, z.2])]
        by_cases c1 : t.un.1 = 1
        · rw [if_pos c1]
          exact yes ⟨fun h => ⟨by unfold Fd; omega, fun h => by omega⟩, fun h => by have := h.1; unfold Fd at this; omega⟩
        · rw [if_neg c1]
          by_cases c34 : t.un.1 = 3 ∨ t.un.1 = 4
          · have e : (if t.un.1 = 3 then some true else some (decide (t.un.1 = 4)) : Option Bool) = some true := by
              rcases c34 with h | h
              · rw [if_pos h]
              · rw [if_neg (by omega), decide_eq_true h]
            rw [e, Option.bind_some, if_pos rfl, if_neg (by decide)]; exact no (fun h => hz (h.2 (.inr c34)))
          · rw [if_neg (by omega), decide_eq_false (by omega), Option.bind_some, if_neg (by decide)]
            by_cases c5 : t.un.1 = 5
            · rw [if_pos c5]
              exact yes ⟨fun h => ⟨by unfold Fd; omega, fun h => by omega⟩, fun h => by have := h.1; unfold Fd at this; omega⟩
            · rw [if_neg c5]; exact no (fun h => by have := h.1; unfold Fd at this; omega)
      · rw [if_pos (by simp only [Bool.or_eq_true, decide_eq_true_eq]; omega)]
        exact no (fun h => by have := h.1; unfold Fd at this; omega)
open Classical in
theorem M4 : ∀ (n : Nat) (t : Tr28), SizeOf.sizeOf t < n → t.cnt ≤ 1048576 → ∀ b d : Int, -1000 ≤ b → b ≤ 1000 → 0 ≤ d → d ≤ 1000 →
    (MG t b d → AX n b t d = some (true, b - sz t)) ∧ (¬ MG t b d → ∃ b', AX n b t d = some (false, b'))
  | 0, t, h, _ => absurd h (Nat.not_lt_zero _)
  | n + 1, t, h, hc => by
    intro b d b0 b1 d0 d1
    have hl := lP t
    have hq := qP t
    have hse := LC t
    have hde := TG t
    have hst : AX (n + 1) b t d = BX (AX n) b t d := rfl
    rw [hst]
    unfold BX
    by_cases g1 : b < 1
    · rw [if_pos g1, Option.bind_some, if_pos rfl]
      exact ⟨fun hk => by have := hk.2.2; omega, fun _ => ⟨_, rfl⟩⟩
    rw [if_neg g1]
    by_cases g2 : d < 1
    · rw [if_pos g2, Option.bind_some, if_pos rfl]
      exact ⟨fun hk => by have := hk.2.1; omega, fun _ => ⟨_, rfl⟩⟩
    rw [if_neg g2, Gw, GE, RC hc, Option.bind_some, Option.bind_some]
    by_cases g3 : N4 t.un.1 t.un.2.1 t.un.2.2.1 t.un.2.2.2.1 t.un.2.2.2.2.length
    case neg =>
      rw [decide_eq_false g3, if_pos (by decide)]
      exact ⟨fun hk => absurd ((E3 t).1 hk.1).1.1 g3, fun _ => ⟨_, rfl⟩⟩
    case pos =>
      rw [decide_eq_true g3, if_neg (show ¬ (!true) = true by decide), B3 (by omega)]
      by_cases g4 : t.un.1 = 1 ∨ t.un.1 = 5 → LM t.un.2.1 64 8
      case neg =>
        have hk : t.un.1 = 1 ∨ t.un.1 = 5 := Classical.byContradiction fun hn => g4 fun h => absurd h hn
        rw [if_pos (by simpa using hk), MX (by omega), Option.bind_some, decide_eq_false (fun h => g4 fun _ => h), if_pos (by decide)]
        exact ⟨fun h => absurd ((E3 t).1 h.1).1.2 g4, fun _ => ⟨_, rfl⟩⟩
      case pos =>
        have hpz : ∃ P : Nat, P ≤ 64 ∧ sz t = 1 + P + (t.un.2.2.2.2.map sz).sum ∧ (if (decide (t.un.1 = 1) || decide (t.un.1 = 5)) = true then (F2 t.un.2.1).bind fun x4 => (if (!x4) = true then some (.inr (false, b - 1)) else (Jh t.un.2.1).bind fun x5 => some (.inl (CI ((b - 1) - x5)))) else some (.inl (b - 1)) : Option (Int ⊕ (Bool × Int))) = some (.inl (b - 1 - P)) := by
          have hlin := g3.1
          unfold Fd at hlin
          by_cases hk : t.un.1 = 1 ∨ t.un.1 = 5
          · have ho := g4 hk
            have ho3 := ho.2.2
            refine ⟨t.un.2.1.cnt, by omega, by rw [hse, if_pos (by omega)], ?_⟩
            rw [if_pos (by simpa using hk), MX (by omega), Option.bind_some, decide_eq_true ho, if_neg (by decide), QP (by omega), Option.bind_some, B3 (by omega)]
          · refine ⟨0, by omega, by rw [hse, if_neg (by omega)], ?_⟩
            rw [if_neg (by simpa using hk)]; simp
        obtain ⟨P, hP, hsz, e1⟩ := hpz
        rw [e1]
        show (MG t b d → HX (Bo (A5 (AX n) t d) (0, b - 1 - (P : Int))) (fun x6 => some (decide (0 ≤ x6), x6)) = some (true, b - sz t)) ∧ (¬ MG t b d → ∃ b', HX (Bo (A5 (AX n) t d) (0, b - 1 - (P : Int))) (fun x6 => some (decide (0 ≤ x6), x6)) = some (false, b'))
        have key : ∀ (m i : Nat), i + m = t.un.2.2.2.2.length → (∀ x ∈ t.un.2.2.2.2.take i, HV x = true ∧ (dq x : Int) ≤ d - 1) → (i = 0 ∨ (((t.un.2.2.2.2.take i).map sz).sum : Int) ≤ b - 1 - P) →
            (MG t b d → HX (Bo (A5 (AX n) t d) ((i : Int), b - 1 - P - (((t.un.2.2.2.2.take i).map sz).sum : Nat))) (fun x6 => some (decide (0 ≤ x6), x6)) = some (true, b - sz t)) ∧ (¬ MG t b d → ∃ b', HX (Bo (A5 (AX n) t d) ((i : Int), b - 1 - P - (((t.un.2.2.2.2.take i).map sz).sum : Nat))) (fun x6 => some (decide (0 ≤ x6), x6)) = some (false, b')) := by
          intro m
          induction m with
          | zero =>
            intro i hi hx hs
            have e0 : t.un.2.2.2.2.take i = t.un.2.2.2.2 := List.take_of_length_le (by omega)
            rw [e0] at hx hs ⊢
            rw [B5 (e := .inl (b - 1 - P - ((t.un.2.2.2.2.map sz).sum : Nat))) (by rw [A5, if_neg (by omega)])]
            have hd : (dq t : Int) ≤ d := by
              have : mx (t.un.2.2.2.2.map dq) ≤ (d - 1).toNat := Sv fun a ha => by
                obtain ⟨x, hm, rfl⟩ := List.mem_map.1 ha
                have := (hx x hm).2
                omega
              omega
            show (_ → some (decide (0 ≤ b - 1 - (P : Int) - ((t.un.2.2.2.2.map sz).sum : Nat)), b - 1 - (P : Int) - ((t.un.2.2.2.2.map sz).sum : Nat)) = _) ∧ (_ → ∃ b', some (decide (0 ≤ b - 1 - (P : Int) - ((t.un.2.2.2.2.map sz).sum : Nat)), b - 1 - (P : Int) - ((t.un.2.2.2.2.map sz).sum : Nat)) = _)
            by_cases q : 0 ≤ b - 1 - (P : Int) - ((t.un.2.2.2.2.map sz).sum : Nat)
            · rw [decide_eq_true q]
              refine ⟨fun _ => by congr 2; omega, fun hn => absurd ⟨(E3 t).2 ⟨⟨g3, g4⟩, fun x hm => (hx x hm).1⟩, hd, by omega⟩ hn⟩
            · rw [decide_eq_false q]
              exact ⟨fun hk => by have := hk.2.2; omega, fun _ => ⟨_, rfl⟩⟩
          | succ m ih =>
            intro i hi hx hs
            have hil : i < t.un.2.2.2.2.length := by omega
            have hm := List.getElem_mem hil
            have hsum : ((t.un.2.2.2.2.take (i + 1)).map sz).sum = ((t.un.2.2.2.2.take i).map sz).sum + sz t.un.2.2.2.2[i] := by
              rw [List.take_succ_eq_append_getElem hil, List.map_append, List.sum_append]; simp
            have hle := LU (g := sz) t.un.2.2.2.2 (i + 1)
            have h0 : i = 0 → ((t.un.2.2.2.2.take i).map sz).sum = 0 := fun h => by rw [h]; rfl
            obtain ⟨r1, r2⟩ := M4 n t.un.2.2.2.2[i] (by have := Se hm; omega) (Nat.le_trans (cP hm) hc) (b - 1 - P - (((t.un.2.2.2.2.take i).map sz).sum : Nat)) (d - 1) (by omega) (by omega) (by omega) (by omega)
            by_cases g : MG t.un.2.2.2.2[i] (b - 1 - P - (((t.un.2.2.2.2.take i).map sz).sum : Nat)) (d - 1)
            · have hg2 := g.2.2
              have hstep : A5 (AX n) t d ((i : Int), b - 1 - P - (((t.un.2.2.2.2.take i).map sz).sum : Nat)) = some (.inl (((i + 1 : Nat) : Int), b - 1 - P - (((t.un.2.2.2.2.take (i + 1)).map sz).sum : Nat))) := by
                rw [A5, if_pos (by omega), Dx (List.getElem?_eq_getElem hil), Option.bind_some, Gw, GE, B3 (by omega), r1 g, Option.bind_some, if_neg (show ¬ (!true) = true by decide), B3 (by omega), hsum]
                show some (Sum.inl (_, _)) = _
                congr 3; omega
              rw [Dr hstep]
              refine ih (i + 1) (by omega) (fun x hxm => ?_) (by omega)
              rw [List.take_succ_eq_append_getElem hil] at hxm
              rcases List.mem_append.1 hxm with hh | hh
              · exact hx x hh
              · rw [List.mem_singleton.1 hh]; exact ⟨g.1, g.2.1⟩
            · obtain ⟨b', hb'⟩ := r2 g
              have hno : ¬ MG t b d := fun hk => g ⟨((E3 t).1 hk.1).2 _ hm, by
                have h1 := Sg (List.mem_map.2 ⟨_, hm, rfl⟩ : dq t.un.2.2.2.2[i] ∈ t.un.2.2.2.2.map dq)
                have := hk.2.1
                omega, by have := hk.2.2; omega⟩
              refine ⟨fun hk => absurd hk hno, fun _ => ⟨b', ?_⟩⟩
              rw [B5 (e := .inr (false, b')) (by
                rw [A5, if_pos (by omega), Dx (List.getElem?_eq_getElem hil), Option.bind_some, Gw, GE, B3 (by omega), hb', Option.bind_some, if_pos (by rfl)])]
              rfl
        have := key t.un.2.2.2.2.length 0 (by omega) (by simp) (.inl rfl)
        simpa using this
open Classical in
theorem Qy {t : Tr28} (hc : t.cnt ≤ 1048576) : FK t = some (decide (UA t)) := by
  obtain ⟨h1, h2⟩ := M4 (SizeOf.sizeOf t + 1) t (by omega) hc 64 8 (by omega) (by omega) (by omega) (by omega)
  unfold FK
  rw [Gw, GE]
  by_cases g : MG t 64 8
  · rw [show DI 64 t 8 = some (true, (64 - sz t : Int)) from Ca (g := fun n => AX n 64 t 8) (fun n r h => DF n 64 t 8 r h) (h1 g), Option.bind_some, if_pos rfl, Q9 hc, Option.bind_some, Option.bind_some]
    exact congrArg some (decide_eq_decide.2 ⟨fun h => ⟨g, h⟩, fun h => h.2⟩)
  · obtain ⟨b', hb⟩ := h2 g
    rw [show DI 64 t 8 = some (false, b') from Ca (g := fun n => AX n 64 t 8) (fun n r h => DF n 64 t 8 r h) hb, Option.bind_some, if_neg (show ¬ false = true by decide), Option.bind_some, decide_eq_false (fun h => g h.1)]
theorem Nd : ∀ (n : Nat) (t : Tr28), SizeOf.sizeOf t < n → t.cnt ≤ 1048576 → CK n t t = some true
  | 0, t, h, _ => absurd h (Nat.not_lt_zero _)
  | n + 1, t, h, hc => by
    have hl := lP t
    have hq := qP t
    show C7 (CK n) t t = _
    unfold C7 AF
    rw [if_pos rfl, if_pos rfl, if_pos rfl, Gw, Oa (by omega), Option.bind_some, if_pos (@decide_eq_true _ (_) rfl), if_neg (by simp), PZ t.un.2.2.2.2 (by omega) (Av (CK n) t.un.2.2.2.2 t.un.2.2.2.2) (fun _ => False) false (fun k hk => by
      have hm := List.getElem_mem hk
      rw [Av, if_pos (by omega), Dx (List.getElem?_eq_getElem hk), Option.bind_some, Option.bind_some, Gw, GE, Nd n _ (by have := Se hm; omega) (Nat.le_trans (cP hm) hc), Option.bind_some, if_neg (by decide), if_neg id]) (by rw [Av, if_neg (by omega)]), if_neg (by simp)]; rfl
theorem RA {t : Tr28} (hc : t.cnt ≤ 1048576) : Gm t t = some true := Ca (g := fun n => CK n t t) (fun n r h => HU n t t r h) (Nd (SizeOf.sizeOf t + 1) t (by omega) hc)
theorem JS : ∀ (w : List UInt8) (c : Bool) (r : List UInt8), BP c w = w.length → BP c (w ++ 10 :: r) = w.length + 1 + BP false r
  | [], c, r, _ => by
    show BP c (10 :: r) = _
    rw [DW, if_pos (by decide)]; simp
  | b :: w, c, r, h => by
    rw [DW] at h
    rw [List.cons_append, DW]
    simp only [List.length_cons] at h ⊢
    by_cases c1 : b.toNat = 10
    · rw [if_pos c1] at h ⊢
      rw [JS w false r (by omega)]; omega
    rw [if_neg c1] at h ⊢
    by_cases c2 : b.toNat = 35
    · rw [if_pos c2] at h ⊢
      rw [JS w true r (by omega)]; omega
    rw [if_neg c2] at h ⊢
    by_cases c3 : c = false ∧ b.toNat ≠ 32 ∧ b.toNat ≠ 9
    · rw [if_pos c3] at h; omega
    rw [if_neg c3] at h ⊢
    rw [JS w c r (by omega)]; omega
abbrev Dj : List UInt8 := [10, 41, 32, 35, 32, 101, 110, 100]
theorem Rf {s : List UInt8} {a : Nat} {t : C2} {ts : List C2} (h : Run s a (t :: ts)) : a < s.length := by cases h; assumption
theorem SP {s : List UInt8} {a : Nat} (h : Run s a []) : s.length ≤ a := by cases h; assumption
theorem Kf (s : List UInt8) {a : Nat} (h : a ≤ s.length) : ([40] ++ s ++ Dj).drop (a + 1) = s.drop a ++ Dj := by
  show (40 :: (s ++ Dj)).drop (a + 1) = _
  rw [List.drop_succ_cons, List.drop_append_of_le_length h]
theorem Qp {s : List UInt8} (hs : s.length ≤ 1000) {a : Nat} {ts : List C2} (h : Run s a ts) : ts ≠ [] → ∃ ts' cl, bare cl = (3, 0, [41]) ∧ ts'.map bare = ts.map bare ∧ Run ([40] ++ s ++ Dj) (a + 1) (ts' ++ [cl]) := by
  have hlt : ([40] ++ s ++ Dj).length = s.length + 9 := by simp
  induction h with
  | nil ha => intro h; exact absurd rfl h
  | cons h0 h1 hz hle hr ih =>
    rename_i a k n w z ts
    intro _
    have hdl : (s.drop a).length = s.length - a := List.length_drop
    have hf : Cl (([40] ++ s ++ Dj).drop (a + 1)) = some ((k, n, w, 0), (z : Int)) := by
      rw [Kf s (by omega), Km (by decide) (by decide) (by decide) (by omega) (by rw [List.length_append]; simp; omega)]
      exact h1
    have hd2 : ([40] ++ s ++ Dj).drop (a + 1 + z) = s.drop (a + z) ++ Dj := by rw [show a + 1 + z = a + z + 1 by omega, Kf s hle]
    have hsl := JX false (s.drop (a + z))
    have hdl2 : (s.drop (a + z)).length = s.length - (a + z) := List.length_drop
    cases ts with
    | nil =>
      have hge := SP hr
      have hsk : BP false (s.drop (a + z) ++ Dj) = s.length - (a + z) + 1 := by
        rw [show Dj = 10 :: [41, 32, 35, 32, 101, 110, 100] from rfl, JS _ _ _ (by omega), hdl2, show BP false [41, 32, 35, 32, 101, 110, 100] = 0 from by decide]
      have hd3 : ([40] ++ s ++ Dj).drop (s.length + 2) = [41, 32, 35, 32, 101, 110, 100] := by
        show (40 :: (s ++ Dj)).drop (s.length + 2) = _
        rw [show s.length + 2 = (s.length + 1) + 1 from rfl, List.drop_succ_cons, show s.length + 1 = (s ++ [10]).length by simp, show s ++ Dj = (s ++ [10]) ++ [41, 32, 35, 32, 101, 110, 100] by simp, List.drop_left]
      refine ⟨[(k, n, w, ((a + 1 : Nat) : Int))], (3, 0, [41], ((s.length + 2 : Nat) : Int)), rfl, rfl, .cons (by omega) hf hz (by omega) ?_⟩
      rw [hd2, hsk, show a + 1 + z + (s.length - (a + z) + 1) = s.length + 2 by omega]
      refine .cons (z := 1) (by omega) ?_ (by decide) (by omega) (.nil ?_)
      · rw [hd3, DQ (by decide) (by decide), if_neg (by decide), if_neg (by decide), if_neg (by decide)]; rfl
      · rw [show s.length + 2 + 1 = s.length + 2 + 1 from rfl, ← List.drop_drop, hd3, show BP false (List.drop 1 [41, 32, 35, 32, 101, 110, 100]) = 6 from by decide]; omega
    | cons t2 ts2 =>
      have hlt2 := Rf hr
      obtain ⟨ts', cl, e1, e2, e3⟩ := ih (by simp)
      have hsk : BP false (s.drop (a + z) ++ Dj) = BP false (s.drop (a + z)) := by
        have := I8 (s.drop (a + z)) false [] Dj (by rw [List.append_nil]; omega)
        rw [this, List.append_nil]
      refine ⟨(k, n, w, ((a + 1 : Nat) : Int)) :: ts', cl, e1, by simp only [List.map_cons, e2], .cons (by omega) hf hz (by omega) ?_⟩
      rw [hd2, hsk, show a + 1 + z + BP false (s.drop (a + z)) = a + z + BP false (s.drop (a + z)) + 1 by omega]
      exact e3
theorem Qi {s : List UInt8} (hs : s.length ≤ 1000) {ts : List C2} (h : Run s (BP false s) ts) (hne : ts ≠ []) : ∃ o ts' cl, bare o = (3, 0, [40]) ∧ bare cl = (3, 0, [41]) ∧ ts'.map bare = ts.map bare ∧ Run ([40] ++ s ++ Dj) (BP false ([40] ++ s ++ Dj)) (o :: (ts' ++ [cl])) := by
  have hlt : ([40] ++ s ++ Dj).length = s.length + 9 := by simp
  obtain ⟨ts', cl, e1, e2, e3⟩ := Qp hs h hne
  have hk : BP false s < s.length := by
    cases ts with
    | nil => exact absurd rfl hne
    | cons t ts => exact Rf h
  have h0 : BP false ([40] ++ s ++ Dj) = 0 := by
    show BP false (40 :: (s ++ Dj)) = 0
    rw [DW, if_neg (by decide), if_neg (by decide), if_pos (by decide)]
  refine ⟨(3, 0, [40], ((0 : Nat) : Int)), ts', cl, rfl, e1, e2, ?_⟩
  rw [h0]
  refine .cons (z := 1) (by omega) ?_ (by decide) (by omega) ?_
  · have hl : ([40] ++ s ++ Dj) = 40 :: (s ++ Dj) := rfl
    rw [List.drop_zero, DQ (by omega) (by omega)]
    have h1 : Cc Jt ([40] ++ s ++ Dj) = 0 := by rw [hl, DH, if_neg (by decide)]
    have h2 : Cc IA ([40] ++ s ++ Dj) = 0 := by rw [hl, DH, if_neg (by decide)]
    have h3 : ES ([40] ++ s ++ Dj) = 1 := by rw [hl, Fg, if_pos (.inl (by decide))]
    rw [h1, h2, h3, if_neg (by decide), if_neg (by decide), if_neg (by decide)]; rfl
  · have hsk : BP false (s ++ Dj) = BP false s := by
      have := I8 s false [] Dj (by rw [List.append_nil]; omega)
      rw [this, List.append_nil]
    rw [show (0 + 1 : Nat) = 0 + 1 from rfl, Kf s (by omega), List.drop_zero, hsk, show 0 + 1 + BP false s = BP false s + 1 by omega]
    exact e3
theorem Qt {s : List UInt8} (hs : s.length ≤ 4000) {a : Nat} {ts : List C2} (h : Run s a ts) : ∀ out : List C2, out.length ≤ 500 → 500 < out.length + ts.length → ∃ p : Int, Bo (Ci s) (out, (a : Int)) = some (.inr ([], p, 6)) := by
  induction h with
  | nil ha => intro out h1 h2; simp at h2; omega
  | cons h0 h1 hz hle _ ih =>
    rename_i a k n w z ts hrun
    intro out ho hov
    simp only [List.length_cons] at hov
    have hst : Ci s (out, (a : Int)) = if (out.length : Int) = 500 then some (.inr (.inr (([] : List C2), (a : Int), 6))) else (D0 out ([(k, n, w, (a : Int))] : List C2)).bind fun x7 => (Dh s (CI ((a : Int) + (z : Int)))).bind fun x8 => some (.inl (x7, x8)) := by
      rw [Ci, if_pos (by omega), Ig (by omega), Option.bind_some, Int.toNat_natCast, Int.toNat_natCast, List.take_length, h1, Option.bind_some]
      simp only
      rw [if_neg (by omega)]
    by_cases c : out.length = 500
    · rw [if_pos (by omega)] at hst
      exact ⟨_, B5 hst⟩
    · rw [if_neg (by omega), CD (by simp; omega), Option.bind_some, B3 (by omega), show (a : Int) + (z : Int) = ((a + z : Nat) : Int) by omega, Je (by omega) (by omega), Option.bind_some] at hst
      rw [Dr hst]
      exact ih _ (by simp; omega) (by simp; omega)
theorem Qf {s : List UInt8} (hs : s.length ≤ 4000) {ts : List C2} (h : Run s (BP false s) ts) (hl : 500 < ts.length) : ∃ p : Int, EM s = some ([], p, 6) := by
  have hk := Je (s := s) (at_ := 0) (by omega) (by omega)
  have hk' : Dh s 0 = some ((BP false s : Nat) : Int) := by
    have : Dh s ((0 : Nat) : Int) = some ((BP false s : Nat) : Int) := by rw [hk]; simp
    exact this
  obtain ⟨p, hp⟩ := Qt hs h [] (by simp) (by simpa using hl)
  refine ⟨p, ?_⟩
  unfold EM
  rw [if_neg (by omega), hk', Option.bind_some, hp]; rfl
theorem PY {s : List UInt8} (hs : s.length ≤ 4000) : ∃ x a e, B0 s = some (x, a, e) ∧ x.cnt ≤ 100000 ∧ (e = 0 → ∃ ts, ts ≠ [] ∧ Run s (BP false s) ts ∧ ts.length ≤ 500 ∧ Bv (ts ++ [Fh s], ((0 : Nat) : Int)) = some (.inl (x, (ts ++ [Fh s], (ts.length : Int))))) := by
  unfold B0 EJ
  simp only [Gw, GE, Ss, RY, Ad, B8]
  rcases Qe hs with ⟨ts, h1, h2, h3⟩ | ⟨p, e, h1, h2⟩
  · have hl := Nj hs h2 h3
    rw [h1]
    simp only [Option.bind_some]
    rw [if_neg (fun q => q rfl)]
    simp only [Option.bind_some]
    rcases RO hl 0 (by simp) with ⟨x, j, p1, p2, p3, p4, p5⟩ | ⟨k, hk, q, y, p1, p2⟩
    · have p1' : Bv (ts ++ [Fh s], 0) = _ := p1
      simp only [B1, p1', Option.bind_some]
      by_cases c : (ts ++ [Fh s])[j].1 = 4
      · have e2 : BS (ts ++ [Fh s], (j : Int)) = _ := Q1 p4 c
        rw [e2]
        have hj : j = ts.length := by
          rw [List.length_append, List.length_singleton] at p4
          rcases Nat.lt_or_ge j ts.length with g | g
          · exfalso
            rw [List.getElem_append_left g] at c
            have := ((NT hs h2).1 _ (List.getElem_mem g)).kind
            omega
          · omega
        refine ⟨x, 0, 0, rfl, by have := hl.len; omega, fun _ => ⟨ts, fun h => by rw [h] at hj; simp at hj; omega, h2, h3, ?_⟩⟩
        rw [← hj]; exact p1
      · have e2 : BS (ts ++ [Fh s], (j : Int)) = _ := TE p4 c
        rw [e2]
        exact ⟨Mn, _, _, rfl, LK, fun h => by cases h⟩
    · have p1' : Bv (ts ++ [Fh s], 0) = _ := p1
      simp only [B1, p1', Option.bind_some]
      exact ⟨Mn, _, _, rfl, LK, fun h => by cases h⟩
  · rw [h1]
    simp only [Option.bind_some]
    rw [if_pos h2]
    exact ⟨Mn, p, e, rfl, LK, fun h => absurd h h2⟩
theorem M5 {A : Type} {l : List C2} {sep : List UInt8} {pf : Ps → Option ((A × Ps) ⊕ Pn)} {node : List A → A}
    {S : (List A × List C2 × Int) → Option ((List A × List C2 × Int) ⊕ ((List A × List C2 × Int) ⊕ ((A × Ps) ⊕ Pn)))}
    (hS : ∀ xs (j : Nat), S (xs, l, (j : Int)) = (As (l, (j : Int)) sep).bind fun x10 => if x10.1 = true then (pf x10.2).bind fun x11 => B1 x11 (fun x12 => (D0 xs [x12.1]).bind fun x14 => some (.inl (x14, x12.2.1, x12.2.2))) (fun x13 => some (.inr (.inr (.inr (x13.1, x13.2))))) else some (.inr (.inl (xs, x10.2.1, x10.2.2))))
    {i j : Nat} {P : Option ((A × Ps) ⊕ Pn)}
    (hP : P = (pf (l, (i : Int))).bind fun x1 => B1 x1 (fun x2 => HX (Bo S ([x2.1], x2.2.1, x2.2.2)) fun z => if (z.1.length : Int) = 1 then (ix z.1 0).bind fun x15 => some (.inl (x15, (z.2.1, z.2.2))) else some (.inl (node z.1, (z.2.1, z.2.2)))) (fun x3 => some (.inr (x3.1, x3.2))))
    {x : A} (h : pf (l, (i : Int)) = some (.inl (x, (l, (j : Int))))) (hj : j < l.length) (hN : F3 l[j] sep = false) : P = some (.inl (x, (l, (j : Int)))) := by
  have hS1 := hS [x] j
  rw [Dg hj (fun q => absurd (q.symm.trans hN) (by decide)), Option.bind_some, if_neg (show ¬ ((false, (l, (j : Int))) : Bool × Ps).1 = true from Bool.false_ne_true)] at hS1
  rw [hP, h, Option.bind_some]
  show HX (Bo S ([x], l, (j : Int))) _ = _
  rw [B5 hS1]; rfl
theorem SU {l : List C2} (hl : Tks l) {n : Nat} (hlen : l.length = n + 3) {x : Tr28} (h0 : bare (l[0]'(by omega)) = (3, 0, [40])) (h1 : bare (l[n + 1]'(by omega)) = (3, 0, [41])) (h2 : (l[n + 2]'(by omega)).1 = 4) (hp : Bv (l, ((1 : Nat) : Int)) = some (.inl (x, (l, ((n + 1 : Nat) : Int))))) : Bv (l, ((0 : Nat) : Int)) = some (.inl (x, (l, ((n + 2 : Nat) : Int)))) := by
  obtain ⟨m, hm⟩ := Cy hp
  have a0 : Sp l 0 [sg [40]] := ⟨⟨by omega, h0⟩, trivial⟩
  have a1 : Sp l (n + 1) [sg [41]] := ⟨⟨by omega, h1⟩, trivial⟩
  have hend : ∀ s, F3 (l[n + 2]'(by omega)) s = false := fun s => by unfold F3; exact decide_eq_false (fun h => by omega)
  have hstep : Bu (An m) (l, ((0 : Nat) : Int)) = some (.inl (x, (l, ((n + 2 : Nat) : Int)))) := by
    refine Ca (g := fun k => AB (An m) k (l, ((0 : Nat) : Int))) (n := 1) (fun n r h => BO (fun _ => Le.rfl' _) n _ r h) ?_
    show A0 (An m) (AB (An m) 0) (l, ((0 : Nat) : Int)) = _
    unfold A0
    simp only [Gw, GE, Aj]
    rw [DP a0 (by decide)]
    simp only [Option.bind_some, Bool.false_eq_true, if_false]
    rw [DP a0 (by decide)]
    simp only [Option.bind_some, Bool.false_eq_true, if_false]
    rw [DP a0 (by decide)]
    simp only [Option.bind_some, Bool.false_eq_true, if_false]
    rw [DP a0 (by decide)]
    simp only [Option.bind_some, Bool.false_eq_true, if_false]
    rw [IQ hl a0 (by decide)]
    simp only [Option.bind_some, if_true]
    rw [show An m (l, ((0 + 1 : Nat) : Int)) = _ from hm]
    show (Ao (l, ((n + 1 : Nat) : Int)) [41]).bind _ = _
    rw [Mq hl a1 (by decide)]; rfl
  have hseq : AJ (An m) (l, ((0 : Nat) : Int)) = some (.inl (x, (l, ((n + 2 : Nat) : Int)))) := by
    unfold AJ
    simp only [Gw, GE]
    rw [M5 (sep := [59]) (pf := Bu (An m)) (node := fun xs => Tr28.of (3, ZP, 0, 0, xs)) (S := AK (An m) [59]) (fun xs k => by rw [AK]; simp only [Gw, GE]) (P := A1 (An m) (l, ((0 : Nat) : Int)) [59]) (by unfold A1; simp only [Gw, GE] <;> rfl) hstep (by omega) (hend _)]
    rfl
  refine Ca (g := fun k => An k (l, ((0 : Nat) : Int))) (n := m + 1) (fun n r h => Cg n _ r h) ?_
  show AZ (An m) (l, ((0 : Nat) : Int)) = _
  unfold AZ
  simp only [Gw, GE]
  rw [M5 (sep := [124]) (pf := AJ (An m)) (node := fun xs => Tr28.of (4, ZP, 0, 0, xs)) (S := AH (An m) [124]) (fun xs k => by rw [AH]; simp only [Gw, GE]) (P := AW (An m) (l, ((0 : Nat) : Int)) [124]) (by unfold AW; simp only [Gw, GE] <;> rfl) hseq (by omega) (hend _)]
  rfl
theorem RE {ts ts' : List C2} (h : ts'.map bare = ts.map bare) {i : Nat} (h1 : i < ts.length) (h2 : i < ts'.length) : bare ts'[i] = bare ts[i] := by
  have := congrArg (fun l => l[i]?) h
  simp only [List.getElem?_map, List.getElem?_eq_getElem h1, List.getElem?_eq_getElem h2, Option.map_some] at this
  exact Option.some.inj this
theorem OL {s : List UInt8} (hs : s.length ≤ 1000) {x : Tr28} {ts : List C2} (hne : ts ≠ []) (hr : Run s (BP false s) ts) (h5 : ts.length ≤ 500) (hp : Bv (ts ++ [Fh s], ((0 : Nat) : Int)) = some (.inl (x, (ts ++ [Fh s], (ts.length : Int))))) : (∃ y p, B0 ([40] ++ s ++ Dj) = some (y, p, 6)) ∨ B0 ([40] ++ s ++ Dj) = some (x, 0, 0) := by
  have hlt : ([40] ++ s ++ Dj).length = s.length + 9 := by simp
  obtain ⟨o, ts', cl, b1, b2, b3, b4⟩ := Qi hs hr hne
  have hl' : ts'.length = ts.length := by have := congrArg List.length b3; simpa using this
  have hts : (o :: (ts' ++ [cl])).length = ts.length + 2 := by simp; omega
  generalize ht : [40] ++ s ++ Dj = t at *
  unfold B0 EJ
  simp only [Gw, GE, Ss, RY, Ad, B8]
  by_cases c : ts.length + 2 ≤ 500
  · right
    have hl := Nj (by omega) hr h5
    have hL := Nj (s := t) (by omega) b4 (by omega)
    have hsh : Sh (ts ++ [Fh s]) (o :: (ts' ++ [cl]) ++ [Fh t]) ts.length := by
      refine ⟨hl, hL, by simp, by simp; omega, fun i hi => ⟨by simp; omega, by simp; omega, ?_⟩, ⟨by simp, ?_⟩, ⟨by simp; omega, ?_⟩⟩
      · have e1 : (o :: (ts' ++ [cl]) ++ [Fh t])[i + 1]'(by simp; omega) = ts'[i]'(by omega) := by
          simp only [List.cons_append, List.getElem_cons_succ, List.append_assoc]
          rw [List.getElem_append_left (by omega)]
        rw [e1, List.getElem_append_left hi]
        exact RE b3 hi (by omega)
      · rw [List.getElem_append_right (Nat.le_refl _)]; simp
      · have e1 : (o :: (ts' ++ [cl]) ++ [Fh t])[ts.length + 1]'(by simp; omega) = cl := by
          simp only [List.cons_append, List.getElem_cons_succ, List.append_assoc]
          rw [List.getElem_append_right (by omega)]
          simp [hl']
        rw [e1]; exact b2
    obtain ⟨j, g1, g2, g3, g4⟩ := SJ hsh 0 (by omega) x _ hp
    have hj : j = ts.length := by
      have := congrArg Prod.snd g3
      simp only at this; omega
    rw [hj] at g4
    have hpol := SU hL (n := ts.length) (by simp; omega) (by simpa using b1) hsh.cl.2 (by
      have e1 : (o :: (ts' ++ [cl]) ++ [Fh t])[ts.length + 2]'(by simp; omega) = Fh t := by
        simp only [List.cons_append, List.getElem_cons_succ, List.append_assoc]
        rw [List.getElem_append_right (by omega)]
        simp [hl']
      rw [e1]) g4
    rw [lex_run' (by omega) b4 (by omega)]
    simp only [Option.bind_some]
    rw [if_neg (fun q => q rfl)]
    have hpol' : Bv (o :: (ts' ++ [cl]) ++ [Fh t], 0) = _ := hpol
    have e2 : BS (o :: (ts' ++ [cl]) ++ [Fh t], ((ts.length + 2 : Nat) : Int)) = _ := Q1 (i := ts.length + 2) (by simp; omega) (by
      have e1 : (o :: (ts' ++ [cl]) ++ [Fh t])[ts.length + 2]'(by simp; omega) = Fh t := by
        simp only [List.cons_append, List.getElem_cons_succ, List.append_assoc]
        rw [List.getElem_append_right (by omega)]
        simp [hl']
      rw [e1])
    simp only [B1, Option.bind_some, hpol', e2]
  · left
    obtain ⟨p, hp6⟩ := Qf (by omega) b4 (by omega)
    rw [hp6]
    exact ⟨_, p, rfl⟩
theorem KX (s : List UInt8) : EC s = some true := by
  unfold EC
  simp only [Gw, GE]
  by_cases c : 1000 < (s.length : Int)
  · rw [if_pos c, Lp]; rfl
  rw [if_neg c]
  obtain ⟨x, a, e, p1, p2, p3⟩ := PY (s := s) (by omega)
  rw [p1, Option.bind_some]
  dsimp only
  by_cases he : e = 0
  case neg => rw [if_pos he, Lp]; rfl
  case pos =>
    obtain ⟨ts, h1, h2, h3, h4⟩ := p3 he
    have hgo : ∃ b : Bool, ((D0 [40] s).bind fun x4 => (D0 x4 [10, 41, 32, 35, 32, 101, 110, 100]).bind fun x5 => B0 x5) = B0 ([40] ++ s ++ Dj) := ⟨true, by
      rw [CD (by simp; omega), Option.bind_some, CD (by simp; omega), Option.bind_some]⟩
    rw [if_neg (fun h => h he), CD (by simp; omega), Option.bind_some, CD (by simp; omega), Option.bind_some]
    have hsame := RA (t := x) (by omega)
    have hfirst : ∃ y p e2, B0 ([40] ++ s ++ Dj) = some (y, p, e2) ∧ (if e2 ≠ 6 then (if e2 ≠ 0 then some true else (Gm x y).bind fun x8 => some (!x8)) else some false) = some false := by
      rcases OL (s := s) (by omega) h1 h2 h3 h4 with ⟨y, p, h⟩ | h
      · exact ⟨y, p, 6, h, by rw [if_neg (fun q => q rfl)]⟩
      · exact ⟨x, 0, 0, h, by rw [if_pos (by decide), if_neg (fun q => q rfl), hsame]; rfl⟩
    obtain ⟨y, p, e2, f1, f2⟩ := hfirst
    rw [show B0 ([40] ++ s ++ [10, 41, 32, 35, 32, 101, 110, 100]) = _ from f1, Option.bind_some]
    dsimp only
    rw [f2, Option.bind_some, if_neg (by decide), Qy (by omega), Option.bind_some]
    by_cases g : UA x
    · have hq := qx_len' g.1.1
      have := g.1.2.2
      rw [@decide_eq_true _ (_) g, if_neg (by decide), QO (by omega) g.1.1, Option.bind_some, decide_eq_false (by omega), Option.bind_some, if_neg (by decide), Option.bind_some, OS g.1.1 (by omega), Option.bind_some]
      dsimp only
      rw [if_pos rfl, hsame, Option.bind_some, if_pos rfl, Lp]; rfl
    · rw [@decide_eq_false _ (_) g, if_pos (by decide), Option.bind_some, if_pos rfl, Lp]; rfl
theorem KV (p0 : List UInt8) {A : Prop} (_ : A) : EC p0 = some true := KX p0
end Go.Proofs.YtlgjpoapclifbaaDoor
