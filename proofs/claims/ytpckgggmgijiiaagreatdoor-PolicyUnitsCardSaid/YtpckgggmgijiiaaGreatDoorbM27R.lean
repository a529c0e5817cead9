/- Layer 27: what comes of a packet. Conditions: none. -/
import Derived.Test.YtpckgggmgijiiaaGreatDoorbM27B
import Derived.Test.YtpckgggmgijiiaaGreatDoorbMW
namespace Go.Proofs.YtpckgggmgijiiaaGreatDoor
set_option linter.unusedVariables false
set_option linter.unusedSimpArgs false
open Go Go.RowKit
def OC {α σ : Type} (F : α → σ → Option σ) : List α → σ → Option σ
  | [], c => some c
  | x :: l, c => (F x c).bind fun c' => OC F l c'
theorem On {α σ : Type} (l : List α) (hl : l.length ≤ 1048576) (F : α → σ → Option σ) (step : σ × Int → Option ((σ × Int) ⊕ σ))
    (hs : ∀ (i : Nat) (x : α) (c : σ), l[i]? = some x → step (c, (i : Int)) = (F x c).bind fun c' => some (.inl (c', AO ((i : Int) + 1)))) (he : ∀ c, step (c, (l.length : Int)) = some (.inr c)) :
    ∀ (d k : Nat) (c r : σ), k + d = l.length → OC F (l.drop k) c = some r → AW step (c, (k : Int)) = some r
  | 0, k, c, r, hk, h => by
    have hk : k = l.length := by omega
    subst hk
    rw [List.drop_length] at h
    cases h
    exact A9 (he c)
  | d + 1, k, c, r, hk, h => by
    have hlt : k < l.length := by omega
    rw [List.drop_eq_getElem_cons hlt] at h
    obtain ⟨c', h1, h2⟩ := Ad (show (F l[k] c).bind (fun c' => OC F (l.drop (k + 1)) c') = some r from h)
    rw [BV (s' := (c', ((k + 1 : Nat) : Int))) (by rw [hs k l[k] c (List.getElem?_eq_getElem hlt), h1, Option.bind_some, AF ⟨by omega, by omega⟩]; rfl)]
    exact On l hl F step hs he d (k + 1) c' r (by omega) h2
abbrev Rf := Tr37 → Int → Se → Option (List Se)
section
variable (f : Rf) {t : Tr37} (sw : Int) {s : Se} {r : List Se}
theorem Xh (hk : t.un.1 = 1) (hc : SmC t.un.2.1) (s : Se) : Be f t sw s = some (if P9 (sw, s.1, s.2) t.un.2.1 = true then [s] else []) := by
  unfold Be
  rw [if_pos hk, Q7, UY hc, Option.bind_some]
  by_cases h : P9 (sw, s.1, s.2) t.un.2.1 = true
  · rw [if_pos h, if_pos h]; rfl
  · rw [if_neg h, if_neg h]; rfl
theorem Yc (hk : t.un.1 = 2) {s' : Se} (ha : Cd s t.un.2.2.1 t.un.2.2.2.1 = some s') : Be f t sw s = some [s'] := by
  unfold Be
  rw [if_neg (by omega), if_pos hk, ha, Option.bind_some]; rfl
theorem V4 (x : Tr37) : Cs f sw x = f x sw := by
  funext k
  unfold Cs
  rw [Q7, SS]
  cases f x sw k <;> rfl
theorem Yk (hk : t.un.1 = 3) (hl : t.un.2.2.2.2.length ≤ 1048576) (h : OC (fun x c => GC Bi (f x sw) c []) t.un.2.2.2.2 [s] = some r) : Be f t sw s = some r := by
  have e : CK f t.un.2.2.2.2 sw s = some r := by
    unfold CK
    rw [show AW (BM f t.un.2.2.2.2 sw) (FN Bi [] s, 0) = some r from On t.un.2.2.2.2 hl (fun x c => GC Bi (f x sw) c []) _ (fun i x c hx => by
        have hi : i < t.un.2.2.2.2.length := by
          rcases Nat.lt_or_ge i t.un.2.2.2.2.length with h | h
          · exact h
          · rw [List.getElem?_eq_none h] at hx; cases hx
        rw [BM, if_pos (by omega), Dv hx, Option.bind_some, V4]) (fun c => by rw [BM, if_neg (by omega)]) t.un.2.2.2.2.length 0 [s] r (by omega) h, Option.bind_some]
  unfold Be
  rw [if_neg (by omega), if_neg (by omega), if_pos hk, e, Option.bind_some]; rfl
theorem X2 (hk : t.un.1 = 4) (hl : t.un.2.2.2.2.length ≤ 1048576) (h : OC (fun x c => (f x sw s).bind fun r => some (Jg Bi c r)) t.un.2.2.2.2 [] = some r) : Be f t sw s = some r := by
  unfold Be
  rw [if_neg (by omega), if_neg (by omega), if_neg (by omega), if_pos hk, show AW (Ce f t sw s) ([], 0) = some r from On t.un.2.2.2.2 hl (fun x c => (f x sw s).bind fun r => some (Jg Bi c r)) _ (fun i x c hx => by
        have hi : i < t.un.2.2.2.2.length := by
          rcases Nat.lt_or_ge i t.un.2.2.2.2.length with h | h
          · exact h
          · rw [List.getElem?_eq_none h] at hx; cases hx
        rw [Ce, if_pos (by omega), Dv hx, Option.bind_some, Q7, SS]
        cases f x sw s <;> rfl) (fun c => by rw [Ce, if_neg (by omega)]) t.un.2.2.2.2.length 0 [] r (by omega) h, Option.bind_some]; rfl
theorem YJ (hk : t.un.1 = 5) (hc : SmC t.un.2.1) {x : Tr37} (hlen : t.un.2.2.2.2.length = 2) (hx : t.un.2.2.2.2[if P9 (sw, s.1, s.2) t.un.2.1 = true then 0 else 1]? = some x) (hr : f x sw s = some r) : Be f t sw s = some r := by
  have e : EC t sw s = some x := by
    unfold EC
    rw [Q7, UY hc, Option.bind_some]
    by_cases h : P9 (sw, s.1, s.2) t.un.2.1 = true
    · rw [if_pos h] at hx
      rw [if_pos h, Option.bind_some, if_neg (by omega), show ix t.un.2.2.2.2 0 = some x from Dv (k := 0) hx, Option.bind_some, Q7, SS]
    · rw [if_neg h] at hx
      rw [if_neg h, Option.bind_some, if_neg (by omega), show ix t.un.2.2.2.2 1 = some x from Dv (k := 1) hx, Option.bind_some, Q7, SS]
  unfold Be
  rw [if_neg (by omega), if_neg (by omega), if_neg (by omega), if_neg (by omega), if_pos hk, Q7, SS, e, Option.bind_some, Q7, SS, hr, Option.bind_some]; rfl
end
theorem To (l : List Se) (x : Se) : (FN Bi l x).length ≤ l.length + 1 := by
  induction l with
  | nil => simp [FN]
  | cons y l ih =>
    unfold FN
    split
    · simp
    · split
      · simp only [List.length_cons]; omega
      · simp
theorem PI : ∀ (b a : List Se), (Jg Bi a b).length ≤ a.length + b.length
  | [], a => by simp [Jg]
  | x :: b, a => by
    have h1 := PI b (FN Bi a x)
    have h2 := To a x
    show (Jg Bi (FN Bi a x) b).length ≤ _
    simp only [List.length_cons]
    omega
theorem Qb {g : Se → Option (List Se)} {m : Nat} : ∀ {l a b : List Se}, (∀ x ∈ l, ∀ r, g x = some r → r.length ≤ m) → GC Bi g l a = some b → b.length ≤ a.length + l.length * m
  | [], a, b, _, h => by cases h; simp
  | x :: l, a, b, hm, h => by
    obtain ⟨r, h1, h2⟩ := Ad (show (g x).bind (fun r => GC Bi g l (Jg Bi a r)) = some b from h)
    have h3 := Qb (fun y hy => hm y (List.mem_cons_of_mem _ hy)) h2
    have h4 := hm x (List.mem_cons_self ..) r h1
    have h5 := PI r a
    rw [List.length_cons, Nat.succ_mul]
    omega
abbrev Bd (S : List Se) (w : Int) : Prop := min (S.length : Int) 1000 ≤ w
theorem VA {a m b : Nat} {n w : Int} (hb : b ≤ a * m) (hn : min (a : Int) 1000 ≤ n) (hw : (m : Int) ≤ w ∧ m < 1000) : min (b : Int) 1000 ≤ min (n * w) 1000 := by
  have h1 : (b : Int) ≤ (a : Int) * (m : Int) := by exact_mod_cast hb
  rcases Nat.lt_or_ge 1000 a with ha | ha
  · rcases Nat.eq_zero_or_pos m with hm | hm
    · subst hm
      have : b = 0 := by omega
      subst this
      have : (0 : Int) ≤ n * w := Int.mul_nonneg (by omega) (by omega)
      omega
    · have h2 : (1000 : Int) * 1 ≤ n * w := Int.mul_le_mul (by omega) (by omega) (by omega) (by omega)
      omega
  · have h2 : (a : Int) * (m : Int) ≤ n * w := Int.mul_le_mul (by omega) hw.1 (by omega) (by omega)
    omega
section
variable {G : Tr37 → Se → Option (List Se)}
theorem U0 {s : Se} : ∀ (l : List Tr37) (c : List Se) (n : Int), (∀ x ∈ l, ∃ S, G x s = some S ∧ Ih Bi S ∧ Bd S (wd x)) → Ih Bi c → Bd c n →
    ∃ r, OC (fun x c => (G x s).bind fun r => some (Jg Bi c r)) l c = some r ∧ Ih Bi r ∧ Bd r ((l.map wd).foldl (wf 4) n)
  | [], c, n, _, hc, hb => ⟨c, rfl, hc, hb⟩
  | x :: l, c, n, h, hc, hb => by
    obtain ⟨S, h1, h2, h3⟩ := h x (List.mem_cons_self ..)
    obtain ⟨r, g1, g2, g3⟩ := U0 l (Jg Bi c S) (wf 4 n (wd x)) (fun y hy => h y (List.mem_cons_of_mem _ hy)) (Kk H2 hc) (by
      have := PI S c
      show min _ _ ≤ wf 4 n (wd x)
      unfold wf
      rw [if_neg (by decide), if_pos rfl]
      unfold Bd at hb h3
      omega)
    exact ⟨r, by show ((G x s).bind fun r => some (Jg Bi c r)).bind _ = _; rw [h1]; exact g1, g2, g3⟩
theorem UK : ∀ (l : List Tr37) (c : List Se) (n : Int), (∀ x ∈ l, ∀ s, ∃ S, G x s = some S ∧ Ih Bi S ∧ Bd S (wd x)) → Ih Bi c → Bd c n →
    ∃ r, OC (fun x c => GC Bi (G x) c []) l c = some r ∧ Ih Bi r ∧ Bd r ((l.map wd).foldl (wf 3) n)
  | [], c, n, _, hc, hb => ⟨c, rfl, hc, hb⟩
  | x :: l, c, n, h, hc, hb => by
    have hx := h x (List.mem_cons_self ..)
    obtain ⟨b, hb1⟩ := Nd (lt := Bi) (f := G x) (l := c) (a := []) H2 fun s _ => (hx s).imp fun S h => h.1
    have hA := (Hy H2 (List.Pairwise.nil) hb1).1
    have hw := XL x
    have hbd : Bd b (wf 3 n (wd x)) := by
      unfold wf
      rw [if_pos rfl]
      unfold Bd at hb
      by_cases h0 : c = []
      · subst h0
        cases hb1
        have : (0 : Int) ≤ n * wd x := Int.mul_nonneg (by simp at hb; omega) hw.1
        simp only [Bd, List.length_nil]; omega
      · have hc1 : 1 ≤ c.length := by
          cases c with
          | nil => exact absurd rfl h0
          | cons y c => simp
        by_cases h1 : wd x < 1000
        · have h2 := Qb (m := (wd x).toNat) (fun s _ r hr => by
            obtain ⟨S, e1, _, e3⟩ := hx s
            rw [hr] at e1; cases e1
            unfold Bd at e3; omega) hb1
          exact VA (by simpa using h2) hb ⟨by omega, by omega⟩
        · have h2 : (1 : Int) * 1000 ≤ n * wd x := Int.mul_le_mul (by omega) (by omega) (by omega) (by omega)
          show min _ _ ≤ min _ _
          omega
    obtain ⟨r, g1, g2, g3⟩ := UK l b (wf 3 n (wd x)) (fun y hy => h y (List.mem_cons_of_mem _ hy)) hA hbd
    exact ⟨r, by show (GC Bi (G x) c []).bind _ = _; rw [hb1]; exact g1, g2, g3⟩
end
theorem UU {x : Int} : ∀ (l : List Int) (n : Int), (x ∈ l ∨ x ≤ n) → x ≤ l.foldl (wf 5) n
  | [], n, h => h.resolve_left (by simp)
  | y :: l, n, h => by
    refine UU l _ ?_
    have : wf 5 n y = max n y := by unfold wf; rw [if_neg (by decide), if_neg (by decide)]
    rw [this]
    rcases h with h | h
    · rcases List.mem_cons.1 h with rfl | h
      · right; omega
      · exact .inl h
    · right; omega
theorem Ue (p : PK) (f v : Int) : ∃ q, C9 p f v = some q := by
  unfold C9
  by_cases h : CD f = true
  · have hf : f = 0 ∨ f = 1 ∨ f = 2 ∨ f = 3 := by
      unfold CD at h
      simp at h
      omega
    have ht : ∃ b, DF f v = some b := by
      unfold DF D5 Gw
      by_cases hv : 0 ≤ v
      · rw [if_pos hv]
        rcases hf with rfl | rfl | rfl | rfl <;> exact ⟨_, rfl⟩
      · rw [if_neg hv]; exact ⟨_, rfl⟩
    obtain ⟨b, hb⟩ := ht
    rw [if_pos h, hb]
    cases b with
    | false => exact ⟨_, rfl⟩
    | true => rcases hf with rfl | rfl | rfl | rfl <;> exact ⟨_, rfl⟩
  · rw [if_neg h]; exact ⟨_, rfl⟩
theorem Qc (s : Se) (f v : Int) : ∃ q, Cd s f v = some q := by
  obtain ⟨q, hq⟩ := Ue s.2 f v
  unfold Cd
  rw [hq]
  by_cases h : f = 4
  · rw [if_pos h]; exact ⟨_, rfl⟩
  · rw [if_neg h]; exact ⟨_, rfl⟩
theorem UZ : ∀ (n : Nat) (t : Tr37), SizeOf.sizeOf t < n → Fi t → ∀ (sw : Int) (s : Se), ∃ S, Az n t sw s = some S ∧ Ih Bi S ∧ Bd S (wd t)
  | 0, t, h, _, _, _ => absurd h (Nat.not_lt_zero _)
  | n + 1, t, h, hf, sw, s => by
    have hl := hf.len
    have ih : ∀ x ∈ t.un.2.2.2.2, ∀ s, ∃ S, Az n x sw s = some S ∧ Ih Bi S ∧ Bd S (wd x) := fun x hx s => UZ n x (by have := WM hx; omega) (hf.ch hx) sw s
    have hk := hf.kind
    have hwd := S7 t
    show ∃ S, Be (Az n) t sw s = some S ∧ _
    have hk5 : t.un.1 = 1 ∨ t.un.1 = 2 ∨ t.un.1 = 3 ∨ t.un.1 = 4 ∨ t.un.1 = 5 := by omega
    rcases hk5 with k | k | k | k | k
    · rw [if_neg (by omega)] at hwd
      refine ⟨_, Xh _ sw k hf.q s, ?_⟩
      split
      · exact ⟨by simp [Ih], by rw [hwd]; show min ((1 : Nat) : Int) 1000 ≤ 1; decide⟩
      · exact ⟨by simp [Ih], by rw [hwd]; show min ((0 : Nat) : Int) 1000 ≤ 1; decide⟩
    · rw [if_neg (by omega)] at hwd
      obtain ⟨q, hq2⟩ := Qc s t.un.2.2.1 t.un.2.2.2.1
      exact ⟨[q], Yc _ sw k hq2, by simp [Ih], by rw [hwd]; show min ((1 : Nat) : Int) 1000 ≤ 1; decide⟩
    · rw [if_pos (by omega), k] at hwd
      obtain ⟨r, g1, g2, g3⟩ := UK (G := fun x s => Az n x sw s) t.un.2.2.2.2 [s] 1 ih (by simp [Ih]) (by show min ((1 : Nat) : Int) 1000 ≤ 1; decide)
      exact ⟨r, Yk _ sw k (by omega) g1, g2, by rw [hwd]; exact g3⟩
    · rw [if_pos (by omega), k] at hwd
      obtain ⟨r, g1, g2, g3⟩ := U0 (G := fun x s => Az n x sw s) (s := s) t.un.2.2.2.2 [] 0 (fun x hx => ih x hx s) (by simp [Ih]) (by show min ((0 : Nat) : Int) 1000 ≤ 0; decide)
      exact ⟨r, X2 _ sw k (by omega) g1, g2, by rw [hwd]; exact g3⟩
    · rw [if_pos (by omega), k] at hwd
      have hlen : t.un.2.2.2.2.length = 2 := hf.two k
      have hi : (if P9 (sw, s.1, s.2) t.un.2.1 = true then 0 else 1) < t.un.2.2.2.2.length := by split <;> omega
      obtain ⟨S, g1, g2, g3⟩ := ih _ (List.getElem_mem hi) s
      refine ⟨S, YJ _ sw k hf.q hlen (List.getElem?_eq_getElem hi) g1, g2, ?_⟩
      have := UU (x := wd t.un.2.2.2.2[if P9 (sw, s.1, s.2) t.un.2.1 = true then 0 else 1]) (t.un.2.2.2.2.map wd) (w0 5) (.inl (List.mem_map.2 ⟨_, List.getElem_mem hi, rfl⟩))
      rw [hwd]
      exact Int.le_trans g3 this
theorem JB {n : Nat} {t : Tr37} {sw : Int} {s : Se} {S : List Se} (h : Az n t sw s = some S) : Eb t sw s = some S := Dd (g := fun n => Az n t sw s) (fun n r h => F1 n t sw s r h) h
end Go.Proofs.YtpckgggmgijiiaaGreatDoor
