/- Layer 27: what comes of a packet. Conditions: none. -/
import Derived.Test.YtpckgggmgijiiaaGreatDoorcM27B
import Derived.Test.YtpckgggmgijiiaaGreatDoorcMW
import Derived.Test.YtpckgggmgijiiaaGreatDoorcU7
namespace Go.Proofs.YtpckgggmgijiiaaGreatDoor
set_option linter.unusedVariables false
set_option linter.unusedSimpArgs false
open Go Go.RowKit
def O0 {α σ : Type} (F : α → σ → Option σ) : List α → σ → Option σ
  | [], c => some c
  | x :: l, c => (F x c).bind fun c' => O0 F l c'
theorem Og {α σ : Type} (l : List α) (hl : l.length ≤ 1048576) (F : α → σ → Option σ) (step : σ × Int → Option ((σ × Int) ⊕ σ))
    (hs : ∀ (i : Nat) (x : α) (c : σ), l[i]? = some x → step (c, (i : Int)) = (F x c).bind fun c' => some (.inl (c', AU ((i : Int) + 1)))) (he : ∀ c, step (c, (l.length : Int)) = some (.inr c)) :
    ∀ (d k : Nat) (c r : σ), k + d = l.length → O0 F (l.drop k) c = some r → Ba step (c, (k : Int)) = some r
  | 0, k, c, r, hk, h => by
    have hk : k = l.length := by omega
    subst hk
    rw [List.drop_length] at h
    cases h
    exact Bg (he c)
  | d + 1, k, c, r, hk, h => by
    have hlt : k < l.length := by omega
    rw [List.drop_eq_getElem_cons hlt] at h
    obtain ⟨c', h1, h2⟩ := Ag (show (F l[k] c).bind (fun c' => O0 F (l.drop (k + 1)) c') = some r from h)
    rw [Ce (s' := (c', ((k + 1 : Nat) : Int))) (by rw [hs k l[k] c (List.getElem?_eq_getElem hlt), h1, Option.bind_some, AK ⟨by omega, by omega⟩]; rfl)]
    exact Og l hl F step hs he d (k + 1) c' r (by omega) h2
abbrev Rf := Tr37 → Int → Se → Option (List Se)
section
variable (f : Rf) {t : Tr37} (sw : Int) {s : Se} {r : List Se}
theorem XM (hk : t.un.1 = 1) (hc : SmC t.un.2.1) (s : Se) : Bq f t sw s = some (if Ns (sw, s.1, s.2) t.un.2.1 = true then [s] else []) := by
  unfold Bq
  rw [if_pos hk, So, Vy hc, Option.bind_some]
  by_cases h : Ns (sw, s.1, s.2) t.un.2.1 = true
  · rw [if_pos h, if_pos h]; rfl
  · rw [if_neg h, if_neg h]; rfl
theorem Y4 (hk : t.un.1 = 2) {s' : Se} (ha : Dz s t.un.2.2.1 t.un.2.2.2.1 = some s') : Bq f t sw s = some [s'] := by
  unfold Bq
  rw [if_neg (by omega), if_pos hk, ha, Option.bind_some]; rfl
theorem Ww (x : Tr37) : CB f sw x = f x sw := by
  funext k
  unfold CB
  rw [So, T0]
  cases f x sw k <;> rfl
theorem Ya (hk : t.un.1 = 3) (hl : t.un.2.2.2.2.length ≤ 1048576) (h : O0 (fun x c => FT AY (f x sw) c []) t.un.2.2.2.2 [s] = some r) : Bq f t sw s = some r := by
  have e : CR f t.un.2.2.2.2 sw s = some r := by
    unfold CR
    rw [show Ba (BT f t.un.2.2.2.2 sw) (GE AY [] s, 0) = some r from Og t.un.2.2.2.2 hl (fun x c => FT AY (f x sw) c []) _ (fun i x c hx => by
        have hi : i < t.un.2.2.2.2.length := by
          rcases Nat.lt_or_ge i t.un.2.2.2.2.length with h | h
          · exact h
          · rw [List.getElem?_eq_none h] at hx; cases hx
        rw [BT, if_pos (by omega), DY hx, Option.bind_some, Ww]) (fun c => by rw [BT, if_neg (by omega)]) t.un.2.2.2.2.length 0 [s] r (by omega) h, Option.bind_some]
  unfold Bq
  rw [if_neg (by omega), if_neg (by omega), if_pos hk, e, Option.bind_some]; rfl
theorem XH (hk : t.un.1 = 4) (hl : t.un.2.2.2.2.length ≤ 1048576) (h : O0 (fun x c => (f x sw s).bind fun r => some (Ig AY c r)) t.un.2.2.2.2 [] = some r) : Bq f t sw s = some r := by
  unfold Bq
  rw [if_neg (by omega), if_neg (by omega), if_neg (by omega), if_pos hk, show Ba (Cn f t sw s) ([], 0) = some r from Og t.un.2.2.2.2 hl (fun x c => (f x sw s).bind fun r => some (Ig AY c r)) _ (fun i x c hx => by
        have hi : i < t.un.2.2.2.2.length := by
          rcases Nat.lt_or_ge i t.un.2.2.2.2.length with h | h
          · exact h
          · rw [List.getElem?_eq_none h] at hx; cases hx
        rw [Cn, if_pos (by omega), DY hx, Option.bind_some, So, T0]
        cases f x sw s <;> rfl) (fun c => by rw [Cn, if_neg (by omega)]) t.un.2.2.2.2.length 0 [] r (by omega) h, Option.bind_some]; rfl
theorem XP (hk : t.un.1 = 5) (hc : SmC t.un.2.1) {x : Tr37} (hlen : t.un.2.2.2.2.length = 2) (hx : t.un.2.2.2.2[if Ns (sw, s.1, s.2) t.un.2.1 = true then 0 else 1]? = some x) (hr : f x sw s = some r) : Bq f t sw s = some r := by
  have e : E2 t sw s = some x := by
    unfold E2
    rw [So, Vy hc, Option.bind_some]
    by_cases h : Ns (sw, s.1, s.2) t.un.2.1 = true
    · rw [if_pos h] at hx
      rw [if_pos h, Option.bind_some, if_neg (by omega), show ix t.un.2.2.2.2 0 = some x from DY (k := 0) hx, Option.bind_some, So, T0]
    · rw [if_neg h] at hx
      rw [if_neg h, Option.bind_some, if_neg (by omega), show ix t.un.2.2.2.2 1 = some x from DY (k := 1) hx, Option.bind_some, So, T0]
  unfold Bq
  rw [if_neg (by omega), if_neg (by omega), if_neg (by omega), if_neg (by omega), if_pos hk, So, T0, e, Option.bind_some, So, T0, hr, Option.bind_some]; rfl
end
theorem Uv (l : List Se) (x : Se) : (GE AY l x).length ≤ l.length + 1 := by
  induction l with
  | nil => simp [GE]
  | cons y l ih =>
    unfold GE
    split
    · simp
    · split
      · simp only [List.length_cons]; omega
      · simp
theorem Qr : ∀ (b a : List Se), (Ig AY a b).length ≤ a.length + b.length
  | [], a => by simp [Ig]
  | x :: b, a => by
    have h1 := Qr b (GE AY a x)
    have h2 := Uv a x
    show (Ig AY (GE AY a x) b).length ≤ _
    simp only [List.length_cons]
    omega
theorem Ro {g : Se → Option (List Se)} {m : Nat} : ∀ {l a b : List Se}, (∀ x ∈ l, ∀ r, g x = some r → r.length ≤ m) → FT AY g l a = some b → b.length ≤ a.length + l.length * m
  | [], a, b, _, h => by cases h; simp
  | x :: l, a, b, hm, h => by
    obtain ⟨r, h1, h2⟩ := Ag (show (g x).bind (fun r => FT AY g l (Ig AY a r)) = some b from h)
    have h3 := Ro (fun y hy => hm y (List.mem_cons_of_mem _ hy)) h2
    have h4 := hm x (List.mem_cons_self ..) r h1
    have h5 := Qr r a
    rw [List.length_cons, Nat.succ_mul]
    omega
abbrev Bd (S : List Se) (w : Int) : Prop := min (S.length : Int) 1000 ≤ w
theorem Wh {a m b : Nat} {n w : Int} (hb : b ≤ a * m) (hn : min (a : Int) 1000 ≤ n) (hw : (m : Int) ≤ w ∧ m < 1000) : min (b : Int) 1000 ≤ min (n * w) 1000 := by
  have h1 : (b : Int) ≤ (a : Int) * (m : Int) := by exact_mod_cast hb
  rcases Nat.lt_or_ge 1000 a with ha | ha
  · rcases Nat.eq_zero_or_pos m with hm | hm
    · subst hm
      have : b = 0 := by omega
      subst this
      have : (0 : Int) ≤ n * w := Int.mul_nonneg (by omega) (by omega)
      omega
    · have h2 : (1000 : Int) * 1 ≤ n * w := Int.mul_le_mul (by omega) (by omega) (by omega) (by omega)
      omega
  · have h2 : (a : Int) * (m : Int) ≤ n * w := Int.mul_le_mul (by omega) hw.1 (by omega) (by omega)
    omega
section
variable {G : Tr37 → Se → Option (List Se)}
theorem Vh {s : Se} : ∀ (l : List Tr37) (c : List Se) (n : Int), (∀ x ∈ l, ∃ S, G x s = some S ∧ H0 AY S ∧ Bd S (wd x)) → H0 AY c → Bd c n →
    ∃ r, O0 (fun x c => (G x s).bind fun r => some (Ig AY c r)) l c = some r ∧ H0 AY r ∧ Bd r ((l.map wd).foldl (wf 4) n)
  | [], c, n, _, hc, hb => ⟨c, rfl, hc, hb⟩
  | x :: l, c, n, h, hc, hb => by
    obtain ⟨S, h1, h2, h3⟩ := h x (List.mem_cons_self ..)
    obtain ⟨r, g1, g2, g3⟩ := Vh l (Ig AY c S) (wf 4 n (wd x)) (fun y hy => h y (List.mem_cons_of_mem _ hy)) (I6 Gh hc) (by
      have := Qr S c
      show min _ _ ≤ wf 4 n (wd x)
      unfold wf
      rw [if_neg (by decide), if_pos rfl]
      unfold Bd at hb h3
      omega)
    exact ⟨r, by show ((G x s).bind fun r => some (Ig AY c r)).bind _ = _; rw [h1]; exact g1, g2, g3⟩
theorem Vk : ∀ (l : List Tr37) (c : List Se) (n : Int), (∀ x ∈ l, ∀ s, ∃ S, G x s = some S ∧ H0 AY S ∧ Bd S (wd x)) → H0 AY c → Bd c n →
    ∃ r, O0 (fun x c => FT AY (G x) c []) l c = some r ∧ H0 AY r ∧ Bd r ((l.map wd).foldl (wf 3) n)
  | [], c, n, _, hc, hb => ⟨c, rfl, hc, hb⟩
  | x :: l, c, n, h, hc, hb => by
    have hx := h x (List.mem_cons_self ..)
    obtain ⟨b, hb1⟩ := Ir (lt := AY) (f := G x) (l := c) (a := []) Gh fun s _ => (hx s).imp fun S h => h.1
    have hA := (Fa Gh (List.Pairwise.nil) hb1).1
    have hw := Yg x
    have hbd : Bd b (wf 3 n (wd x)) := by
      unfold wf
      rw [if_pos rfl]
      unfold Bd at hb
      by_cases h0 : c = []
      · subst h0
        cases hb1
        have : (0 : Int) ≤ n * wd x := Int.mul_nonneg (by simp at hb; omega) hw.1
        simp only [Bd, List.length_nil]; omega
      · have hc1 : 1 ≤ c.length := by
          cases c with
          | nil => exact absurd rfl h0
          | cons y c => simp
        by_cases h1 : wd x < 1000
        · have h2 := Ro (m := (wd x).toNat) (fun s _ r hr => by
            obtain ⟨S, e1, _, e3⟩ := hx s
            rw [hr] at e1; cases e1
            unfold Bd at e3; omega) hb1
          exact Wh (by simpa using h2) hb ⟨by omega, by omega⟩
        · have h2 : (1 : Int) * 1000 ≤ n * wd x := Int.mul_le_mul (by omega) (by omega) (by omega) (by omega)
          show min _ _ ≤ min _ _
          omega
    obtain ⟨r, g1, g2, g3⟩ := Vk l b (wf 3 n (wd x)) (fun y hy => h y (List.mem_cons_of_mem _ hy)) hA hbd
    exact ⟨r, by show (FT AY (G x) c []).bind _ = _; rw [hb1]; exact g1, g2, g3⟩
end
theorem Vr {x : Int} : ∀ (l : List Int) (n : Int), (x ∈ l ∨ x ≤ n) → x ≤ l.foldl (wf 5) n
  | [], n, h => h.resolve_left (by simp)
  | y :: l, n, h => by
    refine Vr l _ ?_
    have : wf 5 n y = max n y := by unfold wf; rw [if_neg (by decide), if_neg (by decide)]
    rw [this]
    rcases h with h | h
    · rcases List.mem_cons.1 h with rfl | h
      · right; omega
      · exact .inl h
    · right; omega
theorem UI (p : PK) (f v : Int) : ∃ q, GB p f v = some q := by
  unfold GB
  by_cases h : Dm f = true
  · have hf : f = 0 ∨ f = 1 ∨ f = 2 ∨ f = 3 := by
      unfold Dm at h
      simp at h
      omega
    have ht : ∃ b, Gu f v = some b := by
      unfold Gu Hj Hp
      by_cases hv : 0 ≤ v
      · rw [if_pos hv]
        rcases hf with rfl | rfl | rfl | rfl <;> exact ⟨_, rfl⟩
      · rw [if_neg hv]; exact ⟨_, rfl⟩
    obtain ⟨b, hb⟩ := ht
    rw [if_pos h, hb]
    cases b with
    | false => exact ⟨_, rfl⟩
    | true => rcases hf with rfl | rfl | rfl | rfl <;> exact ⟨_, rfl⟩
  · rw [if_neg h]; exact ⟨_, rfl⟩
theorem RA (s : Se) (f v : Int) : ∃ q, Dz s f v = some q := by
  obtain ⟨q, hq⟩ := UI s.2 f v
  unfold Dz
  rw [hq]
  by_cases h : f = 4
  · rw [if_pos h]; exact ⟨_, rfl⟩
  · rw [if_neg h]; exact ⟨_, rfl⟩
theorem Q4 : ∀ (n : Nat) (t : Tr37), SizeOf.sizeOf t < n → Fi t → ∀ (sw : Int) (s : Se), ∃ S, Aj n t sw s = some S ∧ H0 AY S ∧ Bd S (wd t)
  | 0, t, h, _, _, _ => absurd h (Nat.not_lt_zero _)
  | n + 1, t, h, hf, sw, s => by
    have hl := hf.len
    have ih : ∀ x ∈ t.un.2.2.2.2, ∀ s, ∃ S, Aj n x sw s = some S ∧ H0 AY S ∧ Bd S (wd x) := fun x hx s => Q4 n x (by have := Xt hx; omega) (hf.ch hx) sw s
    have hk := hf.kind
    have hwd := TG t
    show ∃ S, Bq (Aj n) t sw s = some S ∧ _
    have hk5 : t.un.1 = 1 ∨ t.un.1 = 2 ∨ t.un.1 = 3 ∨ t.un.1 = 4 ∨ t.un.1 = 5 := by omega
    rcases hk5 with k | k | k | k | k
    · rw [if_neg (by omega)] at hwd
      refine ⟨_, XM _ sw k hf.q s, ?_⟩
      split
      · exact ⟨by simp [H0], by rw [hwd]; show min ((1 : Nat) : Int) 1000 ≤ 1; decide⟩
      · exact ⟨by simp [H0], by rw [hwd]; show min ((0 : Nat) : Int) 1000 ≤ 1; decide⟩
    · rw [if_neg (by omega)] at hwd
      obtain ⟨q, hq2⟩ := RA s t.un.2.2.1 t.un.2.2.2.1
      exact ⟨[q], Y4 _ sw k hq2, by simp [H0], by rw [hwd]; show min ((1 : Nat) : Int) 1000 ≤ 1; decide⟩
    · rw [if_pos (by omega), k] at hwd
      obtain ⟨r, g1, g2, g3⟩ := Vk (G := fun x s => Aj n x sw s) t.un.2.2.2.2 [s] 1 ih (by simp [H0]) (by show min ((1 : Nat) : Int) 1000 ≤ 1; decide)
      exact ⟨r, Ya _ sw k (by omega) g1, g2, by rw [hwd]; exact g3⟩
    · rw [if_pos (by omega), k] at hwd
      obtain ⟨r, g1, g2, g3⟩ := Vh (G := fun x s => Aj n x sw s) (s := s) t.un.2.2.2.2 [] 0 (fun x hx => ih x hx s) (by simp [H0]) (by show min ((0 : Nat) : Int) 1000 ≤ 0; decide)
      exact ⟨r, XH _ sw k (by omega) g1, g2, by rw [hwd]; exact g3⟩
    · rw [if_pos (by omega), k] at hwd
      have hlen : t.un.2.2.2.2.length = 2 := hf.two k
      have hi : (if Ns (sw, s.1, s.2) t.un.2.1 = true then 0 else 1) < t.un.2.2.2.2.length := by split <;> omega
      obtain ⟨S, g1, g2, g3⟩ := ih _ (List.getElem_mem hi) s
      refine ⟨S, XP _ sw k hf.q hlen (List.getElem?_eq_getElem hi) g1, g2, ?_⟩
      have := Vr (x := wd t.un.2.2.2.2[if Ns (sw, s.1, s.2) t.un.2.1 = true then 0 else 1]) (t.un.2.2.2.2.map wd) (w0 5) (.inl (List.mem_map.2 ⟨_, List.getElem_mem hi, rfl⟩))
      rw [hwd]
      exact Int.le_trans g3 this
theorem P2 {n : Nat} {t : Tr37} {sw : Int} {s : Se} {S : List Se} (h : Aj n t sw s = some S) : Eu t sw s = some S := Dv (g := fun n => Aj n t sw s) (fun n r h => E6 n t sw s r h) h
end Go.Proofs.YtpckgggmgijiiaaGreatDoor
namespace Go.Proofs.YtpckgggmgijiiaaGreatDoor
set_option linter.unusedVariables false
set_option linter.unusedSimpArgs false
open Go Go.RowKit
theorem Qj {S : List Se} (h : H0 AY S) : Ig AY [] S = S := I5 Gh (I6 Gh List.Pairwise.nil) h fun x => by rw [La Gh]; simp
theorem Mi {g : Se → Option (List Se)} {s : Se} {R : List Se} (h : g s = some R) (hA : H0 AY R) : FT AY g [s] [] = some R := by
  show (g s).bind (fun r => some (Ig AY [] r)) = some R
  rw [h, Option.bind_some, Qj hA]
abbrev ZQ : Tr34 := Tr34.of (0, 0, 0, ([] : List Tr34))
abbrev Ux (a b : Tr37) : Tr37 := Tr37.of (3, ZQ, 0, 0, [a, b])
abbrev Wy (a b : Tr37) : Tr37 := Tr37.of (4, ZQ, 0, 0, [a, b])
abbrev YF (f v : Int) : Tr37 := Tr37.of (2, ZQ, f, v, ([] : List Tr37))
theorem SH (k : Int) : SmC (Tr34.of (k, 0, 0, ([] : List Tr34))) := .mk _ (Nat.zero_le _) fun x hx => nomatch hx
section
variable {n : Nat} {a b : Tr37} {sw : Int} {s : Se} {X Y : List Se}
theorem PQ (h1 : Aj n a sw s = some X) (hX : H0 AY X) (h2 : FT AY (Aj n b sw) X [] = some Y) : Aj (n + 1) (Ux a b) sw s = some Y :=
  Ya (Aj n) (t := Ux a b) sw rfl (by show (2 : Nat) ≤ 1048576; decide) (by
    show (FT AY (Aj n a sw) [s] []).bind (fun c => (FT AY (Aj n b sw) c []).bind fun c => some c) = some Y
    rw [Mi h1 hX, Option.bind_some, h2]; rfl)
theorem VE (h1 : Aj n a sw s = some X) (h2 : Aj n b sw s = some Y) : Aj (n + 1) (Wy a b) sw s = some (Ig AY (Ig AY [] X) Y) :=
  XH (Aj n) (t := Wy a b) sw rfl (by show (2 : Nat) ≤ 1048576; decide) (by
    show ((Aj n a sw s).bind fun r => some (Ig AY [] r)).bind (fun c => ((Aj n b sw s).bind fun r => some (Ig AY c r)).bind fun c => some c) = _
    rw [h1, h2]; rfl)
end
theorem SX {W : List Se} (hl : W.length ≤ 1000000000) : KI W W = some true := by
  have st : ∀ (k : Nat) (h : k < W.length), Gq W W (k : Int) = some (.inl ((k + 1 : Nat) : Int)) := fun k h => by
    have hk : W[k]? = some W[k] := List.getElem?_eq_getElem h
    rw [Gq, if_pos (by omega), DY hk, Option.bind_some, Option.bind_some, if_neg (by simp)]
    rw [AK ⟨by omega, by omega⟩]; rfl
  have go : ∀ (d k : Nat), k + d = W.length → Ba (Gq W W) (k : Int) = some (.inl ()) := fun d => by
    induction d with
    | zero => intro k h; exact Bg (by rw [Gq, if_neg (by omega)])
    | succ d ih => intro k h; rw [Ce (st k (by omega))]; exact ih (k + 1) (by omega)
  unfold KI
  rw [if_neg (fun h => h rfl), show Ba (Gq W W) 0 = some (.inl ()) from go W.length 0 (by omega)]
  rfl
theorem Vt : ∀ (n : Nat) (t : Tr34), SizeOf.sizeOf t < n → mi (th t) = t
  | 0, t, h => absurd h (Nat.not_lt_zero _)
  | n + 1, t, h => by
    rw [Vn, WF]
    show Tr34.of (t.un.1, t.un.2.1, t.un.2.2.1, (t.un.2.2.2.map th).map mi) = t
    have e2 : (t.un.2.2.2.map th).map mi = t.un.2.2.2 := by
      rw [List.map_map]
      refine (List.map_congr_left fun x hx => Vt n x (by have := UC hx; omega)).trans (List.map_id _)
    rw [e2, So]
theorem U5 : ∀ (n : Nat) (t : Tr37), SizeOf.sizeOf t < n → pm (pt t) = t
  | 0, t, h => absurd h (Nat.not_lt_zero _)
  | n + 1, t, h => by
    rw [Vb, W3]
    show Tr37.of (t.un.1, mi (th t.un.2.1), t.un.2.2.1, t.un.2.2.2.1, (t.un.2.2.2.2.map pt).map pm) = t
    have e1 : mi (th t.un.2.1) = t.un.2.1 := Vt (SizeOf.sizeOf t.un.2.1 + 1) _ (by omega)
    have e2 : (t.un.2.2.2.2.map pt).map pm = t.un.2.2.2.2 := by
      rw [List.map_map]
      refine (List.map_congr_left fun x hx => U5 n x (by have := Xt hx; omega)).trans (List.map_id _)
    rw [e1, e2, T0]
theorem MV {a b : Tr37} (ha : Fi a) (hb : Fi b) (k : Int) (hk : k = 3 ∨ k = 4) : Fi (Tr37.of (k, ZQ, 0, 0, [a, b])) :=
  .mk _ ⟨by show 1 ≤ k; omega, by show k ≤ 5; omega⟩ (fun h => by have h' : k = 2 := h; omega) (fun h => by have h' : k = 5 := h; omega) (by show 2 ≤ 8; decide) (SH 0) fun x hx => by
    rcases List.mem_cons.1 (show x ∈ [a, b] from hx) with rfl | hx
    · exact ha
    · rw [List.mem_singleton.1 hx]; exact hb
abbrev XA : Tr37 := Ux (YF 1 3) (YF 4 1)
theorem SL : GG = some true := by
  have a1 : Eu XA 0 (5, (7, 2, 0, 0)) = some [(1, (7, 3, 0, 0))] := Mq 100 XA 0 (5, (7, 2, 0, 0)) _ (by kernel_rfl)
  have a2 : FK XA 0 5 (7, 2, 0, 0) = some [(1, (7, 3, 0, 0))] := RP a1 (by simp [H0]) (by decide)
  have a3 : Ib XA = some [100, 115, 116, 32, 58, 61, 32, 51, 59, 32, 112, 111, 114, 116, 32, 58, 61, 32, 49] := Ph 100 XA _ (by kernel_rfl)
  have a4 : FJ XA = some true := NT 100 XA _ (by kernel_rfl)
  have a5 : Hn XA = some 1 := K0 100 XA _ (by kernel_rfl)
  unfold GG
  have i0 : ix ([(1, 7, 3, 0, 0)] : List Se) 0 = some (1, 7, 3, 0, 0) := rfl
  rw [show FK _ 0 5 (7, 2, 0, 0) = _ from a2, Option.bind_some, if_pos (by rfl), i0, Option.bind_some, if_pos ⟨rfl, rfl, rfl, rfl, rfl⟩, show Ib _ = _ from a3, Option.bind_some, if_pos rfl, show FJ _ = _ from a4, Option.bind_some, if_pos rfl, show Hn _ = _ from a5, Option.bind_some]
  rfl
end Go.Proofs.YtpckgggmgijiiaaGreatDoor
namespace Go.Proofs.YtpckgggmgijiiaaGreatDoor
set_option linter.unusedVariables false
set_option linter.unusedSimpArgs false
open Go Go.RowKit
abbrev VM (a b c : Tr37) : Tr37 := Tr37.of (4, ZQ, 0, 0, [a, b, c])
abbrev VV (a b c : Tr37) : Tr37 := Tr37.of (3, ZQ, 0, 0, [a, b, c])
abbrev WM (p : Tr34) (a b : Tr37) : Tr37 := Tr37.of (5, p, 0, 0, [a, b])
abbrev UF (p : Tr34) : Tr37 := Tr37.of (1, p, 0, 0, ([] : List Tr37))
abbrev VJ (p : Tr34) : Tr34 := Tr34.of (4, 0, 0, [p])
section
variable {n : Nat} {a b d : Tr37} {sw : Int} {s : Se} {X Y W : List Se}
theorem WH (h1 : Aj n a sw s = some X) (h2 : Aj n b sw s = some Y) (h3 : Aj n d sw s = some W) : Aj (n + 1) (VM a b d) sw s = some (Ig AY (Ig AY (Ig AY [] X) Y) W) :=
  XH (Aj n) (t := VM a b d) sw rfl (by show (3 : Nat) ≤ 1048576; decide) (by
    show ((Aj n a sw s).bind fun r => some (Ig AY [] r)).bind (fun c => ((Aj n b sw s).bind fun r => some (Ig AY c r)).bind fun c => ((Aj n d sw s).bind fun r => some (Ig AY c r)).bind fun c => some c) = _
    rw [h1, h2, h3]; rfl)
theorem VL {V : List Se} (h1 : Aj n a sw s = some X) (hX : H0 AY X) (h2 : FT AY (Aj n b sw) X [] = some Y) (h3 : FT AY (Aj n d sw) Y [] = some V) : Aj (n + 1) (VV a b d) sw s = some V :=
  Ya (Aj n) (t := VV a b d) sw rfl (by show (3 : Nat) ≤ 1048576; decide) (by
    show (FT AY (Aj n a sw) [s] []).bind (fun c => (FT AY (Aj n b sw) c []).bind fun c => (FT AY (Aj n d sw) c []).bind fun c => some c) = some V
    rw [Mi h1 hX, Option.bind_some, h2, Option.bind_some, h3]; rfl)
end
theorem TE {X Y : List Se} (hX : H0 AY X) (hY : H0 AY Y) : Ig AY (Ig AY (Ig AY [] Y) X) Y = Ig AY (Ig AY [] X) Y := by
  have hA : ∀ {l m : List Se}, H0 AY l → H0 AY (Ig AY l m) := fun h => I6 Gh h
  refine I5 Gh (hA (hA (hA List.Pairwise.nil))) (hA (hA List.Pairwise.nil)) fun z => ?_
  simp only [La Gh, List.not_mem_nil, false_or]
  constructor
  · rintro ((h | h) | h)
    · exact .inr h
    · exact .inl h
    · exact .inr h
  · rintro (h | h)
    · exact .inl (.inr h)
    · exact .inr h
theorem R2 {f g : Se → Option (List Se)} (hf : ∀ s, ∃ S, f s = some S ∧ H0 AY S) (hg : ∀ s, ∃ S, g s = some S) (X : List Se) : ∃ Y V, FT AY f X [] = some Y ∧ FT AY g Y [] = some V ∧ FT AY (fun s => (f s).bind fun R => FT AY g R []) X [] = some V := by
  have hn : H0 AY ([] : List Se) := List.Pairwise.nil
  obtain ⟨Y, hY⟩ := Ir (lt := AY) (f := f) (l := X) (a := []) Gh fun x _ => (hf x).imp fun _ h => h.1
  obtain ⟨V, hV⟩ := Ir (lt := AY) (f := g) (l := Y) (a := []) Gh fun x _ => hg x
  have hfg : ∀ x, ∃ R, (f x).bind (fun R => FT AY g R []) = some R := fun x => by
    obtain ⟨S, h1, _⟩ := hf x
    obtain ⟨R, h2⟩ := Ir (lt := AY) (f := g) (l := S) (a := []) Gh fun x _ => hg x
    exact ⟨R, by rw [h1]; exact h2⟩
  obtain ⟨U, hU⟩ := Ir (lt := AY) (f := fun s => (f s).bind fun R => FT AY g R []) (l := X) (a := []) Gh fun x _ => hfg x
  obtain ⟨y1, _, y3⟩ := Fa Gh hn hY
  obtain ⟨v1, _, v3⟩ := Fa Gh hn hV
  obtain ⟨u1, _, u3⟩ := Fa Gh hn hU
  have e : U = V := by
    refine I5 Gh u1 v1 fun z => ?_
    rw [u3, v3]
    simp only [List.not_mem_nil, false_or]
    constructor
    · rintro ⟨x, hx, r, hr, hz⟩
      obtain ⟨S, h1, h2⟩ := Ag hr
      obtain ⟨_, _, q3⟩ := Fa Gh hn h2
      rcases (q3 z).1 hz with h | ⟨y, hy, r2, h5, h6⟩
      · cases h
      · exact ⟨y, (y3 y).2 (.inr ⟨x, hx, S, h1, hy⟩), r2, h5, h6⟩
    · rintro ⟨y, hy, r2, h5, h6⟩
      rcases (y3 y).1 hy with h | ⟨x, hx, S, h1, h2⟩
      · cases h
      · obtain ⟨R, h7⟩ := Ir (lt := AY) (f := g) (l := S) (a := []) Gh fun x _ => hg x
        obtain ⟨_, _, q3⟩ := Fa Gh hn h7
        exact ⟨x, hx, R, by rw [h1]; exact h7, (q3 z).2 (.inr ⟨y, h2, r2, h5, h6⟩)⟩
  exact ⟨Y, V, hY, hV, e ▸ hU⟩
theorem Vv {p : Tr34} (hc : SmC p) : SmC (VJ p) := .mk _ (by show 1 ≤ 8; decide) fun x hx => by rw [List.mem_singleton.1 (show x ∈ [p] from hx)]; exact hc
theorem Yu {n : Nat} {p : Tr34} (hc : SmC p) {a b : Tr37} {sw : Int} {s : Se} {X Y : List Se} (h1 : Aj (n + 1) a sw s = some X) (h2 : Aj (n + 1) b sw s = some Y) (hX : H0 AY X) (hY : H0 AY Y) :
    ∃ W, H0 AY W ∧ (W = X ∨ W = Y) ∧ Aj (n + 2) (WM p a b) sw s = some W ∧ Aj (n + 3) (Wy (Ux (UF p) a) (Ux (UF (VJ p)) b)) sw s = some W := by
  have hn : H0 AY ([] : List Se) := List.Pairwise.nil
  have f1 : Aj (n + 1) (UF p) sw s = some (if Ns (sw, s.1, s.2) p = true then [s] else []) := XM (Aj n) (t := UF p) sw rfl hc s
  have f2 : Aj (n + 1) (UF (VJ p)) sw s = some (if Ns (sw, s.1, s.2) (VJ p) = true then [s] else []) := XM (Aj n) (t := UF (VJ p)) sw rfl (Vv hc) s
  have hh : Ns (sw, s.1, s.2) (VJ p) = !Ns (sw, s.1, s.2) p := by rw [Ur]; rfl
  rw [hh] at f2
  by_cases h : Ns (sw, s.1, s.2) p = true
  · rw [if_pos h] at f1
    rw [h, if_neg (by decide)] at f2
    refine ⟨X, hX, .inl rfl, XP (Aj (n + 1)) (t := WM p a b) sw rfl hc (x := a) rfl (by show (_ : List _)[if Ns (sw, s.1, s.2) p = true then 0 else 1]? = _; rw [if_pos h]; rfl) h1, ?_⟩
    rw [VE (PQ f1 (by simp [H0]) (Mi h1 hX)) (PQ f2 hn rfl)]
    show some (Ig AY [] X) = _
    rw [Qj hX]
  · rw [if_neg h] at f1
    have hF : Ns (sw, s.1, s.2) p = false := Bool.eq_false_iff.2 h
    rw [hF, if_pos (by decide)] at f2
    refine ⟨Y, hY, .inr rfl, XP (Aj (n + 1)) (t := WM p a b) sw rfl hc (x := b) rfl (by show (_ : List _)[if Ns (sw, s.1, s.2) p = true then 0 else 1]? = _; rw [if_neg h]; rfl) h2, ?_⟩
    rw [VE (PQ f1 hn rfl) (PQ f2 (by simp [H0]) (Mi h2 hY))]
    show some (Ig AY [] Y) = _
    rw [Qj hY]
theorem Wu {p : Tr34} (hp : SmC p) {a b : Tr37} (ha : Fi a) (hb : Fi b) : Fi (WM p a b) :=
  .mk _ ⟨by show (1 : Int) ≤ 5; decide, by show (5 : Int) ≤ 5; decide⟩ (fun h => by have h' : (5 : Int) = 2 := h; omega) (fun _ => rfl) (by show 2 ≤ 8; decide) hp fun x hx => by
    rcases List.mem_cons.1 (show x ∈ [a, b] from hx) with rfl | hx
    · exact ha
    · rw [List.mem_singleton.1 hx]; exact hb
theorem Vu {p : Tr34} (hp : SmC p) : Fi (UF p) :=
  .mk _ ⟨by show (1 : Int) ≤ 1; decide, by show (1 : Int) ≤ 5; decide⟩ (fun h => by have h' : (1 : Int) = 2 := h; omega) (fun h => by have h' : (1 : Int) = 5 := h; omega) (Nat.zero_le _) hp fun x hx => nomatch hx
theorem RI {a b d : Tr37} (ha : Fi a) (hb : Fi b) (hd : Fi d) (k : Int) (hk : k = 3 ∨ k = 4) : Fi (Tr37.of (k, ZQ, 0, 0, [a, b, d])) :=
  .mk _ ⟨by show 1 ≤ k; omega, by show k ≤ 5; omega⟩ (fun h => by have h' : k = 2 := h; omega) (fun h => by have h' : k = 5 := h; omega) (by show 3 ≤ 8; decide) (SH 0) fun x hx => by
    rcases List.mem_cons.1 (show x ∈ [a, b, d] from hx) with rfl | hx
    · exact ha
    · rcases List.mem_cons.1 hx with rfl | hx
      · exact hb
      · rw [List.mem_singleton.1 hx]; exact hd
abbrev Za (a b d : Tr37) (m : Tr34) : List (List Tr37) := [[Wy a b, VM b a b], [VV a b d, Ux a (Ux b d)], [WM m a b, Wy (Ux (UF m) a) (Ux (UF (VJ m)) b)]]
theorem Qk {a b d x y : Tr37} {m : Tr34} {p4 p5 : Int} {p6 : PK} (i : Nat) (hi : i < 3) (hx : (Za a b d m)[i]? = some [x, y]) (hfx : Fi x) (hfy : Fi y)
    (hr : ∃ n1 n2 W, Aj n1 x p4 (p5, p6) = some W ∧ Aj n2 y p4 (p5, p6) = some W ∧ H0 AY W) : C0 p4 p5 p6 a b d m (i : Int) = some (.inl ((i : Int) + 1)) := by
  obtain ⟨n1, n2, W, r1, r2, rA⟩ := hr
  obtain ⟨bx, e1, e2⟩ := JM (pt x)
  obtain ⟨by_, e3, _⟩ := JM (pt y)
  have hw : AU ((i : Int) + 1) = (i : Int) + 1 := AK ⟨by omega, by omega⟩
  rw [C0]
  simp only [BC, So, T0, Sw, TT]
  rw [if_pos (by show (i : Int) < 3; omega), show ix _ (i : Int) = some [x, y] from DY hx, Option.bind_some, show ix [x, y] 0 = some x from rfl, Option.bind_some, Option.bind_some, show ix [x, y] 1 = some y from rfl, Option.bind_some, Ri hfx, Option.bind_some, e1, Option.bind_some]
  cases bx with
  | false => rw [if_neg (by decide), Option.bind_some, if_neg (by decide), hw]
  | true =>
    rw [if_pos rfl, Ri hfy, Option.bind_some, e3, Option.bind_some]
    cases by_ with
    | false => rw [if_neg (by decide), Option.bind_some, if_neg (by decide), hw]
    | true =>
      have hwd := (e2 rfl).2
      rw [U5 (SizeOf.sizeOf x + 1) x (by omega)] at hwd
      obtain ⟨S, s1, _, s3⟩ := Q4 (SizeOf.sizeOf x + 1) x (by omega) hfx p4 (p5, p6)
      have hSW : S = W := Option.some.inj ((P2 s1).symm.trans (P2 r1))
      subst hSW
      have hlen : S.length ≤ 1000000000 := by unfold Bd at s3; omega
      rw [if_pos rfl, RP (P2 r1) rA hlen, Option.bind_some, RP (P2 r2) rA hlen, Option.bind_some, SX hlen, Option.bind_some, Option.bind_some, if_neg (by decide), hw]
theorem M3 (p0 : Tr27) {A0 : Prop} (_ : A0) (p1 : Tr27) {A1 : Prop} (_ : A1) (p2 : Tr27) {A2 : Prop} (_ : A2) (p3 : Tr24) {A3 : Prop} (_ : A3) (p4 : Int) {A4 : Prop} (_ : A4) (p5 : Int) {A5 : Prop} (_ : A5) (p6 : PK) {A6 : Prop} (_ : A6) : G0 p0 p1 p2 p3 p4 p5 p6 = some true := by
  unfold G0
  simp only [Sw, TT]
  have out : ∀ {X : Option Bool}, X = some true → (X.bind fun x1 => if x1 = true then (GG).bind fun x6 => some x6 else (H4 p0).bind fun x7 => (H4 p1).bind fun x8 => (H4 p2).bind fun x9 => (Kn p3).bind fun x10 => Ku (Ba (C0 p4 p5 p6 x7 x8 x9 x10) 0) fun _ => (GG).bind fun x24 => some x24) = some true := fun h => by rw [h, Option.bind_some, if_pos rfl, SL]; rfl
  obtain ⟨b0, e0, f0⟩ := JM p0
  cases b0 with
  | false => exact out (by rw [e0]; rfl)
  | true =>
  obtain ⟨b1, e1, f1⟩ := JM p1
  cases b1 with
  | false => exact out (by rw [e0, e1]; rfl)
  | true =>
  obtain ⟨b2, e2, f2⟩ := JM p2
  cases b2 with
  | false => exact out (by rw [e0, e1, e2]; rfl)
  | true =>
  obtain ⟨b3, e3, f3⟩ := SN p3
  cases b3 with
  | false => exact out (by rw [e0, e1, e2, e3]; rfl)
  | true =>
  obtain ⟨ha, _⟩ := f0 rfl
  obtain ⟨hb, _⟩ := f1 rfl
  obtain ⟨hd, _⟩ := f2 rfl
  have hm := f3 rfl
  rw [e0, e1, e2, e3, Option.bind_some, if_neg (by decide), Option.bind_some, if_neg (by decide), Option.bind_some, if_neg (by decide), Option.bind_some, Option.bind_some, if_neg (by decide), Sa ha, Option.bind_some, Sa hb, Option.bind_some, Sa hd, Option.bind_some, Vp hm, Option.bind_some]
  generalize pm p0 = a at ha
  generalize pm p1 = b at hb
  generalize pm p2 = d at hd
  generalize mi p3 = m at hm
  generalize hn : SizeOf.sizeOf a + SizeOf.sizeOf b + SizeOf.sizeOf d + 1 = n
  have ra := Q4 n a (by omega) ha p4
  have rb := Q4 n b (by omega) hb p4
  have rd := Q4 n d (by omega) hd p4
  obtain ⟨X, x1, x2, _⟩ := ra (p5, p6)
  obtain ⟨Y, y1, y2, _⟩ := rb (p5, p6)
  have hA : ∀ {l m : List Se}, H0 AY l → H0 AY (Ig AY l m) := fun h => I6 Gh h
  have up : ∀ {k : Nat} {t : Tr37} {s : Se} {R : List Se}, Aj k t p4 s = some R → Aj (k + 1) t p4 s = some R := fun h => E6 _ _ _ _ _ h
  have g0 : C0 p4 p5 p6 a b d m 0 = some (.inl 1) := Qk 0 (by decide) rfl (MV ha hb 4 (.inr rfl)) (RI hb ha hb 4 (.inr rfl)) ⟨n + 1, n + 1, _, VE x1 y1, (WH y1 x1 y1).trans (congrArg some (TE x2 y2)), hA (hA List.Pairwise.nil)⟩
  have g1 : C0 p4 p5 p6 a b d m 1 = some (.inl 2) := by
    obtain ⟨Y', V, q1, q2, q3⟩ := R2 (f := Aj n b p4) (g := Aj n d p4) (fun s => (rb s).imp fun _ h => ⟨h.1, h.2.1⟩) (fun s => (rd s).imp fun _ h => h.1) X
    have hF : Aj (n + 1) (Ux b d) p4 = fun s => (Aj n b p4 s).bind fun R => FT AY (Aj n d p4) R [] := by
      funext s
      obtain ⟨S, z1, z2, _⟩ := rb s
      obtain ⟨R, z3⟩ := Ir (lt := AY) (f := Aj n d p4) (l := S) (a := []) Gh fun x _ => (rd x).imp fun _ h => h.1
      rw [z1, Option.bind_some, z3]
      exact PQ z1 z2 z3
    have hV := (Fa Gh (List.Pairwise.nil : H0 AY ([] : List Se)) q2).1
    exact Qk 1 (by decide) rfl (RI ha hb hd 3 (.inl rfl)) (MV ha (MV hb hd 3 (.inl rfl)) 3 (.inl rfl)) ⟨n + 1, n + 2, V, VL x1 x2 q1 q2, PQ (up x1) x2 (by rw [hF]; exact q3), hV⟩
  have g2 : C0 p4 p5 p6 a b d m 2 = some (.inl 3) := by
    obtain ⟨W, w1, _, w2, w3⟩ := Yu hm (up x1) (up y1) x2 y2
    exact Qk 2 (by decide) rfl (Wu hm ha hb) (MV (MV (Vu hm) ha 3 (.inl rfl)) (MV (Vu (Vv hm)) hb 3 (.inl rfl)) 4 (.inr rfl)) ⟨_, _, W, w2, w3, w1⟩
  rw [Ce g0, Ce g1, Ce g2, Bg (e := .inl ()) (by rw [C0]; simp only [BC, So, T0]; rw [if_neg (by show ¬ (3 : Int) < 3; decide)])]
  show (GG).bind (fun x24 => some x24) = _
  rw [SL]; rfl
end Go.Proofs.YtpckgggmgijiiaaGreatDoor
